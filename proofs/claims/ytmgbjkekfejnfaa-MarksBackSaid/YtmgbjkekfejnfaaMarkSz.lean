/- How large marks that came in may be: their texts and lists lie in memory. -/
import Derived.Test.YtmgbjkekfejnfaaMarkMw
import Derived.Test.YtmgbjkekfejnfaaMarkArg
import Derived.SizedLaws
namespace Go.Proofs.Ytmgbjkekfejnfaa
open Go.ChangeShapes Go.WideShapes Go.ChangeAt Go.RowKit Go.Lib
set_option maxRecDepth 100000
set_option linter.unusedVariables false
theorem two_of {α : Type} {l : List α} (h : l.length = 2) : ∃ a b, l = [a, b] := by
  match l, h with
  | [a, b], _ => exact ⟨a, b, rfl⟩
theorem three_of {α : Type} {l : List α} (h : l.length = 3) : ∃ a b c, l = [a, b, c] := by
  match l, h with
  | [a, b, c], _ => exact ⟨a, b, c, rfl⟩
section
variable {H : Type} {enc : TypeId × Value → H}
/-- No text and no list of it is longer than memory reaches. -/
def Wt (P : Program) (t : TypeId) (d : DataW H) : Prop := ∀ m ∈ DataW.weights P t d, m ≤ reachBytes
theorem mem_all {P : Program} {e : TypeId} {d : DataW H} {m : Nat} (hm : m ∈ d.weights P e) : ∀ {es : List (DataW H)}, d ∈ es → m ∈ DataW.weightsAll P e es
  | x :: r, h => by
    simp only [DataW.weightsAll, List.mem_append]
    rcases List.mem_cons.1 h with rfl | h
    · exact .inl hm
    · exact .inr (mem_all hm h)
theorem Wt.slice {P : Program} {t e : TypeId} {es sp : List (DataW H)} (h : Wt P t (.slice es sp)) (hu : P.underlying t = some (.slice e)) : (es.length + sp.length) * P.bytesOf e ≤ reachBytes ∧ ∀ d ∈ es, Wt P e d := by
  have key : DataW.weights P t (.slice es sp) = (es.length + sp.length) * P.bytesOf e :: (DataW.weightsAll P e es ++ DataW.weightsAll P e sp) := by simp [DataW.weights, hu]
  refine ⟨h _ (by rw [key]; exact List.mem_cons_self), fun d hd m hm => h m ?_⟩
  rw [key]
  exact List.mem_cons_of_mem _ (List.mem_append_left _ (mem_all hm hd))
theorem Wt.part {P : Program} {t : TypeId} {fs : Array Field} {ds : List (DataW H)} (h : Wt P t (.agg ds)) (hu : P.underlying t = some (.struct fs)) {j : Nat} {f : Field} {d : DataW H} (hf : fs.toList[j]? = some f) (hd : ds[j]? = some d) : Wt P f.type d := fun m hm => h m (by
  have key : DataW.weights P t (.agg ds) = DataW.weightsEach P (fs.toList.map (·.type)) ds := by simp [DataW.weights, hu]
  rw [key]
  exact DataW.weights_mem_each (by rw [List.getElem?_map, hf]; rfl) hd m hm)
theorem Wt.text {P : Program} {t : TypeId} {b : List UInt8} (h : Wt P t (.lit (.string b) : DataW H)) : b.length ≤ reachBytes := h _ (by simp [DataW.weights])
/-- A struct of two cells, opened, with what it reads as. -/
theorem open_two' {P : Program} {w : World} {base : Nat} {spare : Nat → Bool} {held : Bool} {e : TypeId} {f0 f1 : Field} {fuel : Nat} {v0 v1 : Value} {x : DataW H × List MemPlace} (he : P.underlying e = some (.struct #[f0, f1]))
    (o : f0.offset = 0 ∧ f1.offset = 1) (c : P.cellsOf f0.type = 1 ∧ P.cellsOf f1.type = 1)
    (h : DataW.trod enc P w base spare held fuel e [v0, v1] = some x) :
    ∃ y0 y1 k, x.1 = .agg [y0.1, y1.1] ∧ DataW.trod enc P w base spare held k f0.type [v0] = some y0 ∧ DataW.trod enc P w base spare held k f1.type [v1] = some y1 := by
  obtain ⟨xs, k, hk, hx, hlen, hxl, hf⟩ := DataW.trod_struct he h
  obtain ⟨o0, o1⟩ := o
  obtain ⟨c0, c1⟩ := c
  match xs, hxl with
  | [y0, y1], _ =>
    have g0 := hf 0 f0 rfl
    have g1 := hf 1 f1 rfl
    simp [o0, o1, c0, c1] at g0 g1
    exact ⟨y0, y1, k, by rw [hx]; rfl, g0, g1⟩
theorem open_three' {P : Program} {w : World} {base : Nat} {spare : Nat → Bool} {held : Bool} {e : TypeId} {f0 f1 f2 : Field} {fuel : Nat} {v0 v1 v2 : Value} {x : DataW H × List MemPlace} (he : P.underlying e = some (.struct #[f0, f1, f2]))
    (o : f0.offset = 0 ∧ f1.offset = 1 ∧ f2.offset = 2) (c : P.cellsOf f0.type = 1 ∧ P.cellsOf f1.type = 1 ∧ P.cellsOf f2.type = 1)
    (h : DataW.trod enc P w base spare held fuel e [v0, v1, v2] = some x) :
    ∃ y0 y1 y2 k, x.1 = .agg [y0.1, y1.1, y2.1] ∧ DataW.trod enc P w base spare held k f0.type [v0] = some y0 ∧ DataW.trod enc P w base spare held k f1.type [v1] = some y1 ∧ DataW.trod enc P w base spare held k f2.type [v2] = some y2 := by
  obtain ⟨xs, k, hk, hx, hlen, hxl, hf⟩ := DataW.trod_struct he h
  obtain ⟨o0, o1, o2⟩ := o
  obtain ⟨c0, c1, c2⟩ := c
  match xs, hxl with
  | [y0, y1, y2], _ =>
    have g0 := hf 0 f0 rfl
    have g1 := hf 1 f1 rfl
    have g2 := hf 2 f2 rfl
    simp [o0, o1, o2, c0, c1, c2] at g0 g1 g2
    exact ⟨y0, y1, y2, k, by rw [hx]; rfl, g0, g1, g2⟩
/-- A text that came in is not longer than memory reaches. -/
theorem text_sized {W : World} {k : Nat} {l : List UInt8} {y : DataW H × List MemPlace} (h : DataW.trod enc Try.prog W 0 (fun _ => true) true k 9 [.string (bs l)] = some y) (hw : Wt Try.prog 9 y.1) : l.length ≤ 281474976710656 := by
  obtain ⟨s, e, rfl, _⟩ := DataW.trod_string Try.underlying9 h
  have := hw.text
  simp at e
  subst e
  have hr : reachBytes = 140737488351232 := rfl
  rw [hr] at this
  have e2 : (bs l).data.toList = l := by simp [bs]
  rw [e2] at this
  omega
theorem attrs_sized {W : World} {n : Nat} {a : Option Addr} {len cap : Nat} {ls : List (List UInt8 × List UInt8)} {y : DataW H × List MemPlace} (h : DataW.trod enc Try.prog W 0 (fun _ => true) true n 23 [.slice a len cap] = some y)
    (hA : IsA W a len ls) (hw : Wt Try.prog 23 y.1) : len ≤ 17592186044416 ∧ ∀ p ∈ ls, p.1.length ≤ 281474976710656 ∧ p.2.length ≤ 281474976710656 := by
  rcases DataW.trod_slice Try.underlying23 h with ⟨hcs, _⟩ | ⟨x, l, c, elems, rest, m, rfl, hcs, rfl, _, hl, hm, hlen, hel, _⟩
  · simp at hcs
    obtain ⟨rfl, rfl, rfl⟩ := hcs
    have h0 := hA.1
    refine ⟨by omega, fun p hp => ?_⟩
    rw [List.length_eq_zero_iff.1 h0] at hp
    cases hp
  · simp at hcs
    obtain ⟨rfl, rfl, rfl⟩ := hcs
    obtain ⟨k1, k2⟩ := Wt.slice hw Try.underlying23
    have hr : reachBytes = 140737488351232 := rfl
    rw [show Try.prog.bytesOf 38 = 32 by kernel_rfl, List.length_map, hlen, hr] at k1
    refine ⟨by omega, fun p hp => ?_⟩
    obtain ⟨i, hi⟩ := List.getElem?_of_mem hp
    have hil : i < len := by have := (List.getElem?_eq_some_iff.1 hi).1; have := hA.1; omega
    obtain ⟨_, h0 | ⟨b, off, e, hat⟩⟩ := hA
    · omega
    obtain rfl := Option.some.inj e
    obtain ⟨g0, g1⟩ := hat i p hi
    have key := hel i hil
    rw [show Try.prog.cellsOf 38 = 2 by kernel_rfl, List.getElem?_eq_getElem (by omega)] at key
    obtain ⟨cs, u1, u2⟩ := Option.bind_eq_some_iff.1 key
    obtain ⟨_, hcl, hc⟩ := World.cells?_some u1
    have c0 := hc 0 (by omega)
    have c1 := hc 1 (by omega)
    rw [addr_add, addr_add] at c0 c1
    rw [Nat.add_zero, g0] at c0
    rw [g1] at c1
    have hd := k2 elems[i].1 (List.mem_map_of_mem (List.getElem_mem _))
    obtain ⟨v0, v1, rfl⟩ := two_of hcl
    · simp at c0 c1
      subst c0 c1
      obtain ⟨y0, y1, k, hy, t0, t1⟩ := open_two' Try.underlying38 ⟨rfl, rfl⟩ ⟨by kernel_rfl, by kernel_rfl⟩ u2
      rw [hy] at hd
      exact ⟨text_sized t0 (hd.part Try.underlying38 (j := 0) rfl rfl), text_sized t1 (hd.part Try.underlying38 (j := 1) rfl rfl)⟩
theorem mark_sized {W : World} {n : Nat} {r : MR} {x : Mk.M} {y : DataW H × List MemPlace} (h : DataW.trod enc Try.prog W 0 (fun _ => true) true n 25 [.int .i64 r.id, .string (bs r.name), .slice r.aa r.an r.ac] = some y)
    (hC : CameM W r x) (hw : Wt Try.prog 25 y.1) : SizedM r x := by
  obtain ⟨y0, y1, y2, k, hy, t0, t1, t2⟩ := open_three' Try.underlying25 ⟨rfl, rfl, rfl⟩ ⟨by kernel_rfl, by kernel_rfl, by kernel_rfl⟩ h
  rw [hy] at hw
  have s1 := text_sized t1 (hw.part Try.underlying25 (j := 1) rfl rfl)
  obtain ⟨s2, s3⟩ := attrs_sized t2 hC.atts (hw.part Try.underlying25 (j := 2) rfl rfl)
  exact ⟨s2, by rw [← hC.name]; exact s1, s3⟩
theorem marks_sized {W : World} {n : Nat} {a : Option Addr} {len cap : Nat} {rs : List MR} {xs : List Mk.M} {y : DataW H × List MemPlace} (h : DataW.trod enc Try.prog W 0 (fun _ => true) true n 22 [.slice a len cap] = some y)
    (hR : RowM W a len rs) (hC : CamesM W rs xs) (hw : Wt Try.prog 22 y.1) : len ≤ 281474976710656 ∧ ∀ (i : Nat) r x, rs[i]? = some r → xs[i]? = some x → SizedM r x := by
  rcases DataW.trod_slice Try.underlying22 h with ⟨hcs, _⟩ | ⟨x, l, c, elems, rest, m, rfl, hcs, rfl, _, hl, hm, hlen, hel, _⟩
  · simp at hcs
    obtain ⟨rfl, rfl, rfl⟩ := hcs
    have h0 := hR.1
    refine ⟨by omega, fun i r x hr => ?_⟩
    rw [List.length_eq_zero_iff.1 h0] at hr
    simp at hr
  · simp at hcs
    obtain ⟨rfl, rfl, rfl⟩ := hcs
    obtain ⟨k1, k2⟩ := Wt.slice hw Try.underlying22
    have hr : reachBytes = 140737488351232 := rfl
    rw [show Try.prog.bytesOf 25 = 48 by kernel_rfl, List.length_map, hlen, hr] at k1
    refine ⟨by omega, fun i r x hi hx => ?_⟩
    have hil : i < len := by have := (List.getElem?_eq_some_iff.1 hi).1; have := hR.1; omega
    obtain ⟨_, h0 | ⟨b, off, e, hat⟩⟩ := hR
    · omega
    obtain rfl := Option.some.inj e
    obtain ⟨g0, g1, g2⟩ := hat i r hi
    have key := hel i hil
    rw [show Try.prog.cellsOf 25 = 3 by kernel_rfl, List.getElem?_eq_getElem (by omega)] at key
    obtain ⟨cs, u1, u2⟩ := Option.bind_eq_some_iff.1 key
    obtain ⟨_, hcl, hc⟩ := World.cells?_some u1
    have c0 := hc 0 (by omega)
    have c1 := hc 1 (by omega)
    have c2 := hc 2 (by omega)
    rw [addr_add, addr_add] at c0 c1 c2
    rw [Nat.add_zero, g0] at c0
    rw [g1] at c1
    rw [g2] at c2
    have hd := k2 elems[i].1 (List.mem_map_of_mem (List.getElem_mem _))
    obtain ⟨v0, v1, v2, rfl⟩ := three_of hcl
    · simp at c0 c1 c2
      subst c0 c1 c2
      exact mark_sized u2 (hC.2 i r x hi hx) hd
end
end Go.Proofs.Ytmgbjkekfejnfaa
