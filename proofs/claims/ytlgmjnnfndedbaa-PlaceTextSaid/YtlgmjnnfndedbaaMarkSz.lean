/- A list of attributes that came in, as the walks take it. How large marks that came in may be: their texts and lists lie in memory. -/
import Derived.Test.YtlgmjnnfndedbaaAppT
import Derived.Test.YtlgmjnnfndedbaaMarkM
import Derived.Test.YtlgmjnnfndedbaaRefWhole
import Derived.ProofKit
import Derived.OpenShut
import Derived.ChangeOld
import Derived.Deep.SlicePairs
import Derived.Lib.SmallJoins
import Derived.Deep.LoopGhost
import Derived.IntWalk
import Derived.BigCall
import Derived.SizedLaws
namespace Go.Proofs.Ytlgmjnnfndedbaa
open Go.ChangeShapes Go.WideShapes Go.ChangeAt Go.RowKit Go.Lib Go.Deep Go.Joins
set_option maxRecDepth 100000
set_option linter.unusedVariables false
section
variable {H : Type} {enc : TypeId × Value → H}
/-- A list of attributes, out of its reading. -/
theorem attrs_arg {W : World} {n : Nat} {v : Value} {y : DataW H × List MemPlace} (h : DataW.trod enc Try.prog W 0 (fun _ => true) true n 29 [v] = some y) :
    ∃ a len cap ls, v = .slice a len cap ∧ IsA W a len ls ∧ len ≤ cap ∧ cap ≤ maxLen ∧ (a = none → cap = 0) ∧ ∀ x ∈ ls, x.1.length ≤ maxLen ∧ x.2.length ≤ maxLen := by
  rcases open_slice_pairs Try.underlying29 Try.underlying91 (by kernel_rfl) rfl rfl (by kernel_rfl) (by kernel_rfl) h with ⟨hcs, _⟩ | ⟨x, len, cap, m, k, V0, V1, D0, D1, P0, P1, hcs, _, hl, hm, hmm, _, hcell⟩
  · simp at hcs
    exact ⟨none, 0, 0, [], hcs, ⟨rfl, .inl rfl⟩, Nat.le_refl _, by unfold maxLen; omega, fun _ => rfl, fun l hl => (by cases hl)⟩
  · simp at hcs
    have hml : len ≤ m := by rw [hmm]; simp; exact hl
    have hall : ∀ i, ∃ z : List UInt8 × List UInt8, i < len → W.cell? (x.add (i * 2)) = some (.string (bs z.1)) ∧ W.cell? (x.add (i * 2 + 1)) = some (.string (bs z.2)) ∧ z.1.length ≤ maxLen ∧ z.2.length ≤ maxLen := by
      intro i
      by_cases hi : i < len
      · obtain ⟨h0, h1, t0, t1⟩ := hcell i (by omega)
        obtain ⟨s0, e0, _, z0⟩ := DataW.trod_string Try.underlying9 t0
        obtain ⟨s1, e1, _, z1⟩ := DataW.trod_string Try.underlying9 t1
        simp at e0 e1
        refine ⟨(s0.data.toList, s1.data.toList), fun _ => ⟨?_, ?_, ?_, ?_⟩⟩
        · rw [h0, e0]; rfl
        · rw [h1, e1]; rfl
        · show s0.data.toList.length ≤ _; rw [size_list]; exact z0
        · show s1.data.toList.length ≤ _; rw [size_list]; exact z1
      · exact ⟨([], []), fun h => absurd h hi⟩
    obtain ⟨f, hf⟩ := Classical.axiomOfChoice hall
    refine ⟨some x, len, cap, (List.range len).map f, hcs, ⟨by simp, ?_⟩, hl, hm, fun e => (by cases e), ?_⟩
    · by_cases h0 : len = 0
      · exact .inl h0
      · obtain ⟨b, off, sp⟩ := x
        have hx0 := (hf 0 (by omega)).1
        have : sp = none := by simpa [Addr.add] using World.cell?_spot hx0
        subst this
        refine .inr ⟨b, off, rfl, fun i z hi => ?_⟩
        rw [List.getElem?_map, Option.map_eq_some_iff] at hi
        obtain ⟨j, hj, rfl⟩ := hi
        have hjl : i < len := by
          have := (List.getElem?_eq_some_iff.1 hj).1
          simpa using this
        rw [List.getElem?_range hjl] at hj
        obtain rfl := Option.some.inj hj
        obtain ⟨g0, g1, _, _⟩ := hf i hjl
        rw [add_plain] at g0 g1
        exact ⟨g0, by rw [Nat.add_assoc]; exact g1⟩
    · intro z hz
      obtain ⟨i, hi, rfl⟩ := List.mem_map.1 hz
      obtain ⟨_, _, g2, g3⟩ := hf i (List.mem_range.1 hi)
      exact ⟨g2, g3⟩
end
end Go.Proofs.Ytlgmjnnfndedbaa
namespace Go.Proofs.Ytlgmjnnfndedbaa
open Go.ChangeShapes Go.WideShapes Go.ChangeAt Go.RowKit Go.Lib
set_option maxRecDepth 100000
set_option linter.unusedVariables false
theorem two_of {α : Type} {l : List α} (h : l.length = 2) : ∃ a b, l = [a, b] := by
  match l, h with
  | [a, b], _ => exact ⟨a, b, rfl⟩
section
variable {H : Type} {enc : TypeId × Value → H}
/-- No text and no list of it is longer than memory reaches. -/
def Wt (P : Program) (t : TypeId) (d : DataW H) : Prop := ∀ m ∈ DataW.weights P t d, m ≤ reachBytes
theorem mem_all {P : Program} {e : TypeId} {d : DataW H} {m : Nat} (hm : m ∈ d.weights P e) : ∀ {es : List (DataW H)}, d ∈ es → m ∈ DataW.weightsAll P e es
  | x :: r, h => by
    simp only [DataW.weightsAll, List.mem_append]
    rcases List.mem_cons.1 h with rfl | h
    · exact .inl hm
    · exact .inr (mem_all hm h)
theorem Wt.slice {P : Program} {t e : TypeId} {es sp : List (DataW H)} (h : Wt P t (.slice es sp)) (hu : P.underlying t = some (.slice e)) : (es.length + sp.length) * P.bytesOf e ≤ reachBytes ∧ ∀ d ∈ es, Wt P e d := by
  have key : DataW.weights P t (.slice es sp) = (es.length + sp.length) * P.bytesOf e :: (DataW.weightsAll P e es ++ DataW.weightsAll P e sp) := by simp [DataW.weights, hu]
  refine ⟨h _ (by rw [key]; exact List.mem_cons_self), fun d hd m hm => h m ?_⟩
  rw [key]
  exact List.mem_cons_of_mem _ (List.mem_append_left _ (mem_all hm hd))
theorem Wt.part {P : Program} {t : TypeId} {fs : Array Field} {ds : List (DataW H)} (h : Wt P t (.agg ds)) (hu : P.underlying t = some (.struct fs)) {j : Nat} {f : Field} {d : DataW H} (hf : fs.toList[j]? = some f) (hd : ds[j]? = some d) : Wt P f.type d := fun m hm => h m (by
  have key : DataW.weights P t (.agg ds) = DataW.weightsEach P (fs.toList.map (·.type)) ds := by simp [DataW.weights, hu]
  rw [key]
  exact DataW.weights_mem_each (by rw [List.getElem?_map, hf]; rfl) hd m hm)
theorem Wt.text {P : Program} {t : TypeId} {b : List UInt8} (h : Wt P t (.lit (.string b) : DataW H)) : b.length ≤ reachBytes := h _ (by simp [DataW.weights])
/-- A struct of two cells, opened, with what it reads as. -/
theorem open_two' {P : Program} {w : World} {base : Nat} {spare : Nat → Bool} {held : Bool} {e : TypeId} {f0 f1 : Field} {fuel : Nat} {v0 v1 : Value} {x : DataW H × List MemPlace} (he : P.underlying e = some (.struct #[f0, f1]))
    (o : f0.offset = 0 ∧ f1.offset = 1) (c : P.cellsOf f0.type = 1 ∧ P.cellsOf f1.type = 1)
    (h : DataW.trod enc P w base spare held fuel e [v0, v1] = some x) :
    ∃ y0 y1 k, x.1 = .agg [y0.1, y1.1] ∧ DataW.trod enc P w base spare held k f0.type [v0] = some y0 ∧ DataW.trod enc P w base spare held k f1.type [v1] = some y1 := by
  obtain ⟨xs, k, hk, hx, hlen, hxl, hf⟩ := DataW.trod_struct he h
  obtain ⟨o0, o1⟩ := o
  obtain ⟨c0, c1⟩ := c
  match xs, hxl with
  | [y0, y1], _ =>
    have g0 := hf 0 f0 rfl
    have g1 := hf 1 f1 rfl
    simp [o0, o1, c0, c1] at g0 g1
    exact ⟨y0, y1, k, by rw [hx]; rfl, g0, g1⟩
/-- A text that came in is not longer than memory reaches. -/
theorem text_sized {W : World} {k : Nat} {l : List UInt8} {y : DataW H × List MemPlace} (h : DataW.trod enc Try.prog W 0 (fun _ => true) true k 9 [.string (bs l)] = some y) (hw : Wt Try.prog 9 y.1) : l.length ≤ 281474976710656 := by
  obtain ⟨s, e, rfl, _⟩ := DataW.trod_string Try.underlying9 h
  have := hw.text
  simp at e
  subst e
  have hr : reachBytes = 140737488351232 := rfl
  rw [hr] at this
  have e2 : (bs l).data.toList = l := by simp [bs]
  rw [e2] at this
  omega
theorem attrs_sized {W : World} {n : Nat} {a : Option Addr} {len cap : Nat} {ls : List (List UInt8 × List UInt8)} {y : DataW H × List MemPlace} (h : DataW.trod enc Try.prog W 0 (fun _ => true) true n 29 [.slice a len cap] = some y)
    (hA : IsA W a len ls) (hw : Wt Try.prog 29 y.1) : len ≤ 17592186044416 ∧ ∀ p ∈ ls, p.1.length ≤ 281474976710656 ∧ p.2.length ≤ 281474976710656 := by
  rcases DataW.trod_slice Try.underlying29 h with ⟨hcs, _⟩ | ⟨x, l, c, elems, rest, m, rfl, hcs, rfl, _, hl, hm, hlen, hel, _⟩
  · simp at hcs
    obtain ⟨rfl, rfl, rfl⟩ := hcs
    have h0 := hA.1
    refine ⟨by omega, fun p hp => ?_⟩
    rw [List.length_eq_zero_iff.1 h0] at hp
    cases hp
  · simp at hcs
    obtain ⟨rfl, rfl, rfl⟩ := hcs
    obtain ⟨k1, k2⟩ := Wt.slice hw Try.underlying29
    have hr : reachBytes = 140737488351232 := rfl
    rw [show Try.prog.bytesOf 91 = 32 by kernel_rfl, List.length_map, hlen, hr] at k1
    refine ⟨by omega, fun p hp => ?_⟩
    obtain ⟨i, hi⟩ := List.getElem?_of_mem hp
    have hil : i < len := by have := (List.getElem?_eq_some_iff.1 hi).1; have := hA.1; omega
    obtain ⟨_, h0 | ⟨b, off, e, hat⟩⟩ := hA
    · omega
    obtain rfl := Option.some.inj e
    obtain ⟨g0, g1⟩ := hat i p hi
    have key := hel i hil
    rw [show Try.prog.cellsOf 91 = 2 by kernel_rfl, List.getElem?_eq_getElem (by omega)] at key
    obtain ⟨cs, u1, u2⟩ := Option.bind_eq_some_iff.1 key
    obtain ⟨_, hcl, hc⟩ := World.cells?_some u1
    have c0 := hc 0 (by omega)
    have c1 := hc 1 (by omega)
    rw [addr_add, addr_add] at c0 c1
    rw [Nat.add_zero, g0] at c0
    rw [g1] at c1
    have hd := k2 elems[i].1 (List.mem_map_of_mem (List.getElem_mem _))
    obtain ⟨v0, v1, rfl⟩ := two_of hcl
    · simp at c0 c1
      subst c0 c1
      obtain ⟨y0, y1, k, hy, t0, t1⟩ := open_two' Try.underlying91 ⟨rfl, rfl⟩ ⟨by kernel_rfl, by kernel_rfl⟩ u2
      rw [hy] at hd
      exact ⟨text_sized t0 (hd.part Try.underlying91 (j := 0) rfl rfl), text_sized t1 (hd.part Try.underlying91 (j := 1) rfl rfl)⟩
end
end Go.Proofs.Ytlgmjnnfndedbaa
