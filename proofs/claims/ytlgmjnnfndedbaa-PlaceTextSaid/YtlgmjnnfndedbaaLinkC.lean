/- Walks over the program's package dom: Cut. -/
import Derived.Test.YtlgmjnnfndedbaaLinkJ
import Derived.Deep.RegionHeld3
namespace Go.Proofs.Ytlgmjnnfndedbaa
open Go.RowKit Go.Lib
set_option maxRecDepth 100000
set_option linter.unusedVariables false

theorem setL_setL (f : Dom.Lks) (i : Nat) (g h : Dom.Lk → Dom.Lk) : Dom.setL (Dom.setL f i g) i h = Dom.setL f i fun x => h (g x) := by
  funext k
  rw [Dom.setL_at, Dom.setL_at, Dom.setL_at]
  split <;> rfl
theorem Lked.of_below {w w1 w2 : World} {base R : Nat} {S : Nat → Prop} {v : Value} {rs rs1 : List PR} {f : Dom.Lks} (hb : Below w.heap.size w w1) (h : Lked w1 w2 base R S v rs rs1 f) : Lked w w2 base R S v rs rs1 f :=
  ⟨h.tree, h.len, h.at_, h.lks, (Turn.of_below hb).trans h.turn⟩
theorem Lked.below {w w1 w2 : World} {base R : Nat} {S : Nat → Prop} {v : Value} {rs rs1 : List PR} {f : Dom.Lks} (h : Lked w w1 base R S v rs rs1 f) (hb : Below w1.heap.size w1 w2) : Lked w w2 base R S v rs rs1 f :=
  ⟨h.tree.below hb, h.len, h.at_, h.lks, h.turn.trans (Turn.of_below hb)⟩
/-- Those about a node that stands somewhere. -/
theorem around {t : Dom.T} {f : Dom.Lks} (hL : Dom.Linked f t) (hG : Dom.Good t) {i p : Nat} (e : Dom.parAt t i = (p : Nat)) :
    ((f i).prev = -1 ∨ ∃ x : Nat, (f i).prev = x ∧ x < t.length) ∧ ((f i).next = -1 ∨ ∃ x : Nat, (f i).next = x ∧ x < t.length) ∧ (f i).prev ≠ i ∧ (f i).next ≠ i := by
  obtain ⟨hp, hm, _⟩ := hG.par_there e
  obtain ⟨A, B, eAB⟩ := Dom.split_mem hm
  have hc := hL.chain p hp
  rw [eAB] at hc
  have hN := hG.nodup p
  rw [eAB] at hN
  have hd := List.nodup_append.1 hN
  rw [hc.prev, hc.next]
  refine ⟨(Dom.lastI_is A).imp id fun ⟨x, g1, g2⟩ => ⟨x, g1, (hG.kid p x (by rw [eAB]; exact List.mem_append_left _ g2)).1⟩,
    (Dom.headI_is B).imp id fun ⟨x, g1, g2⟩ => ⟨x, g1, (hG.kid p x (by rw [eAB]; exact List.mem_append_right _ (List.mem_cons_of_mem _ g2))).1⟩, fun e => ?_, fun e => ?_⟩
  · exact hd.2.2 i (Dom.lastI_mem e) i (List.mem_cons_self ..) rfl
  · exact (List.nodup_cons.1 hd.2.1).1 (Dom.headI_mem e)
theorem joinF_at (f : Dom.Lks) (p i : Nat) (a b : Int) (ha : a ≠ i) (hb : b ≠ i) (ha1 : -1 ≤ a) (hb1 : -1 ≤ b) : (Dom.joinF f p a b i).prev = (f i).prev ∧ (Dom.joinF f p a b i).next = (f i).next := by
  have h1 := Dom.nxt_join f p p a b i ha1 (by omega)
  have h2 := Dom.prv_join f p p a b i hb1 (by omega)
  rw [if_neg (fun g => ha g.1.symm)] at h1
  rw [if_neg (fun g => hb g.1.symm)] at h2
  unfold Dom.nxt at h1
  unfold Dom.prv at h2
  rw [if_neg (by omega), if_neg (by omega)] at h1 h2
  exact ⟨h2, h1⟩
set_option maxHeartbeats 8000000 in
theorem pcut_yes (w : World) (base R : Nat) (S : Nat → Prop) (t : Dom.T) (i p : Nat) (h : TreeK w base R S t) (hG : Dom.Good t) (hf : t.length ≤ 1000000) (hpar : Dom.parAt t i = (p : Nat)) :
    Calls Try.prog 86 #[.pointer (some ⟨R, 0, none⟩), .int .i64 i] w fun e w' => e = .returned (.bool true) ∧ TurnedK w w' base R S (Dom.cutT t i).1 := by
  obtain ⟨g, cap, rs, h⟩ := h.read hG hf
  have hi := Dom.par_lt hpar
  obtain ⟨hp, hm, _⟩ := hG.par_there hpar
  have h1 := h.top
  have HP := pparent_any w base R g cap S rs t (i : Int) h
  have eP : Dom.parentT t (i : Int) = (p : Nat) := by
    unfold Dom.parentT
    rw [if_pos ⟨by omega, by omega⟩, show ((i : Int)).toNat = i by omega, hpar]
  rw [eP] at HP
  have HP := hid HP
  obtain ⟨r, hr, X, _⟩ := h.at_ hi
  have x8 := X.c8
  have x9 := X.c9
  obtain ⟨ar1, ar2, ar3, ar4⟩ := around h.mod.lks hG hpar
  have hlen := h.mod.len
  have HJ := hid fun W (hW : Below w.heap.size w W) => pjoin_any W base R g t.length cap S rs (h.tree.below hW) hlen.symm h.few p hp _ _ ar1 ar2
  have hU := (Dom.cut_says hG hpar).2
  have HF := hid fun (w' : World) rs' (K : Lked w w' base R S (.slice (some ⟨g, 0, none⟩) t.length cap) rs rs' (Dom.setL (Dom.joinF (lkOf rs) p (lkOf rs i).prev (lkOf rs i).next) i fun x => { x with par := -1, prev := -1, next := -1 })) =>
    K.models h.mod hU.len hU.nd (h.mod.lks.cut hG hpar hU)
  have HX := hid fun (W w' : World) rs' (K : Lked W w' base R S (.slice (some ⟨g, 0, none⟩) t.length cap) rs rs' (Dom.joinF (lkOf rs) p (lkOf rs i).prev (lkOf rs i).next)) =>
    (show w'.cell? ⟨g, i * 10 + 8, none⟩ = some (.int .i64 (lkOf rs i).prev) ∧ w'.cell? ⟨g, i * 10 + 9, none⟩ = some (.int .i64 (lkOf rs i).next) from by
      obtain ⟨r', q1, q2⟩ := K.node (i := i) (by rw [hlen]; exact hi)
      have C := K.tree.cells q1
      have j := joinF_at (lkOf rs) p i _ _ ar3 ar4 (by rcases ar1 with q | ⟨x, q, _⟩ <;> omega) (by rcases ar2 with q | ⟨x, q, _⟩ <;> omega)
      have c8 := C.c8
      have c9 := C.c9
      rw [q2, j.1] at c8
      rw [q2, j.2] at c9
      exact ⟨c8, c9⟩)
  generalize (Dom.cutT t i).1 = U at *
  obtain ⟨A, hA⟩ : ∃ A, (lkOf rs i).prev = A := ⟨_, rfl⟩
  obtain ⟨B, hB⟩ : ∃ B, (lkOf rs i).next = B := ⟨_, rfl⟩
  rw [hA] at HJ HF HX x8
  rw [hB] at HJ HF HX x9
  obtain ⟨n, hn⟩ : ∃ n, List.length t = n := ⟨_, rfl⟩
  rw [hn] at h1 HJ HF HX hi hp hlen
  have hi3 : (i : Int) < (n : Int) := by omega
  have zi : ((i : Int)).toNat = i := by omega
  have dp : ((p : Int) == -1) = false := by simp
  have e0 := (Below.refl w.heap.size w).drew
  clear X hr h hn hG hU ar1 ar2 ar3 ar4 hm eP hpar hA hB
  go_enter Try.func86, Try.ntmps86
  go_wp2_with fail
  refine (HP.out).mono ?_
  rintro e w1 ⟨rfl, rfl⟩
  go_wp2_with fail
  go_region_held3 (fun w' => w'.cell? ⟨g, i * 10 + 8, none⟩ = some (.int .i64 A) ∧ w'.cell? ⟨g, i * 10 + 9, none⟩ = some (.int .i64 B)) (first | exact e9 | exact ⟨x8, x9⟩)
    (first
      | (go_at_call 90; with_reducible refine (HJ.out _ e0).mono ?_; rintro e w3 ⟨rfl, rs1, K1⟩; have e9 := HX.out _ _ _ K1; have HK1 := hid (K1.of_below e0); clear K1))
  all_goals
    obtain ⟨rs2, K2⟩ := HK1.out.store (g := g) rfl (i := i) (by omega) 5 (-1) (fun z => { z with par := -1 }) (by decide) (fun _ => rfl)
    obtain ⟨rs3, K3⟩ := K2.store (g := g) rfl (i := i) (by omega) 8 (-1) (fun z => { z with prev := -1 }) (by decide) (fun _ => rfl)
    obtain ⟨rs4, K4⟩ := K3.store (g := g) rfl (i := i) (by omega) 9 (-1) (fun z => { z with next := -1 }) (by decide) (fun _ => rfl)
    rw [setL_setL, setL_setL] at K4
    have HR := hid (HF.out _ rs4 K4)
    obtain ⟨r1, q1, _⟩ := HK1.out.node (i := i) (by omega)
    obtain ⟨r2, q2, _⟩ := K2.node (i := i) (by omega)
    obtain ⟨r3, q3, _⟩ := K3.node (i := i) (by omega)
    have a1 := (HK1.out.tree.cells q1).c5
    have f1 := HK1.out.tree.free (i * 10 + 5)
    have a2 := (K2.tree.cells q2).c8
    have f2 := K2.tree.free (i * 10 + 8)
    have a3 := (K3.tree.cells q3).c9
    have f3 := K3.tree.free (i * 10 + 9)
    clear K2 K3 K4 q1 q2 q3
    go_wp2
    go_ret
    exact ⟨rfl, HR.out⟩
set_option maxHeartbeats 4000000 in
theorem pcut_no (w : World) (base R : Nat) (S : Nat → Prop) (t : Dom.T) (i : Int) (h : TreeK w base R S t) (hG : Dom.Good t) (hf : t.length ≤ 1000000) (hpar : Dom.parentT t i = -1) :
    Calls Try.prog 86 #[.pointer (some ⟨R, 0, none⟩), .int .i64 i] w fun e w' => e = .returned (.bool false) ∧ w' = w := by
  obtain ⟨g, cap, rs, h⟩ := h.read hG hf
  have HP := pparent_any w base R g cap S rs t i h
  rw [hpar] at HP
  have HP := hid HP
  clear h hpar
  go_enter Try.func86, Try.ntmps86
  go_wp2_with fail
  refine (HP.out).mono ?_
  rintro e w1 ⟨rfl, rfl⟩
  go_wp2
  go_ret
  exact ⟨rfl, rfl⟩
theorem pcut_any (w : World) (base R : Nat) (S : Nat → Prop) (t : Dom.T) (i : Int) (h : TreeK w base R S t) (hG : Dom.Good t) (hf : t.length ≤ 1000000) :
    Calls Try.prog 86 #[.pointer (some ⟨R, 0, none⟩), .int .i64 i] w fun e w' => e = .returned (.bool (Dom.cutT t i).2) ∧ TurnedK w w' base R S (Dom.cutT t i).1 := by
  by_cases g : Dom.there t i ∧ 0 ≤ Dom.parAt t i.toNat
  · obtain ⟨n, rfl⟩ : ∃ n : Nat, i = n := ⟨i.toNat, by have := g.1.1; omega⟩
    rw [show ((n : Int)).toNat = n by omega] at g
    have e : Dom.parAt t n = ((Dom.parAt t n).toNat : Nat) := by omega
    rw [(Dom.cut_says hG e).1]
    exact pcut_yes w base R S t n _ h hG hf e
  · have e : Dom.cutT t i = (t, false) := by
      unfold Dom.cutT
      rw [if_pos]
      by_cases g1 : Dom.there t i
      · right
        have : ¬ 0 ≤ Dom.parAt t i.toNat := fun x => g ⟨g1, x⟩
        omega
      · exact .inl g1
    have hp : Dom.parentT t i = -1 := by
      unfold Dom.parentT
      split
      · rename_i g1
        rcases hG.par i.toNat with q | ⟨p, _, q, _⟩
        · exact q
        · exact absurd ⟨g1, by omega⟩ g
      · rfl
    rw [e]
    exact (pcut_no w base R S t i h hG hf hp).mono fun e w' ⟨h1, h2⟩ => ⟨h1, by rw [h2]; exact TurnedK.same h (Below.refl _ _)⟩
end Go.Proofs.Ytlgmjnnfndedbaa
