/- Walks over the program's package dom: Put; a node that stands nowhere is put into a tree. -/
import Derived.Test.YtlgmjnnfndedbaaLinkC
import Derived.Test.YtlgmjnnfndedbaaLinkU
import Derived.Test.YtlgmjnnfndedbaaTreeMove
namespace Go.Proofs.Ytlgmjnnfndedbaa
open Go.RowKit Go.Lib
set_option maxRecDepth 100000
set_option linter.unusedVariables false

theorem placeF_split {b : Int} : ∀ (l : List Nat) (i : Nat), 0 ≤ Dom.placeF b i l → ∃ A B, l = A ++ B ∧ Dom.placeF b i l = ((i + A.length : Nat) : Int) ∧ Dom.headI B = b
  | [], i, h => by
    have : Dom.placeF b i [] = -1 := rfl
    omega
  | x :: r, i, h => by
    unfold Dom.placeF at h ⊢
    by_cases e : (x : Int) = b
    · rw [if_pos e]
      exact ⟨[], x :: r, rfl, by simp, e⟩
    · rw [if_neg e] at h ⊢
      obtain ⟨A, B, h1, h2, h3⟩ := placeF_split r (i + 1) h
      exact ⟨x :: A, B, by rw [h1]; rfl, by rw [h2, List.length_cons]; omega, h3⟩
theorem placeL_split {l : List Nat} {b : Int} (h : 0 ≤ Dom.placeL l b) : ∃ A B, l = A ++ B ∧ A.length = (Dom.placeL l b).toNat ∧ Dom.headI B = b := by
  unfold Dom.placeL at h ⊢
  by_cases e : b = -1
  · rw [if_pos e]
    exact ⟨l, [], by simp, by omega, e.symm⟩
  · rw [if_neg e] at h ⊢
    obtain ⟨A, B, h1, h2, h3⟩ := placeF_split l 0 h
    exact ⟨A, B, h1, by rw [h2]; omega, h3⟩
theorem placeL_takes {t : Dom.T} (hG : Dom.Good t) {p : Nat} (hp : p < t.length) {b : Int} : (b = -1 ∨ Dom.parentT t b = p) ↔ 0 ≤ Dom.placeL (Dom.kidsAt t p) b := by
  constructor
  · rintro (rfl | e)
    · unfold Dom.placeL
      rw [if_pos rfl]
      omega
    · unfold Dom.parentT at e
      split at e
      · rename_i g
        have hm := (hG.par_there e).2.1
        obtain ⟨k, _, h2, _⟩ := placeL_mem hm
        rw [show ((b.toNat : Nat) : Int) = b by have := g.1; omega] at h2
        omega
      · omega
  · intro h
    obtain ⟨A, B, h1, _, h3⟩ := placeL_split h
    rcases Dom.headI_is B with e | ⟨x, e, hx⟩
    · exact .inl (by rw [← h3]; exact e)
    · obtain ⟨k1, k2⟩ := hG.kid p x (by rw [h1]; exact List.mem_append_right _ hx)
      right
      unfold Dom.parentT
      rw [← h3, e, if_pos ⟨by omega, by omega⟩, show ((x : Int)).toNat = x by omega]
      exact k2
theorem Dom.holds_nat {t : Dom.T} {p : Int} (h : Dom.holds t p) : ∃ n : Nat, p = n ∧ n < t.length ∧ (n = 0 ∨ Dom.kindAt t n = 1) := by
  obtain ⟨⟨h1, h2⟩, h3⟩ := h
  exact ⟨p.toNat, by omega, by omega, h3.imp (by omega) fun e => e⟩
/-- place, where the node stands nowhere. -/
theorem pins_any (w : World) (base R : Nat) (S : Nat → Prop) (u : Dom.T) (h : TreeK w base R S u) (hG : Dom.Good u) (hf : u.length ≤ 1000000) (p i : Nat) (b : Int) (hp : p < u.length) (hi : i < u.length) (hne : p ≠ i) (hpar : Dom.parAt u i = -1) (hb : 0 ≤ Dom.placeL (Dom.kidsAt u p) b) :
    Calls Try.prog 76 #[.pointer (some ⟨R, 0, none⟩), .int .i64 p, .int .i64 b, .int .i64 i] w fun e w' => e = .returned (.tuple #[]) ∧ TurnedK w w' base R S (Dom.insT u p (Dom.placeL (Dom.kidsAt u p) b).toNat i) := by
  obtain ⟨g, cap, rs, h⟩ := h.read hG hf
  obtain ⟨A, B, h1, h2, h3⟩ := placeL_split hb
  have hc := h.mod.lks.chain p hp
  have hlen := h.mod.len
  have hkid : ∀ x ∈ A ++ B, x < u.length := fun x hx => (hG.kid p x (by rw [h1]; exact hx)).1
  have eA : Dom.prv (lkOf rs) p b = Dom.lastI A := by
    rw [← h3]
    exact (hc A B h1).2
  have P := Dom.ins_says (t := u) (i := i) (p := p) A.length hi hp hne
  have HL := h.mod.lks.put hG hi hp hne hpar h1 P
  rw [h3] at HL
  refine (pplace_any w base R g u.length cap S rs h.tree hlen.symm h.few p i hp hi b ?_ (Dom.lastI A) eA ?_).mono ?_
  · rw [← h3]
    exact (Dom.headI_is B).imp (fun e => e) fun ⟨x, e, hx⟩ => ⟨x, e, hkid x (List.mem_append_right _ hx)⟩
  · exact (Dom.lastI_is A).imp (fun e => e) fun ⟨x, e, hx⟩ => ⟨x, e, hkid x (List.mem_append_left _ hx)⟩
  · rintro e w' ⟨he, rs', K⟩
    refine ⟨he, ?_⟩
    rw [← h2]
    exact K.models h.mod P.len P.nd HL
theorem TurnedK.after {w w1 w' : World} {base R : Nat} {S S1 : Nat → Prop} {t : Dom.T} (h : Turn S S1 w w1) (k : TurnedK w1 w' base R S1 t) : TurnedK w w' base R S t := by
  obtain ⟨S2, k1, k2⟩ := k
  exact ⟨S2, k1, h.trans k2⟩
open Classical in
set_option maxHeartbeats 4000000 in
theorem pput_yes (w : World) (base R : Nat) (S : Nat → Prop) (t : Dom.T) (p i : Nat) (b : Int) (h : TreeK w base R S t) (hG : Dom.Good t) (hf : t.length ≤ 1000000) (hT : Takes t p b) (hi : i < t.length) (h0 : i ≠ 0) (hbi : b ≠ i) (hup : ¬ Dom.Up t p i) :
    Calls Try.prog 61 #[.pointer (some ⟨R, 0, none⟩), .int .i64 p, .int .i64 b, .int .i64 i] w fun e w' => e = .returned (.bool true) ∧ TurnedK w w' base R S (Dom.insT (Dom.cutT t i).1 p (Dom.placeL (Dom.kidsAt (Dom.cutT t i).1 p) b).toNat i) := by
  obtain ⟨n0, e0, hp, _⟩ := Dom.holds_nat hT.1
  obtain rfl : p = n0 := by omega
  have hK := h
  obtain ⟨g, cap, rs, h⟩ := h.read hG hf
  have HH := phas_t h (i : Int)
  rw [decide_eq_true (show Dom.there t (i : Nat) from ⟨by omega, by omega⟩)] at HH
  have HH := hid HH
  have HTK := ptakes_any w base R g cap S rs t p b h
  rw [decide_eq_true hT] at HTK
  have HTK := hid HTK
  have HW := pwithin_any w base R g cap S rs t p i h hG hp hi
  rw [decide_eq_false hup] at HW
  have HW := hid HW
  have HC := hid fun W (hW : Below w.heap.size w W) => pcut_any W base R S t (i : Int) (hK.below hW) hG hf
  have HIN := hid fun (W w5 : World) S5 (hW : Below w.heap.size w W) (hT5 : Turn S S5 W w5) (hK5 : TreeK w5 base R S5 (Dom.cutT t i).1) => (by
    obtain ⟨c1, c2, c3, c4, c5⟩ := Dom.cut_is hG hi
    have hne : p ≠ i := fun e => hup (by rw [e]; exact .refl _)
    have hpl := (placeL_takes hG hp).1 hT.2
    have hpl2 : 0 ≤ Dom.placeL (Dom.kidsAt (Dom.cutT t i).1 p) b := by
      rcases hG.par i with e | ⟨q, _, e, _⟩
      · have : Dom.cutT t i = (t, false) := by
          unfold Dom.cutT
          rw [show ((i : Int)).toNat = i by omega, e, if_pos (.inr (by omega))]
        rw [this]
        exact hpl
      · rw [(Dom.cut_says hG e).2.kids]
        split
        · rename_i eq
          subst eq
          exact placeL_erase hbi hpl
        · exact hpl
    exact (pins_any w5 base R S5 _ hK5 c1 (by omega) p i b (by omega) (by omega) hne c3 hpl2).mono fun e w' ⟨q1, q2⟩ => (show e = Ending.returned (.tuple #[]) ∧ TurnedK w w' base R S (Dom.insT (Dom.cutT t i).1 p (Dom.placeL (Dom.kidsAt (Dom.cutT t i).1 p) b).toNat i) from ⟨q1, TurnedK.after ((Turn.of_below hW).trans hT5) q2⟩))
  generalize Dom.insT (Dom.cutT t i).1 p (Dom.placeL (Dom.kidsAt (Dom.cutT t i).1 p) b).toNat i = RES at *
  have d1 : ((i : Int) == 0) = false := by simp; exact h0
  have d2 : ((i : Int) == b) = false := by simp; exact fun e => hbi e.symm
  clear h hK hG hf hT hi h0 hbi hup hp e0
  go_enter Try.func61, Try.ntmps61
  go_wp2_with fail
  refine (HH.out).mono ?_
  rintro e w1 ⟨rfl, rfl⟩
  go_wp2_with fail
  refine (HTK.out).mono ?_
  rintro e w2 ⟨rfl, rfl⟩
  go_wp2_with fail
  refine (HW.out).mono ?_
  rintro e w3 ⟨rfl, b3⟩
  have HB3 := hid b3
  clear b3
  go_wp2_with fail
  refine (HC.out _ HB3.out).mono ?_
  rintro e w4 ⟨rfl, S4, hK4, hT4⟩
  have HI := hid (HIN.out _ _ _ HB3.out hT4 hK4)
  clear hK4 hT4
  go_wp2_with fail
  refine (HI.out).mono ?_
  rintro e w5 ⟨rfl, hR⟩
  have HR := hid hR
  clear hR
  go_wp2
  go_ret
  exact ⟨rfl, HR.out⟩
set_option maxHeartbeats 4000000 in
theorem pput_no (w : World) (base R : Nat) (S : Nat → Prop) (t : Dom.T) (p b i : Int) (h : TreeK w base R S t) (hG : Dom.Good t) (hf : t.length ≤ 1000000) (hn : ¬ Dom.there t i ∨ i = 0 ∨ i = b ∨ ¬ Takes t p b) :
    Calls Try.prog 61 #[.pointer (some ⟨R, 0, none⟩), .int .i64 p, .int .i64 b, .int .i64 i] w fun e w' => e = .returned (.bool false) ∧ Below w.heap.size w w' := by
  obtain ⟨g, cap, rs, h⟩ := h.read hG hf
  have HH := phas_t h i
  have HTK := ptakes_any w base R g cap S rs t p b h
  by_cases g1 : Dom.there t i
  · rw [decide_eq_true g1] at HH
    have HH := hid HH
    by_cases g2 : i = 0
    · subst g2
      have d1 : ((0 : Int) == 0) = true := rfl
      clear h hG hn g1 HTK
      go_enter Try.func61, Try.ntmps61
      go_wp2_with fail
      refine (HH.out).mono ?_
      rintro e w1 ⟨rfl, rfl⟩
      go_wp2
      go_ret
      exact ⟨rfl, Below.refl _ _⟩
    · have d1 : (i == 0) = false := by simp; exact g2
      by_cases g3 : i = b
      · subst g3
        have d2 : (i == i) = true := by simp
        clear h hG hn g1 HTK
        go_enter Try.func61, Try.ntmps61
        go_wp2_with fail
        refine (HH.out).mono ?_
        rintro e w1 ⟨rfl, rfl⟩
        go_wp2
        go_ret
        exact ⟨rfl, Below.refl _ _⟩
      · have d2 : (i == b) = false := by simp; exact g3
        have g4 : ¬ Takes t p b := by
          rcases hn with e | e | e | e
          · exact absurd g1 e
          · exact absurd e g2
          · exact absurd e g3
          · exact e
        rw [decide_eq_false g4] at HTK
        have HTK := hid HTK
        clear h hG hn g1 g4
        go_enter Try.func61, Try.ntmps61
        go_wp2_with fail
        refine (HH.out).mono ?_
        rintro e w1 ⟨rfl, rfl⟩
        go_wp2_with fail
        refine (HTK.out).mono ?_
        rintro e w2 ⟨rfl, rfl⟩
        go_wp2
        go_ret
        exact ⟨rfl, Below.refl _ _⟩
  · rw [decide_eq_false g1] at HH
    have HH := hid HH
    clear h hG hn g1 HTK
    go_enter Try.func61, Try.ntmps61
    go_wp2_with fail
    refine (HH.out).mono ?_
    rintro e w1 ⟨rfl, rfl⟩
    go_wp2
    go_ret
    exact ⟨rfl, Below.refl _ _⟩
open Classical in
set_option maxHeartbeats 4000000 in
theorem pput_up (w : World) (base R : Nat) (S : Nat → Prop) (t : Dom.T) (p i : Nat) (b : Int) (h : TreeK w base R S t) (hG : Dom.Good t) (hf : t.length ≤ 1000000) (hT : Takes t p b) (hi : i < t.length) (h0 : i ≠ 0) (hbi : b ≠ i) (hup : Dom.Up t p i) :
    Calls Try.prog 61 #[.pointer (some ⟨R, 0, none⟩), .int .i64 p, .int .i64 b, .int .i64 i] w fun e w' => e = .returned (.bool false) ∧ Below w.heap.size w w' := by
  obtain ⟨n0, e0, hp, _⟩ := Dom.holds_nat hT.1
  obtain rfl : p = n0 := by omega
  obtain ⟨g, cap, rs, h⟩ := h.read hG hf
  have HH := phas_t h (i : Int)
  rw [decide_eq_true (show Dom.there t (i : Nat) from ⟨by omega, by omega⟩)] at HH
  have HH := hid HH
  have HTK := ptakes_any w base R g cap S rs t p b h
  rw [decide_eq_true hT] at HTK
  have HTK := hid HTK
  have HW := pwithin_any w base R g cap S rs t p i h hG hp hi
  rw [decide_eq_true hup] at HW
  have HW := hid HW
  have d1 : ((i : Int) == 0) = false := by simp; exact h0
  have d2 : ((i : Int) == b) = false := by simp; exact fun e => hbi e.symm
  clear h hG hf hT hi h0 hbi hup hp e0
  go_enter Try.func61, Try.ntmps61
  go_wp2_with fail
  refine (HH.out).mono ?_
  rintro e w1 ⟨rfl, rfl⟩
  go_wp2_with fail
  refine (HTK.out).mono ?_
  rintro e w2 ⟨rfl, rfl⟩
  go_wp2_with fail
  refine (HW.out).mono ?_
  rintro e w3 ⟨rfl, b3⟩
  have HB3 := hid b3
  clear b3
  go_wp2
  go_ret
  exact ⟨rfl, HB3.out⟩
/-- Put, of whatever numbers. -/
theorem pput_any (w : World) (base R : Nat) (S : Nat → Prop) (t : Dom.T) (p b i : Int) (h : TreeK w base R S t) (hG : Dom.Good t) (hf : t.length ≤ 1000000) :
    Calls Try.prog 61 #[.pointer (some ⟨R, 0, none⟩), .int .i64 p, .int .i64 b, .int .i64 i] w fun e w' => e = .returned (.bool (Dom.putT t p b i).2) ∧ TurnedK w w' base R S (Dom.putT t p b i).1 := by
  by_cases hn : ¬ Dom.there t i ∨ i = 0 ∨ i = b ∨ ¬ Takes t p b
  · have e : Dom.putT t p b i = (t, false) := by
      unfold Dom.putT
      rw [if_pos]
      rcases hn with e | e | e | e
      · exact .inr (.inl e)
      · exact .inr (.inr (.inl e))
      · exact .inr (.inr (.inr (.inl e.symm)))
      · by_cases g : Dom.holds t p
        · obtain ⟨n, rfl, hp, _⟩ := Dom.holds_nat g
          refine .inr (.inr (.inr (.inr (.inr ?_))))
          rw [show ((n : Int)).toNat = n by omega]
          have : ¬ 0 ≤ Dom.placeL (Dom.kidsAt t n) b := fun q => e ⟨g, (placeL_takes hG hp).2 q⟩
          omega
        · exact .inl g
    rw [e]
    exact (pput_no w base R S t p b i h hG hf hn).mono fun e w' ⟨h1, h2⟩ => ⟨h1, TurnedK.same h h2⟩
  · have g1 : Dom.there t i := Classical.byContradiction fun e => hn (.inl e)
    have g2 : i ≠ 0 := fun e => hn (.inr (.inl e))
    have g3 : i ≠ b := fun e => hn (.inr (.inr (.inl e)))
    have g4 : Takes t p b := Classical.byContradiction fun e => hn (.inr (.inr (.inr e)))
    obtain ⟨n, rfl, hp, hpk⟩ := Dom.holds_nat g4.1
    obtain ⟨m, rfl⟩ : ∃ m : Nat, i = m := ⟨i.toNat, by have := g1.1; omega⟩
    have hm : m < t.length := by have := g1.2; omega
    by_cases hup : Dom.Up t n m
    · have e : Dom.putT t (n : Int) b (m : Int) = (t, false) := by
        unfold Dom.putT
        rw [if_pos]
        rw [show ((n : Int)).toNat = n by omega, show ((m : Int)).toNat = m by omega]
        exact .inr (.inr (.inr (.inr (.inl hup))))
      rw [e]
      exact (pput_up w base R S t n m b h hG hf g4 hm (by omega) (fun e => g3 e.symm) hup).mono fun e w' ⟨h1, h2⟩ => ⟨h1, TurnedK.same h h2⟩
    · have e : Dom.putT t (n : Int) b (m : Int) = (Dom.insT (Dom.cutT t m).1 n (Dom.placeL (Dom.kidsAt (Dom.cutT t m).1 n) b).toNat m, true) := by
        unfold Dom.putT
        rw [if_neg]
        · rw [show ((n : Int)).toNat = n by omega, show ((m : Int)).toNat = m by omega]
          rfl
        · rw [show ((n : Int)).toNat = n by omega, show ((m : Int)).toNat = m by omega]
          have hpl := (placeL_takes hG hp).1 g4.2
          rintro (q | q | q | q | q | q)
          · exact q g4.1
          · exact q g1
          · exact g2 q
          · exact g3 q.symm
          · exact hup q
          · omega
      rw [e]
      exact pput_yes w base R S t n m b h hG hf g4 hm (by omega) (fun e => g3 e.symm) hup
end Go.Proofs.Ytlgmjnnfndedbaa
