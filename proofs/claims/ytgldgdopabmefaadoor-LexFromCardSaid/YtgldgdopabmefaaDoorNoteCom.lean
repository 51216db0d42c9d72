/- Walks: package note: a comment, behind its beginning. -/
import Derived.Test.YtgldgdopabmefaaDoorNoteBare
import Derived.Deep.LoopGhost
import Derived.Handy
import Derived.IntWalk
namespace Go.Proofs.YtgldgdopabmefaaDoor
open Go.RowKit Go.Lib
set_option maxRecDepth 100000
set_option linter.unusedVariables false

theorem s_idx0 (w : World) : (Instr.index 105 (.agg #[.string ⟨#[62]⟩, .string ⟨#[45, 62]⟩]) (.int .i64 0)).run Tryd.prog w = .ok (.string ⟨#[62]⟩) w := by kernel_rfl
theorem s_idx1 (w : World) : (Instr.index 105 (.agg #[.string ⟨#[62]⟩, .string ⟨#[45, 62]⟩]) (.int .i64 1)).run Tryd.prog w = .ok (.string ⟨#[45, 62]⟩) w := by kernel_rfl
theorem c_idx0 (w : World) : (Instr.index 105 (.agg #[.string ⟨#[45, 45]⟩, .string ⟨#[45, 45, 33]⟩]) (.int .i64 0)).run Tryd.prog w = .ok (.string ⟨#[45, 45]⟩) w := by kernel_rfl
theorem c_idx1 (w : World) : (Instr.index 105 (.agg #[.string ⟨#[45, 45]⟩, .string ⟨#[45, 45, 33]⟩]) (.int .i64 1)).run Tryd.prog w = .ok (.string ⟨#[45, 45, 33]⟩) w := by kernel_rfl
theorem pre_cut (s p : ByteArray) (t : List UInt8) (w : World) (hp : p.data.toList = t) :
    Calls Tryd.prog 36 #[.string s, .string p] w fun e w' => e = .returned (.tuple #[.string (bs (trimPrefix s.data.toList t)), .bool (hasPrefix s.data.toList t)]) ∧ w = w' :=
  (Tryd.strings_CutPrefix s p w).mono fun e w' ⟨h1, h2⟩ => ⟨by rw [h1, hp]; rfl, h2.symm⟩
theorem drop_bs (s : ByteArray) (k : Nat) : s.extract k s.size = bs (s.data.toList.drop k) := by rw [← extract_drop, bs_same]
theorem take_suf (l t : List UInt8) (k : Nat) (hk : k ≤ l.length) (h : hasSuffix (l.take k) t = true) : trimSuffix (l.take k) t = l.take (k - t.length) := by
  unfold trimSuffix
  rw [if_pos h, List.take_take, List.length_take]
  congr 1
  omega
/-- What 'comment' tells. -/
def comV (l : List UInt8) (r : List UInt8 × Nat) : Value := .tuple #[.string (bs r.1), .string (bs (l.drop r.2))]
theorem com_ret {s : ByteArray} {R : List UInt8 × Nat} {V : Value} {t : List UInt8} {m n : Nat} (hV : comV s.data.toList R = V) (hR : Note.body s.data.toList = R) (hE : Note.body s.data.toList = (t, m)) (hn : s.size = n) :
    Ending.returned (.tuple #[.string (bs t), .string (s.extract m n)]) = .returned V := by
  rw [← hV, ← hR, hE, ← hn, drop_bs]
  rfl
theorem com_end {s : ByteArray} {R : List UInt8 × Nat} {V : Value} {t : List UInt8} (hV : comV s.data.toList R = V) (hR : Note.body s.data.toList = R) (hE : Note.body s.data.toList = (t, s.data.toList.length)) :
    Ending.returned (.tuple #[.string (bs t), .string ⟨#[]⟩]) = .returned V := by
  rw [← hV, ← hR, hE]
  unfold comV
  rw [List.drop_length]
  rfl
theorem noEnd_step {l : List UInt8} {k : Nat} (h : ∀ j, j < k → Note.noEnd l j) (h2 : Note.noEnd l k) : ∀ j, j < k + 1 → Note.noEnd l j := by
  intro j hj
  by_cases e : j = k
  · rw [e]; exact h2
  · exact h j (by omega)
set_option maxHeartbeats 2000000 in
theorem scan_any (s : ByteArray) (w : World) (hW : NoteW w) (hs : s.size ≤ 1000000) (h1 : hasPrefix s.data.toList [62] = false) (h2 : hasPrefix s.data.toList [45, 62] = false) :
    Calls Tryd.prog 63 #[.string s] w fun e w' => e = .returned (comV s.data.toList (Note.body s.data.toList)) ∧ Below w.heap.size w w' := by
  have s0 := hW.s0
  have s1 := hW.s1
  have HW := hid hW
  have k0 := hid hW.c0
  have k1 := hid hW.c1
  have P0 := fun W => pre_cut s ⟨#[62]⟩ [62] W rfl
  have P1 := fun W => pre_cut s ⟨#[45, 62]⟩ [45, 62] W rfl
  simp only [trimPrefix, h1, Bool.false_eq_true, if_false] at P0
  simp only [trimPrefix, h2, Bool.false_eq_true, if_false] at P1
  have P0 := hid P0
  have P1 := hid P1
  have a0 := s_idx0
  have a1 := s_idx1
  have b0 := c_idx0
  have b1 := c_idx1
  have hsl := size_list s
  have HSL := hid hsl
  obtain ⟨n, hn⟩ : ∃ n, s.size = n := ⟨_, rfl⟩
  have HN := hid hn
  have HB := fun W hW => bare_any s W hW (by omega)
  obtain ⟨R, hR⟩ : ∃ R, Note.body s.data.toList = R := ⟨_, rfl⟩
  rw [hR]
  have HR := hid hR
  have HB := hid HB
  clear hW h1 h2 hsl hR
  obtain ⟨V, hV⟩ : ∃ V, comV s.data.toList R = V := ⟨_, rfl⟩
  rw [hV]
  have HV := hid hV
  clear hV
  go_enter Tryd.func63, Tryd.ntmps63
  go_wp2
  refine wp_loop_rounds 3 ?_
  rw [rounds_succ]
  go_wp2_with fail
  refine (P0.out _).mono ?_
  rintro e w1 ⟨rfl, rfl⟩
  go_wp2
  rw [rounds_succ]
  go_wp2_with fail
  refine (P1.out _).mono ?_
  rintro e w1 ⟨rfl, rfl⟩
  go_wp2
  rw [rounds_succ]
  clear s0 s1 a0 a1
  go_wp2
  go_loopg [28] n (fun g iv wr => ∃ k : Nat, k + g = n ∧ iv = .int .i64 k ∧ Hid (∀ j, j < k → Note.noEnd s.data.toList j) ∧ w = wr)
  case atStart => exact ⟨0, by omega, rfl, hid fun j hj => absurd hj (Nat.not_lt_zero j), rfl⟩
  case round =>
    obtain ⟨k, hk, rfl, hI, rfl⟩ := hrel
    by_cases hlt : k < n
    · have d1 : decide (k < n) = true := decide_eq_true hlt
      have hltI : (k : Int) < (n : Int) := by omega
      have hlt2 : k < s.size := by omega
      have hltS : (k : Int) < (s.size : Int) := by omega
      obtain ⟨c, hc⟩ : ∃ c, s[k]'hlt2 = c := ⟨_, rfl⟩
      have hc256 := c.toNat_lt
      have hget : s.data.toList[k]? = some c := by
        rw [List.getElem?_eq_getElem (by rw [HSL.out]; exact hlt2), ← hc]
        rfl
      by_cases h62 : c.toNat = 62
      · have t1 : (((c.toNat : Nat) : Int) != 62) = false := by simp [h62]
        have hg62 : s.data.toList[k]? = some 62 := by rw [hget]; congr 1; exact UInt8.toNat_inj.1 h62
        have HG := hid hg62
        have hle : (k : Int) ≤ (s.size : Int) := by omega
        have hleN : k ≤ s.size := by omega
        have q0 : ((k : Int)).toNat = k := by omega
        have q1 : (0 : Int) ≤ (k : Int) := by omega
        have S0 := fun W => suf_cut (s.extract 0 k) ⟨#[45, 45]⟩ [45, 45] W (by rw [size_extract0 _ _ hleN]; omega) rfl
        have S1 := fun W => suf_cut (s.extract 0 k) ⟨#[45, 45, 33]⟩ [45, 45, 33] W (by rw [size_extract0 _ _ hleN]; omega) rfl
        rw [extract_list] at S0 S1
        have hlen := HSL.out
        have r1 : (0 : Int) ≤ (k : Int) + 1 := by omega
        have r2 : (k : Int) + 1 ≤ (s.size : Int) := by omega
        have r3 : ((k : Int) + 1).toNat = k + 1 := by omega
        have r4 : IntKind.i64.wrap ((k : Int) + 1) = (k : Int) + 1 := IntWalk.i64_in _ (by omega)
        have r5 : k + 1 ≤ s.size := by omega
        cases hs0 : hasSuffix (s.data.toList.take k) [45, 45] with
        | true =>
          have HE := Note.body_two hI.out hg62 hs0
          rw [take_suf _ _ _ (by omega) hs0, hs0] at S0
          have HE := hid HE
          have S0 := hid S0
          have g0 := k0.out
          have g1 := k1.out
          clear S1 hs0 hlen hg62 hget h62
          go_wp2
          refine wp_loop_rounds 1 ?_
          rw [rounds_succ]
          go_wp2_with fail
          refine (S0.out _).mono ?_
          rintro e w1 ⟨rfl, rfl⟩
          go_wp2
          go_region
          go_wp2
          go_returns
          exact ⟨com_ret HV.out HR.out HE.out HN.out, bel_drewN (Below.refl _ _) 1⟩
        | false =>
          rw [trimSuffix, hs0, if_neg (by decide)] at S0
          have S0 := hid S0
          cases hs1 : hasSuffix (s.data.toList.take k) [45, 45, 33] with
          | true =>
            have HE := Note.body_three hI.out hg62 hs1
            rw [take_suf _ _ _ (by omega) hs1, hs1] at S1
            have HE := hid HE
            have S1 := hid S1
            have g0 := k0.out
            have g1 := k1.out
            clear hs0 hs1 hlen hg62 hget h62
            go_wp2
            refine wp_loop_rounds 2 ?_
            rw [rounds_succ]
            go_wp2_with fail
            refine (S0.out _).mono ?_
            rintro e w1 ⟨rfl, rfl⟩
            go_wp2
            rw [rounds_succ]
            go_wp2_with fail
            refine (S1.out _).mono ?_
            rintro e w1 ⟨rfl, rfl⟩
            go_wp2
            go_region
            go_wp2
            go_returns
            exact ⟨com_ret HV.out HR.out HE.out HN.out, bel_drewN (Below.refl _ _) 1⟩
          | false =>
            have HNe := hid (noEnd_step hI.out (Note.noEnd_none hs0 hs1))
            rw [trimSuffix, hs1, if_neg (by decide)] at S1
            have S1 := hid S1
            have g0 := k0.out
            have g1 := k1.out
            clear hs0 hs1 hlen hg62 hget h62 hI
            go_wp2
            refine wp_loop_rounds 3 ?_
            rw [rounds_succ]
            go_wp2_with fail
            refine (S0.out _).mono ?_
            rintro e w1 ⟨rfl, rfl⟩
            go_wp2
            rw [rounds_succ]
            go_wp2_with fail
            refine (S1.out _).mono ?_
            rintro e w1 ⟨rfl, rfl⟩
            go_wp2
            rw [rounds_succ]
            go_wp2
            go_roundg (n - (k + 1))
            case measure => omega
            case rel => exact ⟨k + 1, by omega, by go_num, HNe, rfl⟩
      · have t1 : (((c.toNat : Nat) : Int) != 62) = true := by simp; omega
        have HNe := hid (noEnd_step hI.out (Note.noEnd_other (by
          rw [hget]
          intro e
          exact h62 (congrArg UInt8.toNat (Option.some.inj e)))))
        clear h62 hget hI
        go_wp2
        go_roundg (n - (k + 1))
        case measure => omega
        case rel => exact ⟨k + 1, by omega, by go_num, HNe, rfl⟩
    · have d1 : decide (k < n) = false := decide_eq_false hlt
      have hltI : ¬ (k : Int) < (n : Int) := by omega
      have HE := hid (Note.body_no (r := s.data.toList) (fun j hj => hI.out j (by have := HSL.out; omega)))
      clear hI
      go_wp2_with fail
      refine (HB.out _ HW.out).mono ?_
      rintro e w1 ⟨rfl, rfl⟩
      go_wp2
      go_returns
      exact ⟨com_end HV.out HR.out HE.out, Below.refl _ _⟩
theorem comment_any (s : ByteArray) (w : World) (hW : NoteW w) (hs : s.size ≤ 1000000) :
    Calls Tryd.prog 63 #[.string s] w fun e w' => e = .returned (comV s.data.toList (Note.comment s.data.toList)) ∧ Below w.heap.size w w' := by
  unfold Note.comment
  cases h1 : hasPrefix s.data.toList [62] with
  | true =>
    rw [if_pos rfl]
    have s0 := hW.s0
    have s1 := hW.s1
    have P0 := fun W => pre_cut s ⟨#[62]⟩ [62] W rfl
    simp only [trimPrefix, h1, if_true, List.length_cons, List.length_nil, Nat.zero_add] at P0
    obtain ⟨X, hX⟩ : ∃ X, bs (s.data.toList.drop 1) = X := ⟨_, rfl⟩
    rw [hX] at P0
    have P0 := hid P0
    have HX := hid hX
    clear hX
    have a0 := s_idx0
    clear hW h1
    go_enter Tryd.func63, Tryd.ntmps63
    go_wp2
    refine wp_loop_rounds 1 ?_
    rw [rounds_succ]
    go_wp2_with fail
    refine (P0.out _).mono ?_
    rintro e w1 ⟨rfl, rfl⟩
    go_wp2
    go_returns
    exact ⟨by rw [← HX.out]; rfl, Below.refl _ _⟩
  | false =>
    rw [if_neg (by decide)]
    cases h2 : hasPrefix s.data.toList [45, 62] with
    | true =>
      rw [if_pos rfl]
      have s0 := hW.s0
      have s1 := hW.s1
      have P0 := fun W => pre_cut s ⟨#[62]⟩ [62] W rfl
      have P1 := fun W => pre_cut s ⟨#[45, 62]⟩ [45, 62] W rfl
      simp only [trimPrefix, h1, Bool.false_eq_true, if_false] at P0
      simp only [trimPrefix, h2, if_true, List.length_cons, List.length_nil, Nat.zero_add] at P1
      obtain ⟨X, hX⟩ : ∃ X, bs (s.data.toList.drop 2) = X := ⟨_, rfl⟩
      rw [show 1 + 1 = 2 from rfl, hX] at P1
      have HX := hid hX
      clear hX
      have P0 := hid P0
      have P1 := hid P1
      have a0 := s_idx0
      have a1 := s_idx1
      clear hW h1 h2
      go_enter Tryd.func63, Tryd.ntmps63
      go_wp2
      refine wp_loop_rounds 2 ?_
      rw [rounds_succ]
      go_wp2_with fail
      refine (P0.out _).mono ?_
      rintro e w1 ⟨rfl, rfl⟩
      go_wp2
      rw [rounds_succ]
      go_wp2_with fail
      refine (P1.out _).mono ?_
      rintro e w1 ⟨rfl, rfl⟩
      go_wp2
      go_returns
      exact ⟨by rw [← HX.out]; rfl, Below.refl _ _⟩
    | false =>
      rw [if_neg (by decide)]
      exact scan_any s w hW hs h1 h2
end Go.Proofs.YtgldgdopabmefaaDoor
