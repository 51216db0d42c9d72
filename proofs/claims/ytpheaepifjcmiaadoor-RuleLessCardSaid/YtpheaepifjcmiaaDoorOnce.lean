/- Walks: package rule, a list of texts once, each as it may be. -/
import Derived.Test.YtpheaepifjcmiaaDoorKinds
import Derived.Test.YtpheaepifjcmiaaDoorAllow
import Derived.Test.YtpheaepifjcmiaaDoorSafe
namespace Go.Proofs.YtpheaepifjcmiaaDoor
open Go.RowKit Go.Lib Rule
set_option maxRecDepth 100000
set_option linter.unusedVariables false

theorem list_long {α : Type} [DecidableEq α] {p : α → Bool} {l : List α} (h : 400 < l.length) : listB p l = false := by
  unfold listB
  rw [decide_eq_false (by omega)]; rfl
theorem list_bad {α : Type} [DecidableEq α] [BEq α] [LawfulBEq α] {p : α → Bool} {l : List α} {k : Nat} {x : α} (hx : l[k]? = some x) (h : p x = false ∨ (l.take k).contains x = true) : listB p l = false := by
  unfold listB
  rw [once_bad hx h, Bool.and_false]
theorem list_ok {α : Type} [DecidableEq α] {p : α → Bool} {l : List α} (h : l.length ≤ 400) (ho : onceB p l = true) : listB p l = true := by
  unfold listB
  rw [ho, decide_eq_true h]; rfl
set_option maxHeartbeats 2000000 in
/-- Each an element that is known. -/
theorem onceK_any (p : List UInt8 → Bool) (a : Option Addr) (len cap : Nat) (ls : List (List UInt8)) (w : World) (h : IsS w a len ls) (hlc : len ≤ cap) (hcm : cap ≤ 9223372036854775807)
    (HF : ∀ W, Below w.heap.size w W → ∀ l ∈ ls, Calls Tryd.prog 21 #[.string (bs l)] W fun e W' => e = .returned (.bool (p l)) ∧ Below W.heap.size W W') :
    Calls Tryd.prog 20 #[.slice a len cap, .func (.func 21) #[] #[]] w fun e w' => e = .returned (.bool (listB p ls)) ∧ Below w.heap.size w w' := by
  have HH := hid h
  have HG := hid HF
  obtain ⟨c, hc⟩ : ∃ c, listB p ls = c := ⟨_, rfl⟩
  rw [hc]
  have HC := hid hc
  have hll := h.1
  clear h HF hc
  by_cases h4 : 400 < len
  · have d0 : decide ((400 : Int) < (len : Int)) = true := decide_eq_true (by omega)
    have HR := hid (show c = false by rw [← HC.out]; exact list_long (by omega))
    go_enter Tryd.func20, Tryd.ntmps20
    go_wp2
    go_ret
    exact ⟨ret_bool' HR.out.symm, Below.refl _ _⟩
  have d0 : decide ((400 : Int) < (len : Int)) = false := decide_eq_false (by omega)
  go_enter Tryd.func20, Tryd.ntmps20
  go_wp2
  go_loopg [12] len (fun g iv wr => ∃ k : Nat, k + g = len ∧ iv = .int .i64 k ∧ Hid (onceB p (ls.take k) = true) ∧ Below w.heap.size w wr)
  case atStart => exact ⟨0, by omega, rfl, hid (once_nil p), Below.refl _ _⟩
  case round =>
    obtain ⟨k, hk, rfl, hI, hb⟩ := hrel
    by_cases hlt : k < len
    · have d1 : decide (k < len) = true := decide_eq_true hlt
      have hltI : (k : Int) < (len : Int) := by omega
      have q1 : k ≤ cap := by omega
      have q2 : (k : Int) ≤ (cap : Int) := by omega
      have HB := hid (HH.out.below hb)
      obtain ⟨_, h0 | ⟨blk, off, rfl, hat⟩⟩ := HB.out
      · omega
      have hkl : k < ls.length := by omega
      obtain ⟨l, hl⟩ : ∃ l, ls[k]? = some l := ⟨_, List.getElem?_eq_getElem hkl⟩
      have hcell : wr.cell? ⟨blk, off + k, none⟩ = some (.string (bs l)) := hat k _ hl
      have H1 := HG.out wr hb l (List.mem_of_getElem? hl)
      cases hp : p l with
      | false =>
        have HR := hid (show c = false by rw [← HC.out]; exact list_bad hl (.inl hp))
        rw [hp] at H1
        have H1 := hid H1
        clear hp hI hl hat hll
        go_wp2_with fail
        refine H1.out.mono ?_
        rintro e w1 ⟨rfl, b1⟩
        have c1 := hb.trans (b1.mono hb.size)
        go_wp2
        go_ret
        exact ⟨ret_bool' HR.out.symm, c1⟩
      | true =>
        rw [hp] at H1
        have H1 := hid H1
        have H2 := fun W (hW : IsS W (some ⟨blk, off, none⟩) k (ls.take k)) => contains_any _ k cap _ l W hW (by omega)
        cases hn : (ls.take k).contains l with
        | true =>
          have HR := hid (show c = false by rw [← HC.out]; exact list_bad hl (.inr hn))
          rw [hn] at H2
          have H2 := hid H2
          clear hp hI hl hat hll hn
          go_wp2_with fail
          refine H1.out.mono ?_
          rintro e w1 ⟨rfl, b1⟩
          have c1 := hb.trans (b1.mono hb.size)
          have HT := hid ((HB.out.below b1).take k (by omega))
          go_wp2_with fail
          refine (H2.out _ HT.out).mono ?_
          rintro e w2 ⟨rfl, rfl⟩
          go_wp2
          go_ret
          exact ⟨ret_bool' HR.out.symm, c1⟩
        | false =>
          have HN := hid (once_next hI.out hl hp hn)
          rw [hn] at H2
          have H2 := hid H2
          clear hp hI hl hat hll hn
          go_wp2_with fail
          refine H1.out.mono ?_
          rintro e w1 ⟨rfl, b1⟩
          have c1 := hb.trans (b1.mono hb.size)
          have HT := hid ((HB.out.below b1).take k (by omega))
          go_wp2_with fail
          refine (H2.out _ HT.out).mono ?_
          rintro e w2 ⟨rfl, rfl⟩
          go_wp2
          go_roundg (len - (k + 1))
          case measure => omega
          case rel => exact ⟨k + 1, by omega, by go_num, HN, c1⟩
    · have d1 : decide (k < len) = false := decide_eq_false hlt
      have hltI : ¬ (k : Int) < (len : Int) := by omega
      have HR := hid (show c = true by rw [← HC.out]; exact list_ok (by omega) (by rw [← hI.out, List.take_of_length_le (by omega)]))
      clear hI
      go_wp2
      go_ret
      exact ⟨ret_bool' HR.out.symm, hb⟩
set_option maxHeartbeats 2000000 in
/-- Each a scheme that may be. -/
theorem onceL_any (p : List UInt8 → Bool) (a : Option Addr) (len cap : Nat) (ls : List (List UInt8)) (w : World) (h : IsS w a len ls) (hlc : len ≤ cap) (hcm : cap ≤ 9223372036854775807)
    (HF : ∀ W, Below w.heap.size w W → ∀ l ∈ ls, Calls Tryd.prog 24 #[.string (bs l)] W fun e W' => e = .returned (.bool (p l)) ∧ Below W.heap.size W W') :
    Calls Tryd.prog 20 #[.slice a len cap, .func (.func 24) #[] #[]] w fun e w' => e = .returned (.bool (listB p ls)) ∧ Below w.heap.size w w' := by
  have HH := hid h
  have HG := hid HF
  obtain ⟨c, hc⟩ : ∃ c, listB p ls = c := ⟨_, rfl⟩
  rw [hc]
  have HC := hid hc
  have hll := h.1
  clear h HF hc
  by_cases h4 : 400 < len
  · have d0 : decide ((400 : Int) < (len : Int)) = true := decide_eq_true (by omega)
    have HR := hid (show c = false by rw [← HC.out]; exact list_long (by omega))
    go_enter Tryd.func20, Tryd.ntmps20
    go_wp2
    go_ret
    exact ⟨ret_bool' HR.out.symm, Below.refl _ _⟩
  have d0 : decide ((400 : Int) < (len : Int)) = false := decide_eq_false (by omega)
  go_enter Tryd.func20, Tryd.ntmps20
  go_wp2
  go_loopg [12] len (fun g iv wr => ∃ k : Nat, k + g = len ∧ iv = .int .i64 k ∧ Hid (onceB p (ls.take k) = true) ∧ Below w.heap.size w wr)
  case atStart => exact ⟨0, by omega, rfl, hid (once_nil p), Below.refl _ _⟩
  case round =>
    obtain ⟨k, hk, rfl, hI, hb⟩ := hrel
    by_cases hlt : k < len
    · have d1 : decide (k < len) = true := decide_eq_true hlt
      have hltI : (k : Int) < (len : Int) := by omega
      have q1 : k ≤ cap := by omega
      have q2 : (k : Int) ≤ (cap : Int) := by omega
      have HB := hid (HH.out.below hb)
      obtain ⟨_, h0 | ⟨blk, off, rfl, hat⟩⟩ := HB.out
      · omega
      have hkl : k < ls.length := by omega
      obtain ⟨l, hl⟩ : ∃ l, ls[k]? = some l := ⟨_, List.getElem?_eq_getElem hkl⟩
      have hcell : wr.cell? ⟨blk, off + k, none⟩ = some (.string (bs l)) := hat k _ hl
      have H1 := HG.out wr hb l (List.mem_of_getElem? hl)
      cases hp : p l with
      | false =>
        have HR := hid (show c = false by rw [← HC.out]; exact list_bad hl (.inl hp))
        rw [hp] at H1
        have H1 := hid H1
        clear hp hI hl hat hll
        go_wp2_with fail
        refine H1.out.mono ?_
        rintro e w1 ⟨rfl, b1⟩
        have c1 := hb.trans (b1.mono hb.size)
        go_wp2
        go_ret
        exact ⟨ret_bool' HR.out.symm, c1⟩
      | true =>
        rw [hp] at H1
        have H1 := hid H1
        have H2 := fun W (hW : IsS W (some ⟨blk, off, none⟩) k (ls.take k)) => contains_any _ k cap _ l W hW (by omega)
        cases hn : (ls.take k).contains l with
        | true =>
          have HR := hid (show c = false by rw [← HC.out]; exact list_bad hl (.inr hn))
          rw [hn] at H2
          have H2 := hid H2
          clear hp hI hl hat hll hn
          go_wp2_with fail
          refine H1.out.mono ?_
          rintro e w1 ⟨rfl, b1⟩
          have c1 := hb.trans (b1.mono hb.size)
          have HT := hid ((HB.out.below b1).take k (by omega))
          go_wp2_with fail
          refine (H2.out _ HT.out).mono ?_
          rintro e w2 ⟨rfl, rfl⟩
          go_wp2
          go_ret
          exact ⟨ret_bool' HR.out.symm, c1⟩
        | false =>
          have HN := hid (once_next hI.out hl hp hn)
          rw [hn] at H2
          have H2 := hid H2
          clear hp hI hl hat hll hn
          go_wp2_with fail
          refine H1.out.mono ?_
          rintro e w1 ⟨rfl, b1⟩
          have c1 := hb.trans (b1.mono hb.size)
          have HT := hid ((HB.out.below b1).take k (by omega))
          go_wp2_with fail
          refine (H2.out _ HT.out).mono ?_
          rintro e w2 ⟨rfl, rfl⟩
          go_wp2
          go_roundg (len - (k + 1))
          case measure => omega
          case rel => exact ⟨k + 1, by omega, by go_num, HN, c1⟩
    · have d1 : decide (k < len) = false := decide_eq_false hlt
      have hltI : ¬ (k : Int) < (len : Int) := by omega
      have HR := hid (show c = true by rw [← HC.out]; exact list_ok (by omega) (by rw [← hI.out, List.take_of_length_le (by omega)]))
      clear hI
      go_wp2
      go_ret
      exact ⟨ret_bool' HR.out.symm, hb⟩
end Go.Proofs.YtpheaepifjcmiaaDoor
