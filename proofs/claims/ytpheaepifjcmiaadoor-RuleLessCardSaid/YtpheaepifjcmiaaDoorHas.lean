/- Walks: package url, has, and the closure that tells whether a byte may stand. -/
import Derived.Test.YtpheaepifjcmiaaDoorShelf
import Derived.Test.YtpheaepifjcmiaaDoorClsLet
import Derived.Test.YtpheaepifjcmiaaDoorUrl
import Derived.Lib.IndexAny
namespace Go.Proofs.YtpheaepifjcmiaaDoor
open Go.RowKit Go.Lib
set_option maxRecDepth 100000
set_option linter.unusedVariables false

theorem byte_nat {c : Nat} (hc : c < 256) : ((c : Int).toNat.toUInt8).toNat = c := by
  rw [Int.toNat_natCast]
  exact UInt8.toNat_ofNat_of_lt' hc
theorem has_any (m : ByteArray) (c : UInt8) (w : World) :
    Calls Tryd.prog 50 #[.string m, .int .u8 (c.toNat : Nat)] w fun e w' => e = .returned (.bool (m.data.toList.contains c)) ∧ w = w' := by
  have HI := Tryd.strings_IndexByte m ((c.toNat : Nat) : Int) w
  rw [show (((c.toNat : Nat) : Int).toNat.toUInt8) = c by rw [Int.toNat_natCast]; exact UInt8.ofNat_toNat] at HI
  rw [contains_iff_indexByte]
  have HI := hid HI
  go_enter Tryd.func50, Tryd.ntmps50
  go_wp2_with fail
  refine HI.out.mono ?_
  rintro e w' ⟨rfl, rfl⟩
  go_wp2
  go_ret
  exact ⟨rfl, rfl⟩
/-- A letter, a digit, or one of these. -/
def standsB (m : List UInt8) (c : UInt8) : Bool := letterN c.toNat || digitN c.toNat || m.contains c
/-- The closure: what it captured lies at a block of its own. -/
theorem stands_any (m : ByteArray) (B : Nat) (c : UInt8) (w : World) (hB : w.cell? ⟨B, 0, none⟩ = some (.string m)) :
    Calls Tryd.prog 54 #[.int .u8 (c.toNat : Nat), .pointer (some ⟨B, 0, none⟩)] w fun e w' => e = .returned (.bool (standsB m.data.toList c)) ∧ w = w' := by
  have hc := c.toNat_lt
  have H1 := cletter_any c.toNat (by omega) w
  have H2 := cdigit_any c.toNat (by omega) w
  have H3 := hid (has_any m c w)
  obtain ⟨n, hn⟩ : ∃ n, c.toNat = n := ⟨_, rfl⟩
  unfold standsB
  rw [hn] at H1 H2 H3 ⊢
  cases h1 : letterN n with
  | true =>
    rw [h1] at H1
    have H1 := hid H1
    clear H2 H3
    go_enter Tryd.func54, Tryd.ntmps54
    go_wp2_with fail
    refine H1.out.mono ?_
    rintro e w' ⟨rfl, rfl⟩
    go_wp2
    go_ret
    exact ⟨ret_bool' (by simp), rfl⟩
  | false =>
    rw [h1] at H1
    have H1 := hid H1
    cases h2 : digitN n with
    | true =>
      rw [h2] at H2
      have H2 := hid H2
      clear H3
      go_enter Tryd.func54, Tryd.ntmps54
      go_wp2_with fail
      refine H1.out.mono ?_
      rintro e w' ⟨rfl, rfl⟩
      go_wp2_with fail
      refine H2.out.mono ?_
      rintro e w' ⟨rfl, rfl⟩
      go_wp2
      go_ret
      exact ⟨ret_bool' (by simp), rfl⟩
    | false =>
      rw [h2] at H2
      have H2 := hid H2
      go_enter Tryd.func54, Tryd.ntmps54
      go_wp2_with fail
      refine H1.out.mono ?_
      rintro e w' ⟨rfl, rfl⟩
      go_wp2_with fail
      refine H2.out.mono ?_
      rintro e w' ⟨rfl, rfl⟩
      go_wp2_with fail
      refine H3.out.mono ?_
      rintro e w' ⟨rfl, rfl⟩
      go_wp2
      go_ret
      exact ⟨ret_bool' (by simp), rfl⟩
/-- What 'standing' hands back, and the block that it lays. -/
theorem standing_any (m : ByteArray) (w : World) :
    Calls Tryd.prog 44 #[.string m] w fun e w' => e = .returned (.func (.func 54) #[] #[.pointer (some ⟨w.heap.size, 0, none⟩)]) ∧ w' = w.alloc (.cells #[.string m] 9) := by
  go_enter Tryd.func44, Tryd.ntmps44
  go_wp2
  go_ret
  exact ⟨rfl, rfl⟩
/-- The trimmed byte. -/
theorem low_any (w : World) : PredAt Tryd.prog 48 #[] encR Url.lowR w := fun W r _ => by
  unfold FnGives
  unfold Url.lowR
  go_enter Tryd.func48, Tryd.ntmps48
  go_wp2
  go_ret
  exact ⟨by simp; omega, 0, rfl⟩
end Go.Proofs.YtpheaepifjcmiaaDoor
