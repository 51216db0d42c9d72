/- Walks: package url, Safe. -/
import Derived.Test.YtpheaepifjcmiaaDoorScheme
import Derived.Test.YtpheaepifjcmiaaDoorSlS
namespace Go.Proofs.YtpheaepifjcmiaaDoor
open Go.RowKit Go.Lib
set_option maxRecDepth 100000
set_option linter.unusedVariables false

theorem contains_any (a : Option Addr) (len cap : Nat) (ls : List (List UInt8)) (x : List UInt8) (w : World) (h : IsS w a len ls) (hs : len ≤ 4294967296) :
    Calls Tryd.prog 33 #[.slice a len cap, .string ⟨x.toArray⟩] w fun e w' => e = .returned (.bool (ls.contains x)) ∧ w = w' := by
  obtain ⟨hl, h0 | ⟨b, off, rfl, hat⟩⟩ := h
  · subst h0
    have : ls = [] := List.eq_nil_of_length_eq_zero hl
    subst this
    exact (Tryd.slices_Contains_string_empty a cap _ w).mono fun e w' ⟨h1, h2⟩ => ⟨h1, h2.symm⟩
  · refine (Tryd.slices_Contains_string b off len cap (ls.map fun l => ⟨l.toArray⟩) _ w (by rw [List.length_map, hl]; exact Nat.le_refl _) (by omega) (fun j hj => ?_)).mono fun e w' ⟨h1, h2⟩ => ⟨?_, h2.symm⟩
    · rw [List.length_map] at hj
      rw [hat j _ (List.getElem?_eq_getElem hj)]
      simp [List.getD, List.getElem?_eq_getElem hj]
    · rw [h1, List.take_of_length_le (by rw [List.length_map, hl]; exact Nat.le_refl _)]
      congr 2
      rw [Bool.eq_iff_iff, containsS_iff, List.contains_iff_mem, List.mem_map]
      constructor
      · rintro ⟨l, h3, h4⟩
        have h5 : l = x := congrArg (fun s : ByteArray => s.data.toList) h4
        rwa [← h5]
      · intro h3
        exact ⟨x, h3, rfl⟩

set_option maxHeartbeats 1000000 in
theorem safe_any (s : ByteArray) (a : Option Addr) (len cap : Nat) (ls : List (List UInt8)) (w : World) (h : IsS w a len ls) (hs : s.size ≤ 4000000) (hl : len ≤ 4294967296) (hT : UrlW w) :
    Calls Tryd.prog 31 #[.string s, .slice a len cap] w fun e w' => e = .returned (.bool (Url.safe s.data.toList ls)) ∧ Below w.heap.size w w' := by
  have HS := scheme_any s w hs hT
  unfold Url.safe
  cases hx : Url.scheme s.data.toList with
  | none =>
    rw [hx, schemeV_none rfl] at HS
    have HS := hid HS
    clear hx h hT
    go_enter Tryd.func31, Tryd.ntmps31
    go_wp2_with fail
    refine HS.out.mono ?_
    rintro e w1 ⟨rfl, b1⟩
    go_wp2
    go_ret
    exact ⟨rfl, b1⟩
  | some x =>
    rw [hx, schemeV_some rfl] at HS
    have HS := hid HS
    have HC := hid (fun w h => contains_any a len cap ls x w h hl)
    have HH := hid h
    clear hx h hT
    go_enter Tryd.func31, Tryd.ntmps31
    go_wp2_with fail
    refine HS.out.mono ?_
    rintro e w1 ⟨rfl, b1⟩
    go_wp2_with fail
    refine (HC.out _ (HH.out.below b1)).mono ?_
    rintro e w2 ⟨rfl, rfl⟩
    go_wp2
    go_ret
    exact ⟨ret_bool' (by simp), b1⟩
end Go.Proofs.YtpheaepifjcmiaaDoor
