/- Walks: package url, Strip. -/
import Derived.Test.YtpheaepifjcmiaaDoorHas
import Derived.Test.YtpheaepifjcmiaaDoorLwInv
import Derived.Test.YtpheaepifjcmiaaDoorMax
import Derived.Deep.LoopGhost
namespace Go.Proofs.YtpheaepifjcmiaaDoor
open Go.RowKit Go.Lib
set_option maxRecDepth 100000
set_option linter.unusedVariables false

abbrev Tabs (w : World) : Prop := Utf8Tabs 1 2 w
def UrlW (w : World) : Prop := Tabs w ∧ MaxCell w
theorem url_below {w w' : World} (h : UrlW w) (hb : Below w.heap.size w w') : UrlW w' := ⟨Utf8Tabs_below h.1 hb, max_below h.2 hb⟩
theorem to_bytes (l : List UInt8) : (⟨l.toArray⟩ : ByteArray).data.toList = l := rfl
theorem of_list (s : ByteArray) {l : List UInt8} (h : s.data.toList = l) : s = ⟨l.toArray⟩ := by
  subst h
  apply ByteArray.ext
  apply Array.ext'
  rfl
theorem left_out (c : UInt8) : ([9, 10, 13] : List UInt8).contains c = !(Url.keepB c) := by
  have : ∀ n : Fin 256, ([9, 10, 13] : List UInt8).contains (UInt8.ofNat n.val) = !(Url.keepB (UInt8.ofNat n.val)) := by decide +kernel
  have h := this ⟨c.toNat, c.toNat_lt⟩
  simpa using h
/-- Behind k bytes. -/
def StripI (l : List UInt8) (k : Nat) (acc : List UInt8) : Prop := acc ++ (l.drop k).filter Url.keepB = l.filter Url.keepB ∧ acc.length ≤ k
theorem StripI.keep {s : ByteArray} {k : Nat} {acc : List UInt8} (h : StripI s.data.toList k acc) (hk : k < s.size) (hc : Url.keepB (s[k]'hk) = true) : StripI s.data.toList (k + 1) (acc ++ [s[k]'hk]) := by
  obtain ⟨h1, h2⟩ := h
  rw [drop_at s k hk, List.filter_cons, if_pos hc] at h1
  exact ⟨by rw [← h1]; simp, by simp; omega⟩
theorem StripI.leave {s : ByteArray} {k : Nat} {acc : List UInt8} (h : StripI s.data.toList k acc) (hk : k < s.size) (hc : Url.keepB (s[k]'hk) = false) : StripI s.data.toList (k + 1) acc := by
  obtain ⟨h1, h2⟩ := h
  rw [drop_at s k hk, List.filter_cons, if_neg (by rw [hc]; decide)] at h1
  exact ⟨h1, by omega⟩
theorem StripI.done {s : ByteArray} {k : Nat} {acc : List UInt8} (h : StripI s.data.toList k acc) (hk : ¬ k < s.size) : acc = s.data.toList.filter Url.keepB := by
  obtain ⟨h1, _⟩ := h
  rw [List.drop_of_length_le (by rw [size_list]; omega)] at h1
  simpa using h1

set_option maxHeartbeats 2000000 in
theorem strip_any (s0 : ByteArray) (w : World) (hs : s0.size ≤ 4000000) (hT : UrlW w) :
    Calls Tryd.prog 42 #[.string s0] w fun e w' => e = .returned (.string ⟨(Url.strip s0.data.toList).toArray⟩) ∧ Below w.heap.size w w' := by
  have HC := Tryd.strings_TrimFunc 48 #[] (enters_of Tryd.func48 (by kernel_rfl) rfl) _ s0 w (by omega) hT.1 (low_any w)
  obtain ⟨s, hse⟩ : ∃ s, trimF Url.lowR s0 = s := ⟨_, rfl⟩
  have hsl : s.data.toList = Url.cutR (Url.cutL s0.data.toList) := by rw [← hse]; exact Url.trim_low s0
  have hsz : s.size ≤ s0.size := by
    rw [← size_list, hsl, ← size_list]
    exact Nat.le_trans (Url.cutR_le _) (Url.cutL_le _)
  have hX : Url.strip s0.data.toList = s.data.toList.filter Url.keepB := by rw [hsl]; rfl
  rw [hse] at HC
  rw [hX]
  have HC := hid HC
  clear hT hse hsl hX
  go_enter Tryd.func42, Tryd.ntmps42
  go_wp2_with fail
  refine HC.out.mono ?_
  rintro e w1 ⟨rfl, hb0⟩
  go_wp2_with fail
  refine (Tryd.Builder_Grow_fresh w.heap.size w1.heap.size s.size _ hb0.size (heap_alloc_new w1 _) (by have := hb0.size; simp; omega) (by omega)).mono ?_
  rintro e W1 ⟨rfl, hBA, hb1⟩
  have hbel := (hb0.alloc hb0.size (.cells #[.pointer none, .slice none 0 0] 73)).trans hb1
  have hIs : IsBuilderF 73 5 w.heap.size w1.heap.size (byteCells []) W1 := IsBuilderF.of (.inr hBA)
  clear hb1 hBA HC
  go_wp2
  go_loopg [12] s.size (fun g iv wr => ∃ (k : Nat) (acc : List UInt8), k + g = s.size ∧ iv = .int .i64 k ∧ Hid (StripI s.data.toList k acc) ∧ IsBuilderF 73 5 w.heap.size w1.heap.size (byteCells acc) wr ∧ Below w.heap.size w wr)
  case atStart => exact ⟨0, [], by omega, rfl, hid ⟨rfl, Nat.le_refl _⟩, hIs, hbel⟩
  case round =>
    obtain ⟨k, acc, hk, rfl, hI, hB, hbw⟩ := hrel
    have hszr := hbw.size
    have hal := hI.out.2
    by_cases hlt : k < s.size
    · have HH := fun w => has_any ⟨#[9, 10, 13]⟩ (s[k]'hlt) w
      rw [to_bytes] at HH
      simp only [left_out] at HH
      have d1 : decide (k < s.size) = true := decide_eq_true hlt
      cases hkp : Url.keepB (s[k]'hlt) with
      | true =>
        have HN := hI.out.keep hlt hkp
        rw [hkp] at HH
        have hbc : byteCells acc ++ [Value.int .u8 (((s[k]'hlt).toNat : Nat) : Int)] = byteCells (acc ++ [s[k]'hlt]) := by rw [byteCells_append]; rfl
        obtain ⟨c, hc⟩ : ∃ c, (s[k]'hlt) = c := ⟨_, rfl⟩
        rw [hc] at HN HH hbc
        obtain ⟨n, hn⟩ : ∃ n, c.toNat = n := ⟨_, rfl⟩
        rw [hn] at HH hbc
        have HH := hid HH
        have HN := hid HN
        clear hkp hI
        go_wp2_with fail
        refine (HH.out _).mono ?_
        rintro e w2 ⟨rfl, rfl⟩
        go_wp2_with fail
        refine (Tryd.Builder_WriteByte_k w.heap.size w1.heap.size (byteCells acc) (n : Int) _ hB (by rw [byteCells_length]; omega) hszr).mono ?_
        rintro e w3 ⟨rfl, hB3, hb3, _⟩
        rw [hbc] at hB3
        have hB3' := (Or.inr hB3 : IsBuilderF 73 5 w.heap.size w1.heap.size (byteCells (acc ++ [c])) w3)
        have hbw3 := hbw.trans hb3
        clear hB hB3 hb3 hbw
        go_wp2
        go_roundg (s.size - (k + 1))
        case measure => omega
        case rel => exact ⟨k + 1, acc ++ [c], by omega, by go_num, HN, hB3', hbw3⟩
      | false =>
        have HN := hid (hI.out.leave hlt hkp)
        rw [hkp] at HH
        have HH := hid HH
        clear hkp hI
        go_wp2_with fail
        refine (HH.out _).mono ?_
        rintro e w2 ⟨rfl, rfl⟩
        go_wp2
        go_roundg (s.size - (k + 1))
        case measure => omega
        case rel => exact ⟨k + 1, acc, by omega, by go_num, HN, hB, hbw⟩
    · have HX := hid (hI.out.done hlt)
      have d1 : decide (k < s.size) = false := decide_eq_false hlt
      clear hI
      go_wp2_with fail
      refine (Tryd.Builder_String_any_k w.heap.size w1.heap.size acc _ hB hszr).mono ?_
      rintro e w3 ⟨rfl, _, b3, _⟩
      have hb3 := hid (hbw.trans b3)
      clear hB b3 hbw
      go_wp2
      go_ret
      exact ⟨congrArg (fun x : List UInt8 => Ending.returned (.string ⟨x.toArray⟩)) HX.out, hb3.out⟩
end Go.Proofs.YtpheaepifjcmiaaDoor
