/- The walk of the statement NoteAll. -/
import Derived.Test.YtinioghpghcdiaaDoorFrameN
import Derived.Test.YtinioghpghcdiaaDoorNoteRow
namespace Go.Proofs.YtinioghpghcdiaaDoor.noteAll
open Go.ChangeShapes Go.WideShapes Go.ChangeAt Go.RowKit Go.Lib
open Go.ChangeMaps (open_string shut_string)
set_option maxRecDepth 100000
set_option linter.unusedVariables false

set_option maxHeartbeats 1000000 in
theorem walk (w : World) (hT : NoteW w) (s : ByteArray) (ws : s.size ≤ maxLen) (cd : Bool) :
    Calls Tryd.prog 4 #[.string s, .bool cd] w fun e w' => e = .returned (.bool true) ∧ Below w.heap.size w w' := by
  unfold maxLen at ws
  have HT := hid hT
  by_cases hs : 750 < s.size
  · have hd : decide ((750 : Int) < (s.size : Int)) = true := by simp; omega
    clear hT
    go_enter Tryd.func4, Tryd.ntmps4
    go_wp2
    go_ret
    exact ⟨rfl, Below.refl _ _⟩
  have hd : decide ((750 : Int) < (s.size : Int)) = false := by simp; omega
  have H1 := hid fun W (k : Nat) (hk : k ≤ 1000) h => nreads_any s k cd W h (by omega) (by unfold maxLen; omega)
  have HK := hid known7_any
  clear hT
  go_enter Tryd.func4, Tryd.ntmps4
  go_wp2
  go_loopg [5] s.size (fun g iv wr => ∃ k : Nat, k + g = s.size ∧ iv = .int .i64 k ∧ Below w.heap.size w wr)
  case atStart => exact ⟨0, by omega, rfl, Below.refl _ _⟩
  case round =>
    obtain ⟨k, hk, rfl, hb⟩ := hrel
    by_cases hlt : k < s.size
    · have d1 : decide (k < s.size) = true := decide_eq_true hlt
      have hltI : (k : Int) < (s.size : Int) := by omega
      obtain ⟨c, hc⟩ : ∃ c, s[k]'hlt = c := ⟨_, rfl⟩
      have hc256 := c.toNat_lt
      have HTr := hid (note_below HT.out hb)
      by_cases h60 : c.toNat = 60
      · have b1 : (((c.toNat : Nat) : Int) != 60) = false := by simp [h60]
        go_wp2_with fail
        refine (H1.out _ k (by omega) HTr.out).mono ?_
        rintro e w1 ⟨rfl, b2⟩
        have hb2 := hb.trans (b2.mono hb.size)
        clear b2 hb
        go_wp2
        go_roundg (s.size - (k + 1))
        case measure => omega
        case rel => exact ⟨k + 1, by omega, by go_num, hb2⟩
      · have b1 : (((c.toNat : Nat) : Int) != 60) = true := by simp; omega
        go_wp2
        go_roundg (s.size - (k + 1))
        case measure => omega
        case rel => exact ⟨k + 1, by omega, by go_num, hb⟩
    · have d1 : decide (k < s.size) = false := decide_eq_false hlt
      have hltI : ¬ (k : Int) < (s.size : Int) := by omega
      have HTr := hid (note_below HT.out hb)
      go_wp2_with fail
      refine (HK.out _ HTr.out).mono ?_
      rintro e w1 ⟨rfl, b2⟩
      have hb2 := hb.trans (b2.mono hb.size)
      clear b2 hb
      go_wp2
      go_ret
      exact ⟨rfl, hb2⟩
end Go.Proofs.YtinioghpghcdiaaDoor.noteAll
