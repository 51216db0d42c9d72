/- Walks: package class, letters. Walks: package class, is a byte a blank. Walks: package class, hexadecimal digits. Walks: package class, Lower. Walks: package ent, the character of a number; what an address goes on with; the sign at an end. -/
import Derived.Test.YtgldgdopabmefaaGreatDoorRefHex
import Derived.Test.YtgldgdopabmefaaGreatDoorRefLower
import Derived.Test.YtgldgdopabmefaaGreatDoorMeanText
import Derived.Test.YtgldgdopabmefaaGreatDoorShelf
namespace Go.Proofs.YtgldgdopabmefaaGreatDoor
open Go.RowKit Go.Lib
set_option maxRecDepth 100000
set_option linter.unusedVariables false

def greatN (c : Nat) : Bool := decide (65 ≤ c ∧ c ≤ 90)
theorem cgreat_any (c : Nat) (hc : c < 256) (w : World) :
    Calls Tryz.prog 46 #[.int .u8 c] w fun e w' => e = .returned (.bool (greatN c)) ∧ w = w' := by
  rcases (show c < 65 ∨ 90 < c ∨ (65 ≤ c ∧ c ≤ 90) by omega) with h | h | ⟨h, h2⟩
  · have e : greatN c = false := by simp only [greatN]; exact decide_eq_false (by omega)
    rw [e]; clear e
    go_enter Tryz.func46, Tryz.ntmps46
    go_wp2
    go_ret
    first | exact ⟨rfl, rfl⟩ | exact ⟨by simp; omega, rfl⟩
  · have e : greatN c = false := by simp only [greatN]; exact decide_eq_false (by omega)
    rw [e]; clear e
    have h2 : 65 ≤ c := by omega
    go_enter Tryz.func46, Tryz.ntmps46
    go_wp2
    go_ret
    first | exact ⟨rfl, rfl⟩ | exact ⟨by simp; omega, rfl⟩
  · have e : greatN c = true := by simp only [greatN]; exact decide_eq_true (by omega)
    rw [e]; clear e
    go_enter Tryz.func46, Tryz.ntmps46
    go_wp2
    go_ret
    first | exact ⟨rfl, rfl⟩ | exact ⟨by simp; omega, rfl⟩
theorem cletter_any (c : Nat) (hc : c < 256) (w : World) :
    Calls Tryz.prog 58 #[.int .u8 c] w fun e w' => e = .returned (.bool (letterN c)) ∧ w = w' := by
  have HG := cgreat_any c hc w
  by_cases h1 : 65 ≤ c ∧ c ≤ 90
  · have e : letterN c = true := by simp [letterN, h1]
    rw [e]; clear e
    rw [show greatN c = true from decide_eq_true h1] at HG
    have HG := hid HG
    clear h1
    go_enter Tryz.func58, Tryz.ntmps58
    go_wp2_with (go_at_call 46; refine HG.out.mono ?_; rintro e w' ⟨rfl, rfl⟩)
    go_ret
    first | exact ⟨rfl, rfl⟩ | exact ⟨by simp; omega, rfl⟩
  by_cases h2 : 97 ≤ c ∧ c ≤ 122
  · have e : letterN c = true := by simp only [letterN]; exact decide_eq_true (by omega)
    rw [e]; clear e
    rw [show greatN c = false from decide_eq_false h1] at HG
    have HG := hid HG
    have a1 : 97 ≤ c := by omega
    have a2 : c ≤ 122 := by omega
    clear h1 h2
    go_enter Tryz.func58, Tryz.ntmps58
    go_wp2_with (go_at_call 46; refine HG.out.mono ?_; rintro e w' ⟨rfl, rfl⟩)
    go_ret
    first | exact ⟨rfl, rfl⟩ | exact ⟨by simp; omega, rfl⟩
  by_cases h2 : c < 97
  · have e : letterN c = false := by simp only [letterN]; exact decide_eq_false (by omega)
    rw [e]; clear e
    rw [show greatN c = false from decide_eq_false h1] at HG
    have HG := hid HG
    have a1 : c < 97 := by omega
    clear h1 h2
    go_enter Tryz.func58, Tryz.ntmps58
    go_wp2_with (go_at_call 46; refine HG.out.mono ?_; rintro e w' ⟨rfl, rfl⟩)
    go_ret
    first | exact ⟨rfl, rfl⟩ | exact ⟨by simp; omega, rfl⟩
  by_cases h2 : 122 < c
  · have e : letterN c = false := by simp only [letterN]; exact decide_eq_false (by omega)
    rw [e]; clear e
    rw [show greatN c = false from decide_eq_false h1] at HG
    have HG := hid HG
    have a1 : 97 ≤ c := by omega
    have a2 : 122 < c := by omega
    clear h1 h2
    go_enter Tryz.func58, Tryz.ntmps58
    go_wp2_with (go_at_call 46; refine HG.out.mono ?_; rintro e w' ⟨rfl, rfl⟩)
    go_ret
    first | exact ⟨rfl, rfl⟩ | exact ⟨by simp; omega, rfl⟩
  omega
end Go.Proofs.YtgldgdopabmefaaGreatDoor
namespace Go.Proofs.YtgldgdopabmefaaGreatDoor
open Go.RowKit Go.Lib
set_option maxRecDepth 100000
set_option linter.unusedVariables false

theorem cspace_any (c : Nat) (hc : c < 256) (w : World) :
    Calls Tryz.prog 72 #[.int .u8 c] w fun e w' => e = .returned (.bool (spaceN c)) ∧ w = w' := by
  by_cases h0 : c = 9
  · subst h0
    have e : spaceN 9 = true := by decide
    rw [e]; clear e
    go_enter Tryz.func72, Tryz.ntmps72
    go_wp2
    go_ret
    first | exact ⟨rfl, rfl⟩ | exact ⟨by simp; omega, rfl⟩
  have t0 : ((c : Int) == 9) = false := beq_eq_false_iff_ne.2 (by omega)
  by_cases h1 : c = 10
  · subst h1
    have e : spaceN 10 = true := by decide
    rw [e]; clear e
    go_enter Tryz.func72, Tryz.ntmps72
    go_wp2
    go_ret
    first | exact ⟨rfl, rfl⟩ | exact ⟨by simp; omega, rfl⟩
  have t1 : ((c : Int) == 10) = false := beq_eq_false_iff_ne.2 (by omega)
  by_cases h2 : c = 12
  · subst h2
    have e : spaceN 12 = true := by decide
    rw [e]; clear e
    go_enter Tryz.func72, Tryz.ntmps72
    go_wp2
    go_ret
    first | exact ⟨rfl, rfl⟩ | exact ⟨by simp; omega, rfl⟩
  have t2 : ((c : Int) == 12) = false := beq_eq_false_iff_ne.2 (by omega)
  by_cases h3 : c = 13
  · subst h3
    have e : spaceN 13 = true := by decide
    rw [e]; clear e
    go_enter Tryz.func72, Tryz.ntmps72
    go_wp2
    go_ret
    first | exact ⟨rfl, rfl⟩ | exact ⟨by simp; omega, rfl⟩
  have t3 : ((c : Int) == 13) = false := beq_eq_false_iff_ne.2 (by omega)
  by_cases h4 : c = 32
  · subst h4
    have e : spaceN 32 = true := by decide
    rw [e]; clear e
    go_enter Tryz.func72, Tryz.ntmps72
    go_wp2
    go_ret
    first | exact ⟨rfl, rfl⟩ | exact ⟨by simp; omega, rfl⟩
  have t4 : ((c : Int) == 32) = false := beq_eq_false_iff_ne.2 (by omega)
  have e : spaceN c = false := by simp [spaceN, h0, h1, h2, h3, h4]
  rw [e]; clear e h0 h1 h2 h3 h4
  go_enter Tryz.func72, Tryz.ntmps72
  go_wp2
  go_ret
  first | exact ⟨rfl, rfl⟩ | exact ⟨by simp; omega, rfl⟩
end Go.Proofs.YtgldgdopabmefaaGreatDoor
namespace Go.Proofs.YtgldgdopabmefaaGreatDoor
open Go.RowKit Go.Lib
set_option maxRecDepth 100000
set_option linter.unusedVariables false

theorem chex_any (c : Nat) (hc : c < 256) (w : World) :
    Calls Tryz.prog 101 #[.int .u8 c] w fun e w' => e = .returned (.int .i64 (hexN c)) ∧ w = w' := by
  have HD := cdigit_any c hc w
  rcases (show (c < 48) ∨ (48 ≤ c ∧ c ≤ 57) ∨ (57 < c ∧ c < 65) ∨ (65 ≤ c ∧ c ≤ 70) ∨ (70 < c ∧ c < 97) ∨ (97 ≤ c ∧ c ≤ 102) ∨ (102 < c) by omega) with h | ⟨h, h'⟩ | ⟨h, h'⟩ | ⟨h, h'⟩ | ⟨h, h'⟩ | ⟨h, h'⟩ | h
  · have e : hexN c = -1 := by unfold hexN; repeat' split <;> omega
    rw [e]; clear e
    rw [show digitN c = false from decide_eq_false (by omega)] at HD
    have HD := hid HD
    have f0 : c < 65 := by omega
    have f1 : c < 97 := by omega
    go_enter Tryz.func101, Tryz.ntmps101
    go_wp2_with (go_at_call 105; refine HD.out.mono ?_; rintro e w' ⟨rfl, rfl⟩)
    go_ret
    first | exact ⟨rfl, rfl⟩ | exact ⟨by simp; omega, rfl⟩ | exact ⟨congrArg (fun x => Ending.returned (.int .i64 x)) (by omega), rfl⟩
  · have e : hexN c = (c : Int) - 48 := by unfold hexN; repeat' split <;> omega
    rw [e]; clear e
    rw [show digitN c = true from decide_eq_true (by omega)] at HD
    have HD := hid HD
    have f0 : c < 65 := by omega
    have f1 : c < 97 := by omega
    have u : (0 : Int) ≤ (c : Int) - 48 := by omega
    have u2 : (c : Int) - 48 < 256 := by omega
    go_enter Tryz.func101, Tryz.ntmps101
    go_wp2_with (go_at_call 105; refine HD.out.mono ?_; rintro e w' ⟨rfl, rfl⟩)
    go_ret
    first | exact ⟨rfl, rfl⟩ | exact ⟨by simp; omega, rfl⟩ | exact ⟨congrArg (fun x => Ending.returned (.int .i64 x)) (by omega), rfl⟩
  · have e : hexN c = -1 := by unfold hexN; repeat' split <;> omega
    rw [e]; clear e
    rw [show digitN c = false from decide_eq_false (by omega)] at HD
    have HD := hid HD
    have f0 : c < 65 := by omega
    have f1 : c < 97 := by omega
    go_enter Tryz.func101, Tryz.ntmps101
    go_wp2_with (go_at_call 105; refine HD.out.mono ?_; rintro e w' ⟨rfl, rfl⟩)
    go_ret
    first | exact ⟨rfl, rfl⟩ | exact ⟨by simp; omega, rfl⟩ | exact ⟨congrArg (fun x => Ending.returned (.int .i64 x)) (by omega), rfl⟩
  · have e : hexN c = (c : Int) - 65 + 10 := by unfold hexN; repeat' split <;> omega
    rw [e]; clear e
    have f0 : 65 ≤ c := by omega
    have f1 : c ≤ 70 := by omega
    have u : (0 : Int) ≤ (c : Int) + 32 := by omega
    have u2 : (c : Int) + 32 < 256 := by omega
    have u3 : (0 : Int) ≤ (c : Int) + 32 - 97 := by omega
    have u4 : (c : Int) + 32 - 97 < 256 := by omega
    clear HD
    go_enter Tryz.func101, Tryz.ntmps101
    go_wp2
    go_ret
    first | exact ⟨rfl, rfl⟩ | exact ⟨by simp; omega, rfl⟩ | exact ⟨congrArg (fun x => Ending.returned (.int .i64 x)) (by omega), rfl⟩
  · have e : hexN c = -1 := by unfold hexN; repeat' split <;> omega
    rw [e]; clear e
    rw [show digitN c = false from decide_eq_false (by omega)] at HD
    have HD := hid HD
    have f0 : 65 ≤ c := by omega
    have f1 : 70 < c := by omega
    have f2 : c < 97 := by omega
    go_enter Tryz.func101, Tryz.ntmps101
    go_wp2_with (go_at_call 105; refine HD.out.mono ?_; rintro e w' ⟨rfl, rfl⟩)
    go_ret
    first | exact ⟨rfl, rfl⟩ | exact ⟨by simp; omega, rfl⟩ | exact ⟨congrArg (fun x => Ending.returned (.int .i64 x)) (by omega), rfl⟩
  · have e : hexN c = (c : Int) - 97 + 10 := by unfold hexN; repeat' split <;> omega
    rw [e]; clear e
    have f0 : 65 ≤ c := by omega
    have f1 : 70 < c := by omega
    have f2 : 97 ≤ c := by omega
    have f3 : c ≤ 102 := by omega
    have u : (0 : Int) ≤ (c : Int) - 97 := by omega
    have u2 : (c : Int) - 97 < 256 := by omega
    clear HD
    go_enter Tryz.func101, Tryz.ntmps101
    go_wp2
    go_ret
    first | exact ⟨rfl, rfl⟩ | exact ⟨by simp; omega, rfl⟩ | exact ⟨congrArg (fun x => Ending.returned (.int .i64 x)) (by omega), rfl⟩
  · have e : hexN c = -1 := by unfold hexN; repeat' split <;> omega
    rw [e]; clear e
    rw [show digitN c = false from decide_eq_false (by omega)] at HD
    have HD := hid HD
    have f0 : 65 ≤ c := by omega
    have f1 : 70 < c := by omega
    have f2 : 97 ≤ c := by omega
    have f3 : 102 < c := by omega
    go_enter Tryz.func101, Tryz.ntmps101
    go_wp2_with (go_at_call 105; refine HD.out.mono ?_; rintro e w' ⟨rfl, rfl⟩)
    go_ret
    first | exact ⟨rfl, rfl⟩ | exact ⟨by simp; omega, rfl⟩ | exact ⟨congrArg (fun x => Ending.returned (.int .i64 x)) (by omega), rfl⟩
end Go.Proofs.YtgldgdopabmefaaGreatDoor
namespace Go.Proofs.YtgldgdopabmefaaGreatDoor
open Go.RowKit Go.Lib
set_option maxRecDepth 100000
set_option linter.unusedVariables false

/-- The first k bytes are small. -/
def lowTo (l : List UInt8) (k : Nat) : List UInt8 := lowL (l.take k) ++ l.drop k
theorem lowTo_len (l : List UInt8) (k : Nat) (h : k ≤ l.length) : (lowTo l k).length = l.length := by
  unfold lowTo; rw [List.length_append, lowL_len, List.length_take, List.length_drop]; omega
theorem lowTo_zero (l : List UInt8) : lowTo l 0 = l := by simp [lowTo, lowL]
theorem lowTo_all (l : List UInt8) (k : Nat) (h : l.length ≤ k) : lowTo l k = lowL l := by
  unfold lowTo; rw [List.take_of_length_le h, List.drop_of_length_le h, List.append_nil]
theorem lowTo_get (l : List UInt8) (k j : Nat) (h : k ≤ l.length) : (lowTo l k)[j]? = if j < k then (l[j]?).map lowC else l[j]? := by
  unfold lowTo
  have hl : (lowL (l.take k)).length = k := by rw [lowL_len, List.length_take]; omega
  by_cases hj : j < k
  · rw [if_pos hj, List.getElem?_append_left (by omega)]
    simp [lowL, List.getElem?_map, List.getElem?_take_of_lt hj]
  · rw [if_neg hj, List.getElem?_append_right (by omega), hl, List.getElem?_drop]
    congr 1; omega
theorem B_get {l : List UInt8} {j : Nat} : U8.B l j = ((l[j]?).getD 0).toNat := by simp [U8.B, List.getD]
theorem lowTo_here (l : List UInt8) (k : Nat) (h : k < l.length) : U8.B (lowTo l k) k = U8.B l k := by
  rw [B_get, B_get, lowTo_get l k k (by omega), if_neg (by omega)]
theorem lowTo_other (l : List UInt8) (k j : Nat) (h : k < l.length) (hj : j ≠ k) : U8.B (lowTo l (k + 1)) j = U8.B (lowTo l k) j := by
  rw [B_get, B_get, lowTo_get l (k + 1) j (by omega), lowTo_get l k j (by omega)]
  by_cases h1 : j < k
  · rw [if_pos h1, if_pos (by omega)]
  · rw [if_neg h1, if_neg (by omega)]
theorem lowTo_low (l : List UInt8) (k : Nat) (h : k < l.length) : U8.B (lowTo l (k + 1)) k = (if 65 ≤ U8.B l k ∧ U8.B l k ≤ 90 then U8.B l k + 32 else U8.B l k) := by
  rw [B_get, lowTo_get l (k + 1) k (by omega), if_pos (by omega), List.getElem?_eq_getElem h]
  have hb : U8.B l k = (l[k]).toNat := U8.B_eq (List.getElem?_eq_getElem h)
  rw [hb]
  show (lowC l[k]).toNat = _
  rw [lowC_num]
/-- The bytes of the slice that the call made, and that no mark lies on them. -/
def Made (g : Nat) (l : List UInt8) (w : World) : Prop := (∀ j, j < l.length → w.cell? ⟨g, j, none⟩ = some (.int .u8 (U8.B l j))) ∧ ∀ j, j < l.length → w.frozen? ⟨g, j, none⟩ = false
theorem made_new (w : World) (s : ByteArray) (c : Nat) (hc : s.size ≤ c) : Made w.heap.size s.data.toList (w.drew.alloc (.cells (bytesRow s c) 5 ((bytesRow s c).size, (bytesRow s c).size + 1))) := by
  refine ⟨fun j hj => ?_, fun j hj => ?_⟩
  · rcases (isB_made w s c ((bytesRow s c).size, (bytesRow s c).size + 1)).2 with h | ⟨b, off, e, h⟩
    · rw [size_list] at hj; omega
    · obtain ⟨rfl, rfl⟩ : b = w.heap.size ∧ off = 0 := by simpa using e.symm
      have := h j hj
      rwa [Nat.zero_add] at this
  · have hsz : (bytesRow s c).size = c := by simp [bytesRow]; omega
    have hj' : j < c := by rw [size_list] at hj; omega
    have hd : w.drew.heap.size = w.heap.size := rfl
    simp only [World.frozen?]
    rw [← hd, World.alloc]
    simp only [Array.getElem?_push_size, hsz]
    simp
    omega
theorem made_isB {g : Nat} {l : List UInt8} {w : World} (h : Made g l w) : IsB w (some ⟨g, 0, none⟩) l.length l :=
  ⟨rfl, .inr ⟨g, 0, rfl, fun i hi => by rw [Nat.zero_add]; exact h.1 i hi⟩⟩
theorem made_kept {g k : Nat} {l : List UInt8} {w : World} (h : Made g (lowTo l k) w) (hk : k < l.length) (hn : ¬ (65 ≤ U8.B l k ∧ U8.B l k ≤ 90)) : Made g (lowTo l (k + 1)) w := by
  have h1 := lowTo_len l k (by omega)
  have h2 := lowTo_len l (k + 1) (by omega)
  refine ⟨fun j hj => ?_, fun j hj => h.2 j (by omega)⟩
  rw [h.1 j (by omega)]
  by_cases hjk : j = k
  · subst hjk; rw [lowTo_low l j hk, if_neg hn, lowTo_here l j hk]
  · rw [lowTo_other l k j hk hjk]
theorem made_set {g k : Nat} {l : List UInt8} {w : World} (h : Made g (lowTo l k) w) (hk : k < l.length) (hn : 65 ≤ U8.B l k ∧ U8.B l k ≤ 90) : Made g (lowTo l (k + 1)) (w.setCell ⟨g, k, none⟩ (.int .u8 ((U8.B l k : Nat) + 32))) := by
  have h1 := lowTo_len l k (by omega)
  have h2 := lowTo_len l (k + 1) (by omega)
  refine ⟨fun j hj => ?_, fun j hj => by rw [World.frozen?_setCell]; exact h.2 j (by omega)⟩
  by_cases hjk : j = k
  · subst hjk
    rw [World.cell?_setCell_same' _ _ _ (by rw [h.1 j (by omega)]; rfl), lowTo_low l j hk, if_pos hn]
    rfl
  · rw [World.cell?_setCell_other _ _ _ _ (by intro e; exact hjk (by simpa using (congrArg Addr.off e).symm)), h.1 j (by omega), lowTo_other l k j hk hjk]

set_option maxHeartbeats 1000000 in
theorem clower_any (s : ByteArray) (w : World) (hs : s.size ≤ 4294967296) :
    Calls Tryz.prog 24 #[.string s] w fun e w' => e = .returned (.string ⟨(lowL s.data.toList).toArray⟩) ∧ Below w.heap.size w w' := by
  have hcb := run_bytes_of_string (P := Tryz.prog) w 9 60 5 s Tryz.underlying9 Tryz.underlying60 Tryz.underlying5
  have hc1 := grownCap_ge w s.size 0 5
  have hc2 := grownCap_le_maxLen w s.size 0 5 (by unfold maxLen; omega)
  unfold maxLen at hc2
  generalize grownCap w s.size 0 5 = c at *
  have hM := made_new w s c hc1
  have hb0 := (Below.refl w.heap.size w).drew.alloc (Nat.le_refl _) (.cells (bytesRow s c) 5 ((bytesRow s c).size, (bytesRow s c).size + 1))
  generalize (w.drew.alloc (.cells (bytesRow s c) 5 ((bytesRow s c).size, (bytesRow s c).size + 1))) = W at *
  have HM := hid hM; have HB := hid hb0
  clear hM hb0
  have hsl := size_list s
  obtain ⟨l, hl⟩ : ∃ l, s.data.toList = l := ⟨_, rfl⟩
  rw [hl] at HM hsl ⊢
  obtain ⟨n, hn⟩ : ∃ n, s.size = n := ⟨_, rfl⟩
  rw [hn] at hcb hc1 hsl hs
  have HL := hid hsl
  have hnI : (n : Int) ≤ 4294967296 := by omega
  clear hsl hl
  go_enter Tryz.func24, Tryz.ntmps24
  go_wp2
  go_loopw [10] (fun iv wr => ∃ k : Nat, iv = .int .i64 k ∧ k ≤ n ∧ Hid (Made w.heap.size (lowTo l k) wr) ∧ Hid (Below w.heap.size w wr)) (fun iv _ => n - (RowKit.intOf iv).toNat)
  case atStart => exact ⟨0, rfl, by omega, by rw [lowTo_zero]; exact HM, HB⟩
  case round =>
    obtain ⟨k, rfl, hk, hM, hB⟩ := hrel
    by_cases hlt : k < n
    · have hkl : k < l.length := by rw [HL.out]; exact hlt
      have hll := lowTo_len l k (by omega)
      have c0 := hM.out.1 k (by omega)
      have f0 := hM.out.2 k (by omega)
      rw [lowTo_here l k hkl] at c0
      have HS := fun h => made_set hM.out hkl h
      have HK := fun h => made_kept hM.out hkl h
      have hb := U8.B_lt l k
      obtain ⟨x, hx⟩ : ∃ x, U8.B l k = x := ⟨_, rfl⟩
      rw [hx] at c0 HS HK hb
      have HG := cgreat_any x hb wr
      have hkc : (k : Int) < (c : Int) := by omega
      clear hx hll
      by_cases hg : 65 ≤ x ∧ x ≤ 90
      · rw [show greatN x = true from decide_eq_true hg] at HG
        have HG2 := hid HG
        have HS2 := hid (HS hg)
        have hxs : (x : Int) + 32 < 256 := by omega
        clear HG HS HK hg
        go_wp2_with (go_at_call 46; refine HG2.out.mono ?_; rintro e w' ⟨rfl, rfl⟩)
        go_roundw
        case rel => exact ⟨k + 1, by go_num, by omega, HS2, hid (hB.out.setCell (Nat.le_refl _) _)⟩
        case measure => simp [RowKit.intOf]; omega
      · rw [show greatN x = false from decide_eq_false hg] at HG
        have HG2 := hid HG
        have HK2 := hid (HK hg)
        clear HG HS HK hg
        go_wp2_with (go_at_call 46; refine HG2.out.mono ?_; rintro e w' ⟨rfl, rfl⟩)
        go_roundw
        case rel => exact ⟨k + 1, by go_num, by omega, HK2, hB⟩
        case measure => simp [RowKit.intOf]; omega
    · have hcv := conv_bytes (made_isB hM.out) c
      rw [lowTo_all l k (by rw [HL.out]; omega), lowL_len, HL.out] at hcv
      have hke : k = n := by omega
      go_wp2
      go_ret
      exact ⟨rfl, hB.out⟩
end Go.Proofs.YtgldgdopabmefaaGreatDoor
namespace Go.Proofs.YtgldgdopabmefaaGreatDoor
open Go.RowKit Go.Lib Ent
set_option maxRecDepth 100000
set_option linter.unusedVariables false

/-- The table of the numbers from 128 to 159. -/
def CtlTab (w : World) : Prop := ∀ j, j < 32 → w.cell? ⟨1, j, none⟩ = some (.int .i32 (ctl.getD j 0 : Nat))
theorem ctl_below {w w' : World} (h : CtlTab w) (hb : Below w.heap.size w w') : CtlTab w' := fun j hj =>
  (hb.cell (p := ⟨1, j, none⟩) (World.block_lt_of_cell? _ _ (h j hj))).trans (h j hj)

theorem character_any (n : Int) (w : World) :
    Calls Tryz.prog 102 #[.int .i64 n] w fun e w' => e = .returned (.int .i32 (charZ n)) ∧ w = w' := by
  rcases (show n ≤ 0 ∨ (0 < n ∧ 1114111 < n) ∨ (0 < n ∧ n ≤ 1114111) by omega) with h | ⟨h1, h2⟩ | ⟨h1, h2⟩
  · have e : charZ n = 65533 := by unfold charZ; rw [show rightI n = false from decide_eq_false (by omega)]; rfl
    rw [e]; clear e
    go_enter Tryz.func102, Tryz.ntmps102
    go_wp2
    go_ret
    exact ⟨rfl, rfl⟩
  · have e : charZ n = 65533 := by unfold charZ; rw [show rightI n = false from decide_eq_false (by omega)]; rfl
    rw [e]; clear e
    go_enter Tryz.func102, Tryz.ntmps102
    go_wp2
    go_ret
    exact ⟨rfl, rfl⟩
  · have HV := hid (Tryz.utf8_ValidRune n w)
    by_cases hr : n < 55296 ∨ 57343 < n
    · have e : charZ n = n := by unfold charZ; rw [show rightI n = true from decide_eq_true (by omega)]; rfl
      rw [e]; clear e
      rw [show Lib.validRune n = true from decide_eq_true (by omega)] at HV
      clear hr
      go_enter Tryz.func102, Tryz.ntmps102
      go_wp2_with fail
      refine HV.out.mono ?_
      rintro e w' ⟨rfl, rfl⟩
      go_wp2
      go_ret
      exact ⟨rfl, rfl⟩
    · have e : charZ n = 65533 := by unfold charZ; rw [show rightI n = false from decide_eq_false (by omega)]; rfl
      rw [e]; clear e
      rw [show Lib.validRune n = false from decide_eq_false (by omega)] at HV
      clear hr
      go_enter Tryz.func102, Tryz.ntmps102
      go_wp2_with fail
      refine HV.out.mono ?_
      rintro e w' ⟨rfl, rfl⟩
      go_wp2
      go_ret
      exact ⟨rfl, rfl⟩

theorem number_any (n : Int) (w : World) (hT : CtlTab w) :
    Calls Tryz.prog 80 #[.int .i64 n] w fun e w' => e = .returned (.int .i32 (numZ n)) ∧ w = w' := by
  rcases (show n < 128 ∨ (128 ≤ n ∧ 160 ≤ n) ∨ (128 ≤ n ∧ n < 160) by omega) with h | ⟨h1, h2⟩ | ⟨h1, h2⟩
  · have e : numZ n = charZ n := by unfold numZ; rw [if_neg (by omega)]
    rw [e]; clear e hT
    have HC := hid (character_any n w)
    go_enter Tryz.func80, Tryz.ntmps80
    go_wp2_with fail
    refine HC.out.mono ?_
    rintro e w' ⟨rfl, rfl⟩
    go_wp2
    go_ret
    exact ⟨rfl, rfl⟩
  · have e : numZ n = charZ n := by unfold numZ; rw [if_neg (by omega)]
    rw [e]; clear e hT
    have HC := hid (character_any n w)
    go_enter Tryz.func80, Tryz.ntmps80
    go_wp2_with fail
    refine HC.out.mono ?_
    rintro e w' ⟨rfl, rfl⟩
    go_wp2
    go_ret
    exact ⟨rfl, rfl⟩
  · have e : numZ n = (ctl.getD (n - 128).toNat 0 : Nat) := by unfold numZ; rw [if_pos ⟨h1, h2⟩]
    rw [e]; clear e
    have hc := hT (n - 128).toNat (by omega)
    obtain ⟨m, hm⟩ : ∃ m, ctl.getD (n - 128).toNat 0 = m := ⟨_, rfl⟩
    rw [hm] at hc ⊢
    have hn0 : 0 ≤ n - 128 := by omega
    have hn1 : n - 128 < 32 := by omega
    clear hT hm
    go_enter Tryz.func80, Tryz.ntmps80
    go_wp2
    go_ret
    exact ⟨rfl, rfl⟩

theorem pre1_eq (s : ByteArray) (c : UInt8) : hasPrefix s.data.toList [c] = decide (0 < s.data.toList.length ∧ U8.B s.data.toList 0 = c.toNat) := by
  unfold hasPrefix
  cases hl : s.data.toList with
  | nil => simp
  | cons a r =>
    rw [Bool.eq_iff_iff]
    simp only [decide_eq_true_eq, List.isPrefixOf_cons_cons, List.isPrefixOf_nil_left, Bool.and_true, beq_iff_eq, List.length_cons]
    have : U8.B (a :: r) 0 = a.toNat := rfl
    rw [this]
    exact ⟨fun e => ⟨by omega, by rw [e]⟩, fun ⟨_, e⟩ => (UInt8.toNat_inj.1 e).symm⟩
theorem semicolon_any (s : ByteArray) (w : World) :
    Calls Tryz.prog 81 #[.string s] w fun e w' => e = .returned (.int .i64 (semiW s.data.toList)) ∧ w = w' := by
  have HP := Tryz.strings_HasPrefix s ⟨#[59]⟩ w
  rw [show (⟨#[59]⟩ : ByteArray).data.toList = [59] from rfl, pre1_eq] at HP
  by_cases h : 0 < s.data.toList.length ∧ U8.B s.data.toList 0 = 59
  · rw [show decide (0 < s.data.toList.length ∧ U8.B s.data.toList 0 = (59 : UInt8).toNat) = true from decide_eq_true h] at HP
    have e : semiW s.data.toList = 1 := by unfold semiW; rw [if_pos h]
    rw [e]
    have HP2 := hid HP
    clear HP h e
    go_enter Tryz.func81, Tryz.ntmps81
    go_wp2_with fail
    refine HP2.out.mono ?_
    rintro e w' ⟨rfl, rfl⟩
    go_wp2
    go_ret
    exact ⟨rfl, rfl⟩
  · rw [show decide (0 < s.data.toList.length ∧ U8.B s.data.toList 0 = (59 : UInt8).toNat) = false from decide_eq_false h] at HP
    have e : semiW s.data.toList = 0 := by unfold semiW; rw [if_neg h]
    rw [e]
    have HP2 := hid HP
    clear HP h e
    go_enter Tryz.func81, Tryz.ntmps81
    go_wp2_with fail
    refine HP2.out.mono ?_
    rintro e w' ⟨rfl, rfl⟩
    go_wp2
    go_ret
    exact ⟨rfl, rfl⟩
theorem goesOn_any (s : ByteArray) (w : World) (hs : s.size ≤ 4294967296) :
    Calls Tryz.prog 83 #[.string s] w fun e w' => e = .returned (.bool (goesOn s.data.toList)) ∧ w = w' := by
  by_cases h0 : s.size = 0
  · have hl : s.data.toList = [] := List.length_eq_zero_iff.1 (by rw [size_list]; exact h0)
    obtain rfl : s = ⟨#[]⟩ := by apply ByteArray.ext; apply Array.ext'; exact hl
    clear hl h0
    go_enter Tryz.func83, Tryz.ntmps83
    go_wp2
    go_ret
    exact ⟨rfl, rfl⟩
  · have hpos : 0 < s.size := by omega
    have hne : s.toList.isEmpty = false := by
      rw [toList_data]
      cases he : s.data.toList with
      | nil => rw [size_eq, he] at hpos; simp at hpos
      | cons a b => rfl
    have hg := get_of s 0 hpos
    obtain ⟨c, hc⟩ : ∃ c, (s[0]'hpos) = c := ⟨_, rfl⟩
    rw [hc] at hg
    have hlt := c.toNat_lt
    have e : goesOn s.data.toList = decide (c.toNat = 61 ∨ letterN c.toNat = true ∨ digitN c.toNat = true) := by
      unfold goesOn
      rw [← hg, size_list]
      simp [hpos]
    rw [e]
    have HL := hid (fun w => cletter_any c.toNat hlt w)
    have HD := hid (fun w => cdigit_any c.toNat hlt w)
    obtain ⟨n, hn⟩ : ∃ n, c.toNat = n := ⟨_, rfl⟩
    rw [hn] at HL HD hlt ⊢
    clear hg e h0
    by_cases h61 : n = 61
    · have d : ((n : Int) == 61) = true := by rw [h61]; rfl
      rw [decide_eq_true (.inl h61)]
      clear h61
      go_enter Tryz.func83, Tryz.ntmps83
      go_wp2
      go_ret
      exact ⟨rfl, rfl⟩
    · have d : ((n : Int) == 61) = false := beq_eq_false_iff_ne.2 (by omega)
      obtain ⟨b1, hb1⟩ : ∃ b, letterN n = b := ⟨_, rfl⟩
      obtain ⟨b2, hb2⟩ : ∃ b, digitN n = b := ⟨_, rfl⟩
      have e2 : decide (n = 61 ∨ letterN n = true ∨ digitN n = true) = (b1 || b2) := by rw [hb1, hb2]; simp [h61]
      rw [e2]
      rw [hb1] at HL
      rw [hb2] at HD
      clear e2 hb1 hb2 h61
      cases b1 with
      | true =>
        go_enter Tryz.func83, Tryz.ntmps83
        go_wp2_with fail
        refine (HL.out _).mono ?_
        rintro e w' ⟨rfl, rfl⟩
        go_wp2
        go_ret
        exact ⟨rfl, rfl⟩
      | false =>
        go_enter Tryz.func83, Tryz.ntmps83
        go_wp2_with fail
        refine (HL.out _).mono ?_
        rintro e w' ⟨rfl, rfl⟩
        go_wp2_with fail
        refine (HD.out _).mono ?_
        rintro e w' ⟨rfl, rfl⟩
        go_wp2
        go_ret
        exact ⟨rfl, rfl⟩
end Go.Proofs.YtgldgdopabmefaaGreatDoor
