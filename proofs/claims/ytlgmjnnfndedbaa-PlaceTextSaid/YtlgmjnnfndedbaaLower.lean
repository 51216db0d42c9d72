/- Walks: package class, Lower. -/
import Derived.Test.YtlgmjnnfndedbaaClsLet
import Derived.Test.YtlgmjnnfndedbaaMarkM
namespace Go.Proofs.Ytlgmjnnfndedbaa
open Go.RowKit Go.Lib
set_option maxRecDepth 100000
set_option linter.unusedVariables false

/-- The first k bytes are small. -/
def lowTo (l : List UInt8) (k : Nat) : List UInt8 := lowL (l.take k) ++ l.drop k
theorem lowTo_len (l : List UInt8) (k : Nat) (h : k ≤ l.length) : (lowTo l k).length = l.length := by
  unfold lowTo; rw [List.length_append, lowL_len, List.length_take, List.length_drop]; omega
theorem lowTo_zero (l : List UInt8) : lowTo l 0 = l := by simp [lowTo, lowL]
theorem lowTo_all (l : List UInt8) (k : Nat) (h : l.length ≤ k) : lowTo l k = lowL l := by
  unfold lowTo; rw [List.take_of_length_le h, List.drop_of_length_le h, List.append_nil]
theorem lowTo_get (l : List UInt8) (k j : Nat) (h : k ≤ l.length) : (lowTo l k)[j]? = if j < k then (l[j]?).map lowC else l[j]? := by
  unfold lowTo
  have hl : (lowL (l.take k)).length = k := by rw [lowL_len, List.length_take]; omega
  by_cases hj : j < k
  · rw [if_pos hj, List.getElem?_append_left (by omega)]
    simp [lowL, List.getElem?_map, List.getElem?_take_of_lt hj]
  · rw [if_neg hj, List.getElem?_append_right (by omega), hl, List.getElem?_drop]
    congr 1; omega
theorem B_get {l : List UInt8} {j : Nat} : U8.B l j = ((l[j]?).getD 0).toNat := by simp [U8.B, List.getD]
theorem lowTo_here (l : List UInt8) (k : Nat) (h : k < l.length) : U8.B (lowTo l k) k = U8.B l k := by
  rw [B_get, B_get, lowTo_get l k k (by omega), if_neg (by omega)]
theorem lowTo_other (l : List UInt8) (k j : Nat) (h : k < l.length) (hj : j ≠ k) : U8.B (lowTo l (k + 1)) j = U8.B (lowTo l k) j := by
  rw [B_get, B_get, lowTo_get l (k + 1) j (by omega), lowTo_get l k j (by omega)]
  by_cases h1 : j < k
  · rw [if_pos h1, if_pos (by omega)]
  · rw [if_neg h1, if_neg (by omega)]
theorem lowTo_low (l : List UInt8) (k : Nat) (h : k < l.length) : U8.B (lowTo l (k + 1)) k = (if 65 ≤ U8.B l k ∧ U8.B l k ≤ 90 then U8.B l k + 32 else U8.B l k) := by
  rw [B_get, lowTo_get l (k + 1) k (by omega), if_pos (by omega), List.getElem?_eq_getElem h]
  have hb : U8.B l k = (l[k]).toNat := U8.B_eq (List.getElem?_eq_getElem h)
  rw [hb]
  show (lowC l[k]).toNat = _
  rw [lowC_num]
/-- The bytes of the slice that the call made, and that no mark lies on them. -/
def Made (g : Nat) (l : List UInt8) (w : World) : Prop := (∀ j, j < l.length → w.cell? ⟨g, j, none⟩ = some (.int .u8 (U8.B l j))) ∧ ∀ j, j < l.length → w.frozen? ⟨g, j, none⟩ = false
theorem made_new (w : World) (s : ByteArray) (c : Nat) (hc : s.size ≤ c) : Made w.heap.size s.data.toList (w.drew.alloc (.cells (bytesRow s c) 5 ((bytesRow s c).size, (bytesRow s c).size + 1))) := by
  refine ⟨fun j hj => ?_, fun j hj => ?_⟩
  · rcases (isB_made w s c ((bytesRow s c).size, (bytesRow s c).size + 1)).2 with h | ⟨b, off, e, h⟩
    · rw [size_list] at hj; omega
    · obtain ⟨rfl, rfl⟩ : b = w.heap.size ∧ off = 0 := by simpa using e.symm
      have := h j hj
      rwa [Nat.zero_add] at this
  · have hsz : (bytesRow s c).size = c := by simp [bytesRow]; omega
    have hj' : j < c := by rw [size_list] at hj; omega
    have hd : w.drew.heap.size = w.heap.size := rfl
    simp only [World.frozen?]
    rw [← hd, World.alloc]
    simp only [Array.getElem?_push_size, hsz]
    simp
    omega
theorem made_isB {g : Nat} {l : List UInt8} {w : World} (h : Made g l w) : IsB w (some ⟨g, 0, none⟩) l.length l :=
  ⟨rfl, .inr ⟨g, 0, rfl, fun i hi => by rw [Nat.zero_add]; exact h.1 i hi⟩⟩
theorem made_kept {g k : Nat} {l : List UInt8} {w : World} (h : Made g (lowTo l k) w) (hk : k < l.length) (hn : ¬ (65 ≤ U8.B l k ∧ U8.B l k ≤ 90)) : Made g (lowTo l (k + 1)) w := by
  have h1 := lowTo_len l k (by omega)
  have h2 := lowTo_len l (k + 1) (by omega)
  refine ⟨fun j hj => ?_, fun j hj => h.2 j (by omega)⟩
  rw [h.1 j (by omega)]
  by_cases hjk : j = k
  · subst hjk; rw [lowTo_low l j hk, if_neg hn, lowTo_here l j hk]
  · rw [lowTo_other l k j hk hjk]
theorem made_set {g k : Nat} {l : List UInt8} {w : World} (h : Made g (lowTo l k) w) (hk : k < l.length) (hn : 65 ≤ U8.B l k ∧ U8.B l k ≤ 90) : Made g (lowTo l (k + 1)) (w.setCell ⟨g, k, none⟩ (.int .u8 ((U8.B l k : Nat) + 32))) := by
  have h1 := lowTo_len l k (by omega)
  have h2 := lowTo_len l (k + 1) (by omega)
  refine ⟨fun j hj => ?_, fun j hj => by rw [World.frozen?_setCell]; exact h.2 j (by omega)⟩
  by_cases hjk : j = k
  · subst hjk
    rw [World.cell?_setCell_same' _ _ _ (by rw [h.1 j (by omega)]; rfl), lowTo_low l j hk, if_pos hn]
    rfl
  · rw [World.cell?_setCell_other _ _ _ _ (by intro e; exact hjk (by simpa using (congrArg Addr.off e).symm)), h.1 j (by omega), lowTo_other l k j hk hjk]

set_option maxHeartbeats 1000000 in
theorem clower_any (s : ByteArray) (w : World) (hs : s.size ≤ 4294967296) :
    Calls Try.prog 88 #[.string s] w fun e w' => e = .returned (.string ⟨(lowL s.data.toList).toArray⟩) ∧ Below w.heap.size w w' := by
  have hcb := run_bytes_of_string (P := Try.prog) w 9 84 5 s Try.underlying9 Try.underlying84 Try.underlying5
  have hc1 := grownCap_ge w s.size 0 5
  have hc2 := grownCap_le_maxLen w s.size 0 5 (by unfold maxLen; omega)
  unfold maxLen at hc2
  generalize grownCap w s.size 0 5 = c at *
  have hM := made_new w s c hc1
  have hb0 := (Below.refl w.heap.size w).drew.alloc (Nat.le_refl _) (.cells (bytesRow s c) 5 ((bytesRow s c).size, (bytesRow s c).size + 1))
  generalize (w.drew.alloc (.cells (bytesRow s c) 5 ((bytesRow s c).size, (bytesRow s c).size + 1))) = W at *
  have HM := hid hM; have HB := hid hb0
  clear hM hb0
  have hsl := size_list s
  obtain ⟨l, hl⟩ : ∃ l, s.data.toList = l := ⟨_, rfl⟩
  rw [hl] at HM hsl ⊢
  obtain ⟨n, hn⟩ : ∃ n, s.size = n := ⟨_, rfl⟩
  rw [hn] at hcb hc1 hsl hs
  have HL := hid hsl
  have hnI : (n : Int) ≤ 4294967296 := by omega
  clear hsl hl
  go_enter Try.func88, Try.ntmps88
  go_wp2
  go_loopw [10] (fun iv wr => ∃ k : Nat, iv = .int .i64 k ∧ k ≤ n ∧ Hid (Made w.heap.size (lowTo l k) wr) ∧ Hid (Below w.heap.size w wr)) (fun iv _ => n - (RowKit.intOf iv).toNat)
  case atStart => exact ⟨0, rfl, by omega, by rw [lowTo_zero]; exact HM, HB⟩
  case round =>
    obtain ⟨k, rfl, hk, hM, hB⟩ := hrel
    by_cases hlt : k < n
    · have hkl : k < l.length := by rw [HL.out]; exact hlt
      have hll := lowTo_len l k (by omega)
      have c0 := hM.out.1 k (by omega)
      have f0 := hM.out.2 k (by omega)
      rw [lowTo_here l k hkl] at c0
      have HS := fun h => made_set hM.out hkl h
      have HK := fun h => made_kept hM.out hkl h
      have hb := U8.B_lt l k
      obtain ⟨x, hx⟩ : ∃ x, U8.B l k = x := ⟨_, rfl⟩
      rw [hx] at c0 HS HK hb
      have HG := cgreat_any x hb wr
      have hkc : (k : Int) < (c : Int) := by omega
      clear hx hll
      by_cases hg : 65 ≤ x ∧ x ≤ 90
      · rw [show greatN x = true from decide_eq_true hg] at HG
        have HG2 := hid HG
        have HS2 := hid (HS hg)
        have hxs : (x : Int) + 32 < 256 := by omega
        clear HG HS HK hg
        go_wp2_with (go_at_call 95; refine HG2.out.mono ?_; rintro e w' ⟨rfl, rfl⟩)
        go_roundw
        case rel => exact ⟨k + 1, by go_num, by omega, HS2, hid (hB.out.setCell (Nat.le_refl _) _)⟩
        case measure => simp [RowKit.intOf]; omega
      · rw [show greatN x = false from decide_eq_false hg] at HG
        have HG2 := hid HG
        have HK2 := hid (HK hg)
        clear HG HS HK hg
        go_wp2_with (go_at_call 95; refine HG2.out.mono ?_; rintro e w' ⟨rfl, rfl⟩)
        go_roundw
        case rel => exact ⟨k + 1, by go_num, by omega, HK2, hB⟩
        case measure => simp [RowKit.intOf]; omega
    · have hcv := conv_bytes (made_isB hM.out) c
      rw [lowTo_all l k (by rw [HL.out]; omega), lowL_len, HL.out] at hcv
      have hke : k = n := by omega
      go_wp2
      go_ret
      exact ⟨rfl, hB.out⟩
end Go.Proofs.Ytlgmjnnfndedbaa
