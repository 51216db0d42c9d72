/- Walks over the reference of layer 1: Text and Right; and whether two lists of bytes are alike. -/
import Derived.Test.YthfaogodiefefaaDoorPlain
namespace Go.Proofs.YthfaogodiefefaaDoor
open Go.RowKit Go.Lib
set_option maxRecDepth 100000
set_option linter.unusedVariables false

set_option maxHeartbeats 1000000 in
theorem rtext_any (a : Option Addr) (len cap : Nat) (l : List UInt8) (w : World) (h : IsB w a len l) (hlc : len ≤ cap) (hcap : cap ≤ 9223372036854775807) (hs : len ≤ 4294967296) :
    Calls Tryd.prog 19 #[.slice a len cap] w fun e w' => e = .returned (.string ⟨(U8.text l).toArray⟩) ∧ Below w.heap.size w w' := by
  by_cases h3 : 3 ≤ len
  case neg =>
    have hX : U8.text l = U8.plain l := by rw [U8.text, trim_no (by rw [h.1]; omega)]
    rw [hX]
    have hd : decide ((3 : Int) ≤ (len : Int)) = false := by simp; omega
    have HP := hid (plain_any a len cap l w h hlc hcap hs)
    clear h hX
    go_enter Tryd.func19, Tryd.ntmps19
    go_wp2_with fail
    refine HP.out.mono ?_
    rintro e w' ⟨rfl, hb⟩
    go_wp2
    go_ret
    exact ⟨rfl, hb⟩
  obtain ⟨b, off, rfl, hat⟩ : ∃ b off, a = some ⟨b, off, none⟩ ∧ BytesAt w b off l := h.2.elim (fun h => absurd h (by omega)) id
  have hll := h.1
  have c0 : w.cell? ⟨b, off, none⟩ = some (.int .u8 (U8.B l 0 : Nat)) := hat 0 (by omega)
  have c1 : w.cell? ⟨b, off + 1, none⟩ = some (.int .u8 (U8.B l 1 : Nat)) := hat 1 (by omega)
  have c2 : w.cell? ⟨b, off + 2, none⟩ = some (.int .u8 (U8.B l 2 : Nat)) := hat 2 (by omega)
  have HB := hid (trim_yes (l := l)); have HN := hid (trim_no (l := l))
  have hl3 : 3 ≤ l.length := by omega
  obtain ⟨b0, e0⟩ : ∃ b0, U8.B l 0 = b0 := ⟨_, rfl⟩
  obtain ⟨b1, e1⟩ : ∃ b1, U8.B l 1 = b1 := ⟨_, rfl⟩
  obtain ⟨b2, e2⟩ : ∃ b2, U8.B l 2 = b2 := ⟨_, rfl⟩
  rw [e0, e1, e2] at HB HN
  rw [e0] at c0; rw [e1] at c1; rw [e2] at c2
  clear e0 e1 e2
  have hd : decide ((3 : Int) ≤ (len : Int)) = true := by simp; omega
  have hd' : (3 : Int) ≤ (len : Int) := by omega
  by_cases hm : b0 = 239 ∧ b1 = 187 ∧ b2 = 191
  · obtain ⟨rfl, rfl, rfl⟩ := hm
    have hX : U8.text l = U8.plain (l.drop 3) := by rw [U8.text, HB.out ⟨hl3, rfl, rfl, rfl⟩]
    rw [hX]
    clear hX HB HN
    have hdl : (l.drop 3).length = len - 3 := by rw [List.length_drop, hll]
    rcases Nat.lt_or_ge 3 cap with hpc | hpc
    · have HP := hid (plain_any (some ⟨b, off + 3, none⟩) (len - 3) (cap - 3) (l.drop 3) w ⟨hdl, .inr ⟨b, off + 3, rfl, hat.drop 3⟩⟩ (by omega) (by omega) (by omega))
      have hcI : (3 : Int) < (cap : Int) := by omega
      clear h hdl hat hll hl3
      go_enter Tryd.func19, Tryd.ntmps19
      go_wp2_with fail
      refine HP.out.mono ?_
      rintro e w' ⟨rfl, hb⟩
      go_wp2
      go_ret
      exact ⟨rfl, hb⟩
    · have hl0 : len = 3 := by omega
      have hc0 : cap = 3 := by omega
      subst hc0
      subst hl0
      have HP := hid (plain_any (some ⟨b, off, none⟩) 0 0 (l.drop 3) w ⟨hdl, .inl rfl⟩ (by omega) (by omega) (by omega))
      clear h hdl hat hll hl3
      go_enter Tryd.func19, Tryd.ntmps19
      go_wp2_with fail
      refine HP.out.mono ?_
      rintro e w' ⟨rfl, hb⟩
      go_wp2
      go_ret
      exact ⟨rfl, hb⟩
  · have hX : U8.text l = U8.plain l := by rw [U8.text, HN.out (fun x => hm x.2)]
    rw [hX]
    have HP := hid (plain_any _ len cap l w h hlc hcap hs)
    clear hX HB HN h hat hll hl3
    rcases (show b0 ≠ 239 ∨ (b0 = 239 ∧ b1 ≠ 187) ∨ (b0 = 239 ∧ b1 = 187 ∧ b2 ≠ 191) by omega) with g | ⟨rfl, g⟩ | ⟨rfl, rfl, g⟩
    · have t0 : ((b0 : Int) == 239) = false := beq_eq_false_iff_ne.2 (by omega)
      clear hm g
      go_enter Tryd.func19, Tryd.ntmps19
      go_wp2_with fail
      refine HP.out.mono ?_
      rintro e w' ⟨rfl, hb⟩
      go_wp2
      go_ret
      exact ⟨rfl, hb⟩
    · have t0 : ((b1 : Int) == 187) = false := beq_eq_false_iff_ne.2 (by omega)
      clear hm g
      go_enter Tryd.func19, Tryd.ntmps19
      go_wp2_with fail
      refine HP.out.mono ?_
      rintro e w' ⟨rfl, hb⟩
      go_wp2
      go_ret
      exact ⟨rfl, hb⟩
    · have t0 : ((b2 : Int) == 191) = false := beq_eq_false_iff_ne.2 (by omega)
      clear hm g
      go_enter Tryd.func19, Tryd.ntmps19
      go_wp2_with fail
      refine HP.out.mono ?_
      rintro e w' ⟨rfl, hb⟩
      go_wp2
      go_ret
      exact ⟨rfl, hb⟩

/-- The slice that '[]byte(s)' makes. -/
theorem isB_made (w : World) (s : ByteArray) (c : Nat) (fr : Nat × Nat) : IsB (w.drew.alloc (.cells (bytesRow s c) 5 fr)) (some ⟨w.heap.size, 0, none⟩) s.size s.data.toList := by
  refine ⟨size_list s, .inr ⟨w.heap.size, 0, rfl, fun i hi => ?_⟩⟩
  have hsz : w.drew.heap.size = w.heap.size := rfl
  rw [Nat.zero_add, ← hsz, World.cell?_alloc_mark]
  have hi' : i < s.data.size := by simpa using hi
  unfold bytesRow
  rw [Array.getElem?_append_left (by simpa using hi')]
  simp only [Array.getElem?_map, Array.getElem?_eq_getElem hi', Option.map_some]
  rw [U8.B_eq (c := s.data[i]) (by rw [Array.getElem?_toList, Array.getElem?_eq_getElem hi'])]

set_option maxHeartbeats 1000000 in
theorem rright_any (s : ByteArray) (w : World) (hs : s.size ≤ 4294967296) :
    Calls Tryd.prog 20 #[.string s] w fun e w' => e = .returned (.bool (U8.right s.data.toList)) ∧ Below w.heap.size w w' := by
  have hcb := run_bytes_of_string (P := Tryd.prog) w 9 30 5 s Tryd.underlying9 Tryd.underlying30 Tryd.underlying5
  have hc1 := grownCap_ge w s.size 0 5
  have hc2 := grownCap_le_maxLen w s.size 0 5 (by unfold maxLen; omega)
  unfold maxLen at hc2
  generalize grownCap w s.size 0 5 = c at *
  have HP := hid (plain_any (some ⟨w.heap.size, 0, none⟩) s.size c s.data.toList _ (isB_made w s c ((bytesRow s c).size, (bytesRow s c).size + 1)) hc1 hc2 hs)
  have hX : (U8.plain s.data.toList == s.toList) = U8.right s.data.toList := by
    rw [toList_data, Bool.eq_iff_iff, beq_iff_eq, U8.right_iff]
  have HX := hid hX
  clear hX
  go_enter Tryd.func20, Tryd.ntmps20
  go_wp2_with fail
  refine HP.out.mono ?_
  rintro e w' ⟨rfl, hb⟩
  go_wp2
  go_ret
  refine ⟨ret_bool' HX.out, ?_⟩
  exact ((Below.refl _ w).drew.alloc (Nat.le_refl _) _).trans (hb.mono (by simp))

end Go.Proofs.YthfaogodiefefaaDoor
