/- Walks: utf's Right. -/
import Derived.Test.YtjliphkpmpcjaaaDoorPiece
import Derived.Test.YtjliphkpmpcjaaaDoorTxt
import Derived.Lib.OthersKept
import Derived.BigCall
namespace Go.Proofs.YtjliphkpmpcjaaaDoor
open Go.RowKit Go.Lib
set_option maxRecDepth 100000
set_option linter.unusedVariables false

theorem get!_B (s : ByteArray) (i : Nat) : (s.get! i).toNat = U8.B s.data.toList i := by
  obtain ⟨⟨l⟩⟩ := s
  show ((⟨l⟩ : Array UInt8)[i]!).toNat = _
  simp [U8.B, List.getD, List.getElem!_eq_getElem?_getD]
  rfl
theorem decode_dec (s : ByteArray) (pos : Nat) : Utf8.decode s pos = U8.dec (s.data.toList.drop pos) := by
  rw [decode_at, U8.dec, U8.B_drop, U8.B_drop, U8.B_drop, U8.B_drop, List.length_drop, size_list, get!_B, get!_B, get!_B, get!_B]
  rfl
theorem extract_drop (s : ByteArray) (k : Nat) : (s.extract k s.size).data.toList = s.data.toList.drop k := by
  rw [extract_data, List.take_of_length_le]
  rw [List.length_drop, size_list]; exact Nat.le_refl _

/-- What the iterator tells next. -/
theorem next_any (w : World) (k : Nat) (s : ByteArray) (pos : Nat) (hk : w.heap[k]? = some (.stringIter s pos)) (h : pos < s.size) :
    ∃ r wd : Nat, U8.dec (s.data.toList.drop pos) = (r, wd) ∧ 1 ≤ wd ∧ pos + wd ≤ s.size ∧ r ≤ 1114111 ∧
      ∀ ty, (Instr.next (.pointer (some ⟨k, 0, none⟩)) true ty).run Tryd.prog w = .ok (.tuple #[.bool true, .int .i64 pos, .int .i32 r]) (w.iterAt k s (pos + wd)) := by
  have hne := U8.drop_ne (l := s.data.toList) (pos := pos) (by rw [size_list]; exact h)
  have hw := U8.dec_width _ hne
  rw [List.length_drop, size_list] at hw
  have hx : ∀ ty, (Instr.next (.pointer (some ⟨k, 0, none⟩)) true ty).run Tryd.prog w = .ok (.tuple #[.bool true, .int .i64 pos, .int .i32 (U8.dec (s.data.toList.drop pos)).1]) (w.iterAt k s (pos + (U8.dec (s.data.toList.drop pos)).2)) := fun ty => by
    rw [run_next_any_at w k s pos ty hk h, decode_dec]
  obtain ⟨q, hq⟩ : ∃ q, U8.dec (s.data.toList.drop pos) = q := ⟨_, rfl⟩
  rw [hq] at hw hx
  exact ⟨q.1, q.2, hq, hw.1, by omega, hw.2.2, hx⟩

theorem hasPrefix_at (s p : ByteArray) (k : Nat) (v : Bool) (h : hasPrefix (s.data.toList.drop k) p.data.toList = v) (w : World) :
    Calls Tryd.prog 27 #[.string (s.extract k s.size), .string p] w fun e w' => e = .returned (.bool v) ∧ w = w' :=
  (Tryd.strings_HasPrefix _ _ _).mono fun _ _ ⟨h1, h2⟩ => ⟨by rw [h1, extract_drop, h], h2.symm⟩

set_option maxHeartbeats 1000000 in
theorem uright_any (s : ByteArray) (w : World) (hs : s.size ≤ 9223372036854775807) :
    Calls Tryd.prog 14 #[.string s] w fun e w' => e = .returned (.bool (U8.right s.data.toList)) ∧ Below w.heap.size w w' := by
  have hsl := size_list s
  obtain ⟨R, hR⟩ : ∃ R, U8.right s.data.toList = R := ⟨_, rfl⟩
  have HR := hid hR
  rw [hR]
  clear hR
  go_enter Tryd.func14, Tryd.ntmps14
  go_wp2
  go_loopw [] (fun wr => ∃ pos : Nat, wr.heap[w.heap.size]? = some (.stringIter s pos) ∧ Below w.heap.size w wr ∧ U8.RInv s.data.toList pos) (fun wr => s.size - wr.iterPos w.heap.size)
  case atStart =>
    refine ⟨0, ?_, (Below.refl _ w).alloc (Nat.le_refl _) _, U8.RInv.start _⟩
    have := World.iter_heap w s 0
    simpa using this
  case round =>
    obtain ⟨pos, hit, hbw, hI⟩ := hrel
    by_cases hp : pos < s.size
    · obtain ⟨r, wd, hdec, hw1, hw2, hr, hnx⟩ := next_any wr w.heap.size s pos hit hp
      have hpl : pos < s.data.toList.length := by rw [size_list]; exact hp
      have hit2 := hid (iterAt_heap wr w.heap.size s pos (pos + wd) hit)
      have hbw2 := below_iterAt hbw (k := w.heap.size) (Nat.le_refl _) s (pos + wd)
      have hz := hI.zero hpl
      have hb := hI.broken hpl
      have hg := hI.whole hpl
      rw [hdec] at hz hb hg
      have HZ := hid hz; have HB := hid hb; have HG := hid hg; have HI := hid hI; have HIT := hid hit; have HD := hid hdec
      clear hz hb hg hI hit hdec hpl
      by_cases c0 : r = 0
      · have t0 : ((r : Int) == 0) = true := by rw [beq_iff_eq]; omega
        have C0 := hid c0
        clear c0
        go_wp2
        go_ret
        exact ⟨ret_bool' (by rw [← HR.out, HZ.out C0.out]), hbw2⟩
      have t0 : ((r : Int) == 0) = false := beq_eq_false_iff_ne.2 (by omega)
      by_cases c1 : r = 65533
      · have t1 : ((r : Int) == 65533) = true := by rw [beq_iff_eq]; omega
        have C0 := hid c0
        have C1 := hid c1
        clear c0 c1
        cases hv : hasPrefix (s.data.toList.drop pos) U8.bad with
        | false =>
          have HP := hid (hasPrefix_at s ⟨#[239, 191, 189]⟩ pos false hv)
          have HV := hid hv
          clear hv
          go_wp2_with (go_at_call 27; refine (HP.out _).mono ?_; rintro e w' ⟨rfl, rfl⟩)
          go_ret
          exact ⟨ret_bool' (by rw [← HR.out, HB.out C1.out HV.out]), hbw2⟩
        | true =>
          have HP := hid (hasPrefix_at s ⟨#[239, 191, 189]⟩ pos true hv)
          have HV := hid hv
          clear hv
          go_wp2_with (go_at_call 27; refine (HP.out _).mono ?_; rintro e w' ⟨rfl, rfl⟩)
          go_roundw
          case rel => exact ⟨pos + wd, hit2.out, hbw2, HG.out C0.out fun _ => HV.out⟩
          case measure =>
            simp only [World.iterPos, hit2.out, HIT.out]
            omega
      · have t1 : ((r : Int) == 65533) = false := beq_eq_false_iff_ne.2 (by omega)
        have C0 := hid c0
        have C1 := hid c1
        clear c0 c1
        go_wp2
        go_roundw
        case rel => exact ⟨pos + wd, hit2.out, hbw2, HG.out C0.out fun h => absurd h C1.out⟩
        case measure =>
          simp only [World.iterPos, hit2.out, HIT.out]
          omega
    · have hnx : ∀ ty, (Instr.next (.pointer (some ⟨w.heap.size, 0, none⟩)) true ty).run Tryd.prog wr = .ok (.tuple #[.bool false]) wr := fun ty => run_next_end_at wr w.heap.size s pos ty hit hp
      have HD := hid (hI.done (by rw [size_list]; exact hp))
      clear hI
      go_wp2
      go_ret
      exact ⟨ret_bool' (by rw [← HR.out, HD.out]), hbw⟩
end Go.Proofs.YtjliphkpmpcjaaaDoor
