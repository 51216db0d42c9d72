/- Walks: package class, Fold. -/
import Derived.Test.YtgnoiifakipliaaDoorShelf
import Derived.Test.YtgnoiifakipliaaDoorSmall
import Derived.Test.YtgnoiifakipliaaDoorBase
namespace Go.Proofs.YtgnoiifakipliaaDoor
open Go.RowKit Go.Lib
set_option maxRecDepth 100000
set_option linter.unusedVariables false

/-- What was folded up to pos. -/
def FInv (l : List UInt8) (pos : Nat) (acc : List UInt8) : Prop :=
  pos ≤ l.length ∧ U8.right (l.drop pos) = true ∧ acc ++ foldL (l.drop pos) = foldL l ∧ acc.length ≤ 8 * pos
theorem FInv.start (l : List UInt8) (h : U8.right l = true) : FInv l 0 [] := ⟨by omega, by simpa using h, by simp, by simp⟩
theorem encs_len (cs : List Nat) : (encs cs).length ≤ 4 * cs.length := by
  induction cs with
  | nil => simp [encs_nil]
  | cons c cs ih =>
    have := encN_len c
    rw [encs_cons, List.length_append, List.length_cons]; omega
theorem foldL_step (l : List UInt8) (h : l ≠ []) : foldL l = encs (foldC (U8.dec l).1) ++ foldL (l.drop (U8.dec l).2) := by
  unfold foldL foldCs
  rw [runes_step l h, List.flatMap_cons, encs_append]
theorem FInv.step {l : List UInt8} {pos r wd : Nat} {acc : List UInt8} (h : FInv l pos acc) (hp : pos < l.length) (hd : U8.dec (l.drop pos) = (r, wd)) : TxtC r ∧ FInv l (pos + wd) (acc ++ encs (foldC r)) := by
  obtain ⟨h1, h2, h3, h4⟩ := h
  have hne := U8.drop_ne hp
  have hr := U8.right_step _ hne
  rw [h2] at hr
  have hr := hr.symm
  simp only [Bool.and_eq_true, decide_eq_true_eq] at hr
  obtain ⟨⟨hw, h0⟩, hr⟩ := hr
  obtain ⟨t1, t2, t3⟩ := whole_enc _ hne hw h0
  have hwd := U8.dec_width _ hne
  have hs := foldL_step _ hne
  rw [hd] at t1 t3 hwd hs
  simp only at t1 t3 hwd hs
  rw [List.length_drop] at hwd
  refine ⟨t1, by omega, ?_, ?_, ?_⟩
  · rw [← List.drop_drop, t3]; exact hr
  · rw [← h3, hs, List.append_assoc, List.drop_drop]
  · have := encs_len (foldC r)
    have := foldC_len r
    rw [List.length_append]; omega
theorem FInv.done {l : List UInt8} {pos : Nat} {acc : List UInt8} (h : FInv l pos acc) (hp : ¬ pos < l.length) : acc = foldL l := by
  obtain ⟨h1, h2, h3, h4⟩ := h
  rw [List.drop_of_length_le (by omega)] at h3
  rw [← h3]
  simp [foldL, runes_nil, foldCs, encs_nil]
theorem encs_ss : encs (foldC 223) = [115, 115] ∧ encs (foldC 7838) = [115, 115] := by decide
theorem encs_small {r : Nat} (h1 : ¬ r = 223) (h2 : ¬ r = 7838) (h : TxtC r) : encs (foldC r) = encodeRune (smallN r : Nat) := by
  have hs := foldC_small r h1 h2
  have hok := (foldC_all (P := TxtC) h (fun _ h _ => h) (smallN r) (by rw [hs]; simp)).2
  rw [hs, encs_cons, encs_nil, List.append_nil, encodeRune_ok hok]

set_option maxHeartbeats 2000000 in
theorem cfold_any (s : ByteArray) (w : World) (hs : s.size ≤ 4294967296) (hr : U8.right s.data.toList = true) :
    Calls Tryd.prog 22 #[.string s] w fun e w' => e = .returned (.string ⟨(foldL s.data.toList).toArray⟩) ∧ Below w.heap.size w w' := by
  have HF := hid (FInv.start _ hr)
  clear hr
  go_enter Tryd.func22, Tryd.ntmps22
  go_wp2_with fail
  refine (Tryd.Builder_Grow_fresh w.heap.size w.heap.size s.size _ (Nat.le_refl _) (heap_alloc_new w _) (by simp) (by omega)).mono ?_
  rintro e W1 ⟨rfl, hBA, hb1⟩
  have hbel := ((Below.refl w.heap.size w).alloc (Nat.le_refl _) (.cells #[.pointer none, .slice none 0 0] 40)).trans hb1
  have hIs : IsBuilderF 40 5 w.heap.size w.heap.size (byteCells []) W1 := IsBuilderF.of (.inr hBA)
  have hsz1 := hb1.size
  have hsz0 : w.heap.size < W1.heap.size := by simp at hsz1; omega
  clear hb1 hBA hsz1
  go_wp2
  go_loopw [] (fun wr => ∃ (pos : Nat) (acc : List UInt8), IsBuilderF 40 5 w.heap.size w.heap.size (byteCells acc) wr ∧ wr.heap[W1.heap.size]? = some (.stringIter s pos) ∧ Below w.heap.size w wr ∧ Hid (FInv s.data.toList pos acc)) (fun wr => s.size - wr.iterPos W1.heap.size)
  case atStart =>
    refine ⟨0, [], ?_, ?_, ?_, HF⟩
    · exact hIs.alloc _
    · have := World.iter_heap W1 s 0
      simpa using this
    · exact hbel.alloc hbel.size _
  case round =>
    obtain ⟨pos, acc, hI, hit, hbw, hTI⟩ := hrel
    have hle3 := hTI.out.2.2.2
    have hle1 := hTI.out.1
    rw [size_list] at hle1
    have hszw : W1.heap.size < wr.heap.size := (Array.getElem?_eq_some_iff.1 hit).1
    by_cases hp : pos < s.size
    · obtain ⟨r, wd, hdec, hw1, hw2, hr, hnx⟩ := next_any wr W1.heap.size s pos hit hp
      have hpl : pos < s.data.toList.length := by rw [size_list]; exact hp
      have hI2 := hI.iterAt hit (pos + wd)
      have hit2 := iterAt_heap wr W1.heap.size s pos (pos + wd) hit
      have hbw2 := below_iterAt hbw (k := W1.heap.size) (by omega) s (pos + wd)
      have hsz2 : w.heap.size ≤ (wr.iterAt W1.heap.size s (pos + wd)).heap.size := by rw [iterAt_size]; omega
      obtain ⟨htx, hst⟩ := hTI.out.step hpl hdec
      have HST := hid hst
      have HIT := hid hit
      have HIT2 := hid hit2
      clear hst hit hit2 hdec hpl hI
      by_cases hc : r = 223 ∨ r = 7838
      · have hE : encs (foldC r) = [115, 115] := hc.elim (fun e => by rw [e]; exact encs_ss.1) (fun e => by rw [e]; exact encs_ss.2)
        have HST2 : Hid (FInv s.data.toList (pos + wd) (acc ++ [115, 115])) := by rw [← hE]; exact HST
        clear HST hE htx
        rcases hc with rfl | rfl
        · go_wp2_with fail
          refine (Tryd.Builder_WriteString_k w.heap.size w.heap.size _ ⟨#[115, 115]⟩ _ hI2 (by rw [byteCells_length]; simp [ByteArray.size]; omega) hsz2).mono ?_
          rintro e W3 ⟨rfl, h3, b3, k3⟩
          go_wp2
          go_roundw
          case rel =>
            refine ⟨pos + wd, acc ++ [115, 115], ?_, k3.iter HIT2.out (by omega), hbw2.trans b3, HST2⟩
            rw [byteCells_append]; exact Or.inr h3
          case measure =>
            simp only [World.iterPos, k3.iter HIT2.out (by omega), HIT.out]
            omega
        · go_wp2_with fail
          refine (Tryd.Builder_WriteString_k w.heap.size w.heap.size _ ⟨#[115, 115]⟩ _ hI2 (by rw [byteCells_length]; simp [ByteArray.size]; omega) hsz2).mono ?_
          rintro e W3 ⟨rfl, h3, b3, k3⟩
          go_wp2
          go_roundw
          case rel =>
            refine ⟨pos + wd, acc ++ [115, 115], ?_, k3.iter HIT2.out (by omega), hbw2.trans b3, HST2⟩
            rw [byteCells_append]; exact Or.inr h3
          case measure =>
            simp only [World.iterPos, k3.iter HIT2.out (by omega), HIT.out]
            omega
      · have h1 : ¬ r = 223 := fun e => hc (.inl e)
        have h2 : ¬ r = 7838 := fun e => hc (.inr e)
        have hE := encs_small h1 h2 htx
        rw [hE] at HST
        have HSm := fun w => csmall_any r hr w
        unfold Smalls at HSm
        have hml := smallN_le r hr
        obtain ⟨m, hm⟩ : ∃ m, smallN r = m := ⟨_, rfl⟩
        rw [hm] at HST hml
        simp only [hm] at HSm
        have HSM := hid HSm
        have t0 : ((r : Int) == 223) = false := beq_eq_false_iff_ne.2 (by omega)
        have t1 : ((r : Int) == 7838) = false := beq_eq_false_iff_ne.2 (by omega)
        clear HSm hm hE h1 h2 hc htx
        go_wp2_with (go_at_call 37; refine (HSM.out _).mono ?_; rintro e w' ⟨rfl, rfl⟩)
        refine (Tryd.Builder_WriteRune_k w.heap.size w.heap.size _ (m : Int) (by omega) (by omega) _ hI2 (by rw [byteCells_length]; omega) hsz2).mono ?_
        rintro e W3 ⟨rfl, h3, b3, k3⟩
        go_wp2
        go_roundw
        case rel =>
          refine ⟨pos + wd, acc ++ encodeRune m, ?_, k3.iter HIT2.out (by omega), hbw2.trans b3, HST⟩
          rw [byteCells_append, byteCells_encodeRune]; exact Or.inr h3
        case measure =>
          simp only [World.iterPos, k3.iter HIT2.out (by omega), HIT.out]
          omega
    · have hnx : ∀ ty, (Instr.next (.pointer (some ⟨W1.heap.size, 0, none⟩)) true ty).run Tryd.prog wr = .ok (.tuple #[.bool false]) wr := fun ty => run_next_end_at wr W1.heap.size s pos ty hit hp
      have HD := hid (hTI.out.done (by rw [size_list]; exact hp))
      have hszr : w.heap.size ≤ wr.heap.size := hbw.size
      clear hTI hit
      go_wp2_with fail
      refine (Tryd.Builder_String_any_k w.heap.size w.heap.size acc _ hI hszr).mono ?_
      rintro e W2 ⟨rfl, _, b2, _⟩
      go_wp2
      go_ret
      exact ⟨congrArg (fun x : List UInt8 => Ending.returned (.string ⟨x.toArray⟩)) HD.out, hbw.trans b2⟩
end Go.Proofs.YtgnoiifakipliaaDoor
