/- Walks: utf's Text. -/
import Derived.Test.YtjliphkpmpcjaaaDoorRight
import Derived.Test.YtjliphkpmpcjaaaDoorFront
import Derived.Laws.IdiomStrings
import Derived.Laws.BytesArg
namespace Go.Proofs.YtjliphkpmpcjaaaDoor
open Go.RowKit Go.Lib
set_option maxRecDepth 100000
set_option linter.unusedVariables false

theorem builder_below {T e : TypeId} {B b : Nat} {p : Value} {bs : List Value} {W W' : World} (h : BuilderAtF T e B b p bs W) (hb : Below W.heap.size W W') : BuilderAtF T e B b p bs W' := by
  obtain ⟨hB, v, hv, hown, hne⟩ := h
  have hlt : b < W.heap.size := (Array.getElem?_eq_some_iff.1 hv).1
  exact ⟨hB, v, (hb.block b hlt).trans hv, hown.kept (row := none) ⟨hb.os, hb.tape, hb.output, hb.size, fun k hk _ => hb.block k hk⟩ (Classical.em _), hne⟩
theorem isBuilder_below {T e : TypeId} {B b : Nat} {bs : List Value} {W W' : World} (h : IsBuilderF T e B b bs W) (hb : Below W.heap.size W W') : IsBuilderF T e B b bs W' :=
  h.elim (fun x => .inl (builder_below x hb)) (fun x => .inr (builder_below x hb))

/-- A slice of bytes, nil or empty or from somewhere on. -/
def IsB (w : World) (a : Option Addr) (len : Nat) (l : List UInt8) : Prop :=
  l.length = len ∧ (len = 0 ∨ ∃ b off, a = some ⟨b, off, none⟩ ∧ BytesAt w b off l)

theorem addr_add (b off j : Nat) : (⟨b, off, none⟩ : Addr).add j = ⟨b, off + j, none⟩ := by unfold Addr.add; split <;> simp_all

theorem conv_bytes {w : World} {a : Option Addr} {len : Nat} {l : List UInt8} (h : IsB w a len l) (cap : Nat) :
    (convert 22 9 (.slice a len cap)).run Tryd.prog w = .ok (.string ⟨l.toArray⟩) w := by
  obtain ⟨hl, h0 | ⟨b, off, rfl, hat⟩⟩ := h
  · subst h0
    obtain rfl : l = [] := List.length_eq_zero_iff.1 hl
    cases a with
    | none => exact run_convert_bytes_nil w _ _ Tryd.underlying22 Tryd.underlying5 0 cap _ Tryd.underlying9
    | some x => exact run_convert_bytes_back w _ _ _ x cap [] Tryd.underlying22 Tryd.underlying5 Tryd.underlying9 (fun j hj => absurd hj (by simp))
  · subst hl
    refine run_convert_bytes_back w _ _ _ ⟨b, off, none⟩ cap l Tryd.underlying22 Tryd.underlying5 Tryd.underlying9 (fun j hj => ?_)
    rw [addr_add, hat j hj, U8.B_eq (List.getElem?_eq_getElem hj)]

set_option maxHeartbeats 2000000 in
theorem utext_any (a : Option Addr) (len cap : Nat) (l : List UInt8) (w : World) (h : IsB w a len l) (hs : len ≤ 4294967296) (hT : Tabs w) :
    Calls Tryd.prog 10 #[.slice a len cap] w fun e w' => e = .returned (.string ⟨(U8.text l).toArray⟩) ∧ Below w.heap.size w w' := by
  have hcv := conv_bytes h cap
  have hll : l.length = len := h.1
  have hql : (trimPrefix l [239, 187, 191]).length ≤ l.length := trimPrefix_le _ _
  obtain ⟨q, hq⟩ : ∃ q, trimPrefix l [239, 187, 191] = q := ⟨_, rfl⟩
  have hX : U8.text l = U8.plain q := by rw [U8.text, hq]
  rw [hX]
  rw [hq] at hql
  have htp : ∀ w, Calls Tryd.prog 21 #[.string ⟨l.toArray⟩, .string ⟨#[239, 187, 191]⟩] w fun e w' => e = .returned (.string ⟨q.toArray⟩) ∧ w = w' := fun w =>
    (Tryd.strings_TrimPrefix _ _ _).mono fun _ _ ⟨h1, h2⟩ => ⟨by rw [h1]; show _ = Ending.returned (.string ⟨q.toArray⟩); rw [← hq], h2.symm⟩
  obtain ⟨s, hsq⟩ : ∃ s : ByteArray, s = ⟨q.toArray⟩ := ⟨_, rfl⟩
  have hsz : s.size = q.length := by rw [hsq]; simp [ByteArray.size]
  have hsl : s.data.toList = q := by rw [hsq]
  rw [← hsq] at htp
  have HTP := hid htp; have HT := hid hT
  have hsz2 : s.size ≤ 4294967296 := by omega
  clear htp hsq hsz hq h hX hql hll hT
  subst hsl
  go_enter Tryd.func10, Tryd.ntmps10
  go_wp2_with (go_at_call 21; refine (HTP.out _).mono ?_; rintro e w' ⟨rfl, rfl⟩)
  refine (Tryd.Builder_Grow_fresh w.heap.size w.heap.size s.size _ (Nat.le_refl _) (heap_alloc_new w _) (by simp) (by omega)).mono ?_
  rintro e W1 ⟨rfl, hBA, hb1⟩
  have hbel := ((Below.refl w.heap.size w).alloc (Nat.le_refl _) (.cells #[.pointer none, .slice none 0 0] 37)).trans hb1
  have hIs : IsBuilderF 37 5 w.heap.size w.heap.size (byteCells []) W1 := IsBuilderF.of (.inr hBA)
  have hsz1 := hb1.size
  have hsz0 : w.heap.size < W1.heap.size := by simp at hsz1; omega
  clear hb1 hBA hsz1
  go_wp2
  go_loopw [5] (fun v wr => ∃ (pos k : Nat) (acc : List UInt8), v = .int .i64 k ∧ IsBuilderF 37 5 w.heap.size w.heap.size (byteCells acc) wr ∧ wr.heap[W1.heap.size]? = some (.stringIter s pos) ∧ Below w.heap.size w wr ∧ U8.TInv s.data.toList pos k acc) (fun _ wr => s.size - wr.iterPos W1.heap.size)
  case atStart =>
    refine ⟨0, 0, [], rfl, ?_, ?_, ?_, U8.TInv.start _⟩
    · exact hIs.alloc _
    · have := World.iter_heap W1 s 0
      simpa using this
    · exact hbel.alloc hbel.size _
  case round =>
    obtain ⟨pos, k, acc, rfl, hI, hit, hbw, hTI⟩ := hrel
    have hle := hTI.le
    rw [size_list] at hle
    obtain ⟨hle1, hle2, hle3⟩ := hle
    have hszw : W1.heap.size < wr.heap.size := (Array.getElem?_eq_some_iff.1 hit).1
    by_cases hp : pos < s.size
    · obtain ⟨r, wd, hdec, hw1, hw2, hr, hnx⟩ := next_any wr W1.heap.size s pos hit hp
      have hpl : pos < s.data.toList.length := by rw [size_list]; exact hp
      have hI2 := hI.iterAt hit (pos + wd)
      have hit2 := iterAt_heap wr W1.heap.size s pos (pos + wd) hit
      have hbw2 := below_iterAt hbw (k := W1.heap.size) (by omega) s (pos + wd)
      have hsz2 : w.heap.size ≤ (wr.iterAt W1.heap.size s (pos + wd)).heap.size := by rw [iterAt_size]; omega
      have HIT := hid hit
      by_cases hk : pos < k
      · obtain ⟨g1, g2⟩ := hTI.skip hk hpl
        rw [g1] at hdec
        obtain ⟨rfl, rfl⟩ : 65533 = r ∧ 1 = wd := by simpa using hdec
        have G2 := hid g2
        have hit2' := hid hit2
        clear g1 g2 hdec hTI hpl hit hit2
        go_wp2
        go_roundw
        case rel => exact ⟨pos + 1, k, acc, rfl, hI2, hit2'.out, hbw2, G2.out⟩
        case measure =>
          simp only [World.iterPos, hit2'.out, HIT.out]
          omega
      by_cases hc : r = 0 ∨ r = 65533
      · have hTB := hTI.bad hk hpl (by rw [hdec]; exact hc)
        rw [hdec] at hTB
        have hpz : 0 < (s.extract pos s.size).size := by rw [size_eq, extract_drop, List.length_drop, size_list]; omega
        have HP := piece_any (s.extract pos s.size) (hz := hpz)
        rw [extract_drop] at HP
        have hm3 := U8.piece_le _ (U8.drop_ne hpl)
        obtain ⟨m, hm⟩ : ∃ m, U8.piece (s.data.toList.drop pos) = m := ⟨_, rfl⟩
        rw [hm] at HP hTB hm3
        obtain ⟨hm1, hm2, _⟩ := hm3
        have HTB := hid hTB
        replace HP := hid HP
        have hT2 := hid (Utf8Tabs_below HT.out hbw2)
        have HIT2 := hid hit2
        clear hm hTB hpz hTI hdec hpl hit hit2
        rcases hc with c0 | c1
        · have t0 : ((r : Int) == 0) = true := by rw [beq_iff_eq]; omega
          clear c0
          go_wp2_with (go_at_call 23; refine (HP.out _ hT2.out).mono ?_; rintro e W2 ⟨rfl, b2⟩)
          have hI3 := isBuilder_below hI2 b2
          have hlt2 : W1.heap.size < (wr.iterAt W1.heap.size s (pos + wd)).heap.size := by rw [iterAt_size]; exact hszw
          have hit3 := hid ((b2.block _ hlt2).trans HIT2.out)
          have hbw3 := hbw2.trans (b2.mono hsz2)
          have hsz3 : w.heap.size ≤ W2.heap.size := hbw3.size
          clear hI2 hbw2 b2 hT2 HP
          go_wp2_with fail
          refine (Tryd.Builder_WriteRune_k w.heap.size w.heap.size _ 65533 (by omega) (by omega) _ hI3 (by rw [byteCells_length]; omega) hsz3).mono ?_
          rintro e W3 ⟨rfl, h3, b3, k3⟩
          go_wp2
          go_roundw
          case rel =>
            refine ⟨pos + wd, pos + m, acc ++ encodeRune 65533, by go_num, ?_, k3.iter hit3.out (by omega), hbw3.trans b3, HTB.out⟩
            rw [byteCells_append, byteCells_encodeRune]; exact Or.inr h3
          case measure =>
            simp only [World.iterPos, k3.iter hit3.out (by omega), HIT.out]
            omega
        · have t0 : ((r : Int) == 0) = false := beq_eq_false_iff_ne.2 (by omega)
          have t1 : ((r : Int) == 65533) = true := by rw [beq_iff_eq]; omega
          clear c1
          go_wp2_with (go_at_call 23; refine (HP.out _ hT2.out).mono ?_; rintro e W2 ⟨rfl, b2⟩)
          have hI3 := isBuilder_below hI2 b2
          have hlt2 : W1.heap.size < (wr.iterAt W1.heap.size s (pos + wd)).heap.size := by rw [iterAt_size]; exact hszw
          have hit3 := hid ((b2.block _ hlt2).trans HIT2.out)
          have hbw3 := hbw2.trans (b2.mono hsz2)
          have hsz3 : w.heap.size ≤ W2.heap.size := hbw3.size
          clear hI2 hbw2 b2 hT2 HP
          go_wp2_with fail
          refine (Tryd.Builder_WriteRune_k w.heap.size w.heap.size _ 65533 (by omega) (by omega) _ hI3 (by rw [byteCells_length]; omega) hsz3).mono ?_
          rintro e W3 ⟨rfl, h3, b3, k3⟩
          go_wp2
          go_roundw
          case rel =>
            refine ⟨pos + wd, pos + m, acc ++ encodeRune 65533, by go_num, ?_, k3.iter hit3.out (by omega), hbw3.trans b3, HTB.out⟩
            rw [byteCells_append, byteCells_encodeRune]; exact Or.inr h3
          case measure =>
            simp only [World.iterPos, k3.iter hit3.out (by omega), HIT.out]
            omega
      · have hTG := hTI.good hk hpl (by rw [hdec]; exact fun h => hc (.inl h)) (by rw [hdec]; exact fun h => hc (.inr h))
        rw [hdec] at hTG
        have HTG := hid hTG
        have HIT2 := hid hit2
        have t0 : ((r : Int) == 0) = false := beq_eq_false_iff_ne.2 (by omega)
        have t1 : ((r : Int) == 65533) = false := beq_eq_false_iff_ne.2 (by omega)
        clear hTG hTI hdec hpl hit hit2 hc
        go_wp2_with fail
        refine (Tryd.Builder_WriteRune_k w.heap.size w.heap.size _ (r : Int) (by omega) (by omega) _ hI2 (by rw [byteCells_length]; omega) hsz2).mono ?_
        rintro e W3 ⟨rfl, h3, b3, k3⟩
        go_wp2
        go_roundw
        case rel =>
          refine ⟨pos + wd, k, acc ++ encodeRune r, rfl, ?_, k3.iter HIT2.out (by omega), hbw2.trans b3, HTG.out⟩
          rw [byteCells_append, byteCells_encodeRune]; exact Or.inr h3
        case measure =>
          simp only [World.iterPos, k3.iter HIT2.out (by omega), HIT.out]
          omega
    · have hnx : ∀ ty, (Instr.next (.pointer (some ⟨W1.heap.size, 0, none⟩)) true ty).run Tryd.prog wr = .ok (.tuple #[.bool false]) wr := fun ty => run_next_end_at wr W1.heap.size s pos ty hit hp
      have HD := hid (hTI.done (by rw [size_list]; exact hp))
      have hszr : w.heap.size ≤ wr.heap.size := hbw.size
      clear hTI hit
      go_wp2_with fail
      refine (Tryd.Builder_String_any_k w.heap.size w.heap.size acc _ hI hszr).mono ?_
      rintro e W2 ⟨rfl, _, b2, _⟩
      go_wp2
      go_ret
      exact ⟨congrArg (fun x : List UInt8 => Ending.returned (.string ⟨x.toArray⟩)) HD.out, hbw.trans b2⟩
end Go.Proofs.YtjliphkpmpcjaaaDoor
