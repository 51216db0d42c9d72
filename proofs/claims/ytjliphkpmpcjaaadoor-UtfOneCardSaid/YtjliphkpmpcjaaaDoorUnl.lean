/- Walks: utf's Newlines. -/
import Derived.Test.YtjliphkpmpcjaaaDoorNewl
namespace Go.Proofs.YtjliphkpmpcjaaaDoor
open Go.RowKit Go.Lib
set_option maxRecDepth 100000
set_option linter.unusedVariables false

theorem strCells_mk (l : List UInt8) : strCells ⟨l.toArray⟩ = byteCells l := rfl
theorem others_cells {b : Nat} {w w' : World} {k : Nat} {cs : Array Value} {t : TypeId} {fz : Nat × Nat} (h : OthersKept 5 (some b) w w') (hk : w.heap[k]? = some (.cells cs t fz)) (hkb : k ≠ b) (ht : t ≠ 5) : w'.heap[k]? = some (.cells cs t fz) :=
  h k _ hk (fun e => hkb (Option.some.inj e)) (fun _ _ e => by simp at e; exact ht e.2.1)

set_option maxHeartbeats 2000000 in
theorem unl_any (s : ByteArray) (w : World) (hs : s.size ≤ 4294967296) :
    Calls Tryd.prog 16 #[.string s] w fun e w' => e = .returned (.string ⟨(Nl.nl s.data.toList).toArray⟩) ∧ Below w.heap.size w w' := by
  go_enter Tryd.func16, Tryd.ntmps16
  go_wp2_with fail
  refine (Tryd.Builder_Grow_fresh w.heap.size w.heap.size s.size _ (Nat.le_refl _) (heap_alloc_new w _) (by simp) (by omega)).mono ?_
  rintro e W1 ⟨rfl, hBA, hb1⟩
  have hbel := ((Below.refl w.heap.size w).alloc (Nat.le_refl _) (.cells #[.pointer none, .slice none 0 0] 37)).trans hb1
  have hIs : IsBuilderF 37 5 w.heap.size w.heap.size (byteCells []) W1 := IsBuilderF.of (.inr hBA)
  have hsz1 := hb1.size
  have hsz0 : w.heap.size < W1.heap.size := by simp at hsz1; omega
  clear hb1 hBA hsz1
  go_wp2_with fail
  refine (newReader_any s W1).mono ?_
  rintro e W2 ⟨rfl, rfl⟩
  have hIs2 := (hIs.alloc (.cells #[.string s] 9 (0, 0))).alloc (.cells #[.int .i64 0] 3 (0, 0))
  have hbel2 := (hbel.alloc hbel.size (.cells #[.string s] 9 (0, 0))).alloc (by simp; omega) (.cells #[.int .i64 0] 3 (0, 0))
  have ha2 : ((W1.alloc (.cells #[.string s] 9 (0, 0))).alloc (.cells #[.int .i64 0] 3 (0, 0))).heap[W1.heap.size + 1]? = some (.cells #[.int .i64 ((0 : Nat) : Int)] 3 (0, 0)) := by
    have := heap_alloc_new (W1.alloc (.cells #[.string s] 9 (0, 0))) (.cells #[.int .i64 0] 3 (0, 0))
    simpa using this
  have hb2 : ((W1.alloc (.cells #[.string s] 9 (0, 0))).alloc (.cells #[.int .i64 0] 3 (0, 0))).heap[W1.heap.size]? = some (.cells #[.string s] 9 (0, 0)) := by
    rw [alloc_old _ _ _ (by simp)]
    exact heap_alloc_new W1 _
  clear hIs hbel
  generalize (W1.alloc (.cells #[.string s] 9 (0, 0))).alloc (.cells #[.int .i64 0] 3 (0, 0)) = W2 at *
  obtain ⟨bs, hbs⟩ : ∃ bs, bs = W1.heap.size := ⟨_, rfl⟩
  rw [← hbs] at ha2 hb2 hsz0
  rw [← hbs]
  have HA2 := hid ha2; have HB2 := hid hb2
  clear ha2 hb2 hbs
  go_wp2_with fail
  refine (reader_rd s 0 (bs + 1) bs W2 hs (by omega) HA2.out HB2.out (by omega)).mono ?_
  rintro e W3 ⟨line, D, q, rfl, hR, ha3, hg3⟩
  have hIs3 := builder_grown hIs2 hg3 HA2.out (by omega) (by decide)
  have hb3 := hid ((hg3.block bs (lt_of_block HB2.out) (by simp)).trans HB2.out)
  have hbel3 := hbel2.grown hg3 hbel2.size (fun k hk => by simp at hk; omega)
  have HA3 := hid ha3
  have HR := hid hR
  clear hR ha3 hg3 hIs2 hbel2 HA2 HB2
  obtain ⟨OK, hOK⟩ : ∃ OK, decide (0 < s.size) = OK := ⟨_, rfl⟩
  rw [hOK]
  have HOK := hid hOK
  clear hOK
  go_wp2
  go_loopw [5, 6, 7] (fun vl vd vo wr => ∃ (p q : Nat) (acc line : List UInt8) (D OK : Bool), vl = .string ⟨line.toArray⟩ ∧ vd = .bool D ∧ vo = .bool OK ∧ Hid (RdInv s p q line D) ∧ Hid (decide (p < s.size) = OK) ∧
      IsBuilderF 37 5 w.heap.size w.heap.size (byteCells acc) wr ∧ Hid (wr.heap[bs]? = some (.cells #[.string s] 9 (0, 0))) ∧ Hid (wr.heap[bs + 1]? = some (.cells #[.int .i64 (q : Int)] 3 (0, 0))) ∧ Below w.heap.size w wr ∧ Hid (NInv s.data.toList p acc)) (fun _ _ vo wr => s.size - atOf wr (bs + 1) + okN vo)
  case atStart => exact ⟨0, q, [], line, D, OK, rfl, rfl, rfl, HR, HOK, hIs3, hb3, HA3, hbel3, hid ⟨by simp, by simp⟩⟩
  case round =>
    clear hIs3 hb3 HA3 hbel3 HR HOK
    obtain ⟨p, q, acc, line, D, OK, rfl, rfl, rfl, HR, HOK, hIs, hb, HA, hbel, HN⟩ := hrel
    obtain ⟨hq1, hq2, hq3⟩ := HR.out.le
    have hszr := hbel.size
    have hacc := HN.out.2
    have hps := HR.out.2.2.2
    have hat : atOf wr (bs + 1) = q := by unfold atOf; rw [cell_of_one HA.out]; rfl
    have HAT := hid hat
    clear hat
    have hlsz : (⟨line.toArray⟩ : ByteArray).size = line.length := by simp [ByteArray.size]
    cases OK with
    | false =>
      have hnp : ¬ p < s.size := by simpa using HOK.out
      have HX := hid (HN.out.done hnp)
      go_wp2_with fail
      refine (Tryd.Builder_String_any_k w.heap.size w.heap.size acc _ hIs hszr).mono ?_
      rintro e W5 ⟨rfl, _, b5, _⟩
      go_wp2
      go_ret
      exact ⟨congrArg (fun x : List UInt8 => Ending.returned (.string ⟨x.toArray⟩)) HX.out, hbel.trans b5⟩
    | true =>
      have hlt : p < s.size := by simpa using HOK.out
      go_wp2_with fail
      refine (Tryd.Builder_WriteString_k w.heap.size w.heap.size _ ⟨line.toArray⟩ _ hIs (by rw [byteCells_length, hlsz]; omega) hszr).mono ?_
      rintro e W3' ⟨rfl, h3, b3, k3⟩
      rw [strCells_mk, ← byteCells_append] at h3
      have hIs3 : IsBuilderF 37 5 w.heap.size w.heap.size (byteCells (acc ++ line)) W3' := Or.inr h3
      have HB3 := hid (others_cells k3 hb.out (by omega) (by decide))
      have HA3 := hid (others_cells k3 HA.out (by omega) (by decide))
      have hbel3 := hbel.trans b3
      clear h3 b3 k3 hIs hbel hb HA hlsz
      cases D with
      | false =>
        have HN4 := hid (HR.out.last HN.out)
        have hIs4 := hIs3
        have hbel4 := hbel3
        have HA4 := HA3
        have HB4 := HB3
        clear hIs3 hbel3 HA3 HB3
        go_wp2_with fail
        refine (reader_rd s q (bs + 1) bs W3' hs hq1 HA4.out HB4.out (by omega)).mono ?_
        rintro e W5 ⟨line2, D2, q2, rfl, hR2, ha5, hg5⟩
        have hIs5 := builder_grown hIs4 hg5 HA4.out (by omega) (by decide)
        have hb5 := hid ((hg5.block bs (lt_of_block HB4.out) (by simp)).trans HB4.out)
        have hbel5 := hbel4.grown hg5 hbel4.size (fun k hk => by simp at hk; omega)
        have HA5 := hid ha5
        have hR2l := hR2.le
        have HR2 := hid hR2
        have hat5 : atOf W5 (bs + 1) = q2 := by unfold atOf; rw [cell_of_one ha5]; rfl
        have HAT5 := hid hat5
        clear hR2 ha5 hat5 hg5 hIs4 hbel4 HA4 HB4
        obtain ⟨OK2, hOK2⟩ : ∃ OK2, decide (q < s.size) = OK2 := ⟨_, rfl⟩
        rw [hOK2]
        have HOK2 := hid hOK2
        clear hOK2
        go_wp2
        go_roundw
        case rel => exact ⟨q, q2, acc ++ line, line2, D2, OK2, rfl, rfl, rfl, HR2, HOK2, hIs5, hb5, HA5, hbel5, HN4⟩
        case measure =>
          rw [HAT5.out, HAT.out]
          have h1 := hR2l.1; have h2 := hR2l.2.2
          have h3 := HOK2.out
          cases OK2 with
          | true =>
            have h4 : q < s.size := by simpa using h3
            have := h2 h4
            show s.size - q2 + 1 < s.size - q + 1
            omega
          | false =>
            show s.size - q2 + 0 < s.size - q + 1
            omega
      | true =>
        have HN4 := hid (HR.out.ended HN.out hlt)
        have hal : (acc ++ line).length = acc.length + line.length := List.length_append
        go_wp2_with fail
        refine (Tryd.Builder_WriteByte_k w.heap.size w.heap.size _ 10 _ hIs3 (by rw [byteCells_length, hal]; omega) hbel3.size).mono ?_
        rintro e W4 ⟨rfl, h4, b4, k4⟩
        have hIs4 : IsBuilderF 37 5 w.heap.size w.heap.size (byteCells (acc ++ line ++ [10])) W4 := by rw [byteCells_append]; exact Or.inr h4
        have HB4 := hid (others_cells k4 HB3.out (by omega) (by decide))
        have HA4 := hid (others_cells k4 HA3.out (by omega) (by decide))
        have hbel4 := hbel3.trans b4
        clear h4 b4 k4 hIs3 hbel3 HA3 HB3 hal
        go_wp2_with fail
        refine (reader_rd s q (bs + 1) bs W4 hs hq1 HA4.out HB4.out (by omega)).mono ?_
        rintro e W5 ⟨line2, D2, q2, rfl, hR2, ha5, hg5⟩
        have hIs5 := builder_grown hIs4 hg5 HA4.out (by omega) (by decide)
        have hb5 := hid ((hg5.block bs (lt_of_block HB4.out) (by simp)).trans HB4.out)
        have hbel5 := hbel4.grown hg5 hbel4.size (fun k hk => by simp at hk; omega)
        have HA5 := hid ha5
        have hR2l := hR2.le
        have HR2 := hid hR2
        have hat5 : atOf W5 (bs + 1) = q2 := by unfold atOf; rw [cell_of_one ha5]; rfl
        have HAT5 := hid hat5
        clear hR2 ha5 hat5 hg5 hIs4 hbel4 HA4 HB4
        obtain ⟨OK2, hOK2⟩ : ∃ OK2, decide (q < s.size) = OK2 := ⟨_, rfl⟩
        rw [hOK2]
        have HOK2 := hid hOK2
        clear hOK2
        go_wp2
        go_roundw
        case rel => exact ⟨q, q2, acc ++ line ++ [10], line2, D2, OK2, rfl, rfl, rfl, HR2, HOK2, hIs5, hb5, HA5, hbel5, HN4⟩
        case measure =>
          rw [HAT5.out, HAT.out]
          have h1 := hR2l.1; have h2 := hR2l.2.2
          have h3 := HOK2.out
          cases OK2 with
          | true =>
            have h4 : q < s.size := by simpa using h3
            have := h2 h4
            show s.size - q2 + 1 < s.size - q + 1
            omega
          | false =>
            show s.size - q2 + 0 < s.size - q + 1
            omega
end Go.Proofs.YtjliphkpmpcjaaaDoor
