/- Walks: utf's Lines. -/
import Derived.Test.YtjliphkpmpcjaaaDoorLines
namespace Go.Proofs.YtjliphkpmpcjaaaDoor
open Go.RowKit Go.Lib
set_option maxRecDepth 100000
set_option linter.unusedVariables false

theorem clone_any (s : ByteArray) (w : World) (hs : s.size ≤ 281474976710656) :
    Calls Tryd.prog 31 #[.string s] w fun e w' => e = .returned (.string s) ∧ Below w.heap.size w w' := by
  go_enter Tryd.func31, Tryd.ntmps31
  go_wp2_with fail
  refine (Tryd.stringslite_Clone s w hs).mono ?_
  rintro e w' ⟨rfl, hb⟩
  go_wp2
  go_ret
  exact ⟨rfl, hb⟩

def LsInv (l : List UInt8) (p : Nat) (outs : List (List UInt8)) : Prop := outs ++ Nl.lines (l.drop p) = Nl.lines l ∧ outs.length ≤ p
theorem RdInv.lines {s : ByteArray} {p q : Nat} {line : List UInt8} {D : Bool} {outs : List (List UInt8)} (h : RdInv s p q line D) (hI : LsInv s.data.toList p outs) (hp : p < s.size) : LsInv s.data.toList q (outs ++ [line]) := by
  have hn := h.next
  have hle := h.le
  obtain ⟨h1, h2, h3, _⟩ := h
  obtain ⟨g1, g2⟩ := hI
  rw [Nl.lines_cut _ (U8.drop_ne (by rw [size_list]; exact hp)), ← h1, hn] at g1
  have := hle.2.2 hp
  exact ⟨by rw [← g1]; simp, by simp; omega⟩
theorem LsInv.done {s : ByteArray} {p : Nat} {outs : List (List UInt8)} (hI : LsInv s.data.toList p outs) (hp : ¬ p < s.size) : outs = Nl.lines s.data.toList := by
  obtain ⟨g1, _⟩ := hI
  rwa [List.drop_of_length_le (by rw [size_list]; omega), Nl.lines_nil, List.append_nil] at g1

set_option maxHeartbeats 2000000 in
theorem ulines_any (s : ByteArray) (w : World) (hs : s.size ≤ 4294967296) :
    Calls Tryd.prog 19 #[.string s] w fun e w' => ∃ v, e = .returned v ∧ w'.ownsRow w.heap.size 9 1 v (Nl.lines s.data.toList).length (strsL (Nl.lines s.data.toList)) ∧ Below w.heap.size w w' := by
  go_enter Tryd.func19, Tryd.ntmps19
  go_wp2_with fail
  refine (clone_any s w (by omega)).mono ?_
  rintro e W1 ⟨rfl, hbel⟩
  have hsz0 := hbel.size
  go_wp2_with fail
  refine (newReader_any s W1).mono ?_
  rintro e W2 ⟨rfl, rfl⟩
  have hbel2 := (hbel.alloc hbel.size (.cells #[.string s] 9 (0, 0))).alloc (by simp; omega) (.cells #[.int .i64 0] 3 (0, 0))
  have ha2 : ((W1.alloc (.cells #[.string s] 9 (0, 0))).alloc (.cells #[.int .i64 0] 3 (0, 0))).heap[W1.heap.size + 1]? = some (.cells #[.int .i64 ((0 : Nat) : Int)] 3 (0, 0)) := by
    have := heap_alloc_new (W1.alloc (.cells #[.string s] 9 (0, 0))) (.cells #[.int .i64 0] 3 (0, 0))
    simpa using this
  have hb2 : ((W1.alloc (.cells #[.string s] 9 (0, 0))).alloc (.cells #[.int .i64 0] 3 (0, 0))).heap[W1.heap.size]? = some (.cells #[.string s] 9 (0, 0)) := by
    rw [alloc_old _ _ _ (by simp)]
    exact heap_alloc_new W1 _
  have hszz : ((W1.alloc (.cells #[.string s] 9 (0, 0))).alloc (.cells #[.int .i64 0] 3 (0, 0))).heap.size = W1.heap.size + 2 := by simp
  clear hbel
  generalize (W1.alloc (.cells #[.string s] 9 (0, 0))).alloc (.cells #[.int .i64 0] 3 (0, 0)) = W2 at *
  obtain ⟨bs, hbs⟩ : ∃ bs, bs = W1.heap.size := ⟨_, rfl⟩
  rw [← hbs] at ha2 hb2 hsz0 hszz
  rw [← hbs]
  have HA2 := hid ha2; have HB2 := hid hb2
  have hs2 : bs + 2 ≤ W2.heap.size := by omega
  clear ha2 hb2 hbs hszz
  go_wp2_with fail
  refine (reader_rd s 0 (bs + 1) bs W2 hs (by omega) HA2.out HB2.out (by omega)).mono ?_
  rintro e W3 ⟨line, D, q, rfl, hR, ha3, hg3⟩
  have hb3 := hid ((hg3.block bs (lt_of_block HB2.out) (by simp)).trans HB2.out)
  have hbel3 := hbel2.grown hg3 hbel2.size (fun k hk => by simp at hk; omega)
  have hs3 : bs + 2 ≤ W3.heap.size := Nat.le_trans hs2 hg3.size
  have HA3 := hid ha3
  have HR := hid hR
  clear hR ha3 hg3 hbel2 HA2 HB2 hs2
  obtain ⟨OK, hOK⟩ : ∃ OK, decide (0 < s.size) = OK := ⟨_, rfl⟩
  rw [hOK]
  have HOK := hid hOK
  clear hOK
  go_wp2
  go_loopw [3, 5, 7] (fun v vl vo wr => ∃ (p q : Nat) (outs : List (List UInt8)) (line : List UInt8) (D OK : Bool), vl = .string ⟨line.toArray⟩ ∧ vo = .bool OK ∧ Hid (RdInv s p q line D) ∧ Hid (decide (p < s.size) = OK) ∧
      wr.ownsRow (bs + 2) 9 1 v outs.length (strsL outs) ∧ Hid (wr.heap[bs]? = some (.cells #[.string s] 9 (0, 0))) ∧ Hid (wr.heap[bs + 1]? = some (.cells #[.int .i64 (q : Int)] 3 (0, 0))) ∧ Below w.heap.size w wr ∧ bs + 2 ≤ wr.heap.size ∧ Hid (LsInv s.data.toList p outs)) (fun _ _ vo wr => s.size - atOf wr (bs + 1) + okN vo)
  case atStart => exact ⟨0, q, [], line, D, OK, rfl, rfl, HR, HOK, World.ownsRow_nil _ _ _ _, hb3, HA3, hbel3, hs3, hid ⟨by simp, by simp⟩⟩
  case round =>
    clear hb3 HA3 hbel3 HR HOK hs3
    obtain ⟨p, q, outs, line, D, OK, rfl, rfl, HR, HOK, hown, hb, HA, hbel, hsr, HN⟩ := hrel
    obtain ⟨hq1, hq2, hq3⟩ := HR.out.le
    have hszr := hbel.size
    have hacc := HN.out.2
    have hps := HR.out.2.2.2
    have hat : atOf wr (bs + 1) = q := by unfold atOf; rw [cell_of_one HA.out]; rfl
    have HAT := hid hat
    clear hat
    cases OK with
    | false =>
      have hnp : ¬ p < s.size := by simpa using HOK.out
      have HX := hid (HN.out.done hnp)
      have hown2 : wr.ownsRow w.heap.size 9 1 u3 outs.length (strsL outs) := by
        obtain ⟨h1, h2⟩ := hown
        refine ⟨h1, h2.elim .inl fun ⟨g, cap, cur, e1, e2, r⟩ => .inr ⟨g, cap, cur, e1, by omega, r⟩⟩
      go_wp2
      go_ret
      exact ⟨_, rfl, by rw [← HX.out]; exact hown2, hbel⟩
    | true =>
      have hlt : p < s.size := by simpa using HOK.out
      have HN4 := hid (HR.out.lines HN.out hlt)
      have hnew : Hid ((wr.alloc (.cells #[.string ⟨line.toArray⟩] 9 (0, 0))).cell? ⟨wr.heap.size, 0, none⟩ = some (.string ⟨line.toArray⟩)) := hid (by rw [World.cell?_alloc_mark]; rfl)
      go_wp2_with (at_builtin; refine append_str rfl _ _ rfl (bs + 2) _ outs rfl (hown.alloc _) ⟨wr.heap.size, 0, none⟩ line rfl hnew.out (by omega) (by simp; omega) ?_)
      intro v' W4 hown4 hgr
      have hO4 := own_len hown4
      have hge := own_ge (hown.alloc (.cells #[] 0))
      have hbel4 := (hbel.alloc hszr (.cells #[.string ⟨line.toArray⟩] 9 (0, 0))).grown hgr (by simp; omega) (fun k hk => by have := hge k hk; omega)
      have HA4 := hid ((hgr.block (bs + 1) (by simp; omega) (fun e => by have := hge _ e.symm; omega)).trans ((alloc_old _ _ _ (by omega)).trans HA.out))
      have HB4 := hid ((hgr.block bs (by simp; omega) (fun e => by have := hge _ e.symm; omega)).trans ((alloc_old _ _ _ (by omega)).trans hb.out))
      have hs4 : bs + 2 ≤ W4.heap.size := by have := hgr.size; simp at this; omega
      clear hown4 hgr hown hb HA hbel hge hnew
      go_wp2_with fail
      refine (reader_rd s q (bs + 1) bs W4 hs hq1 HA4.out HB4.out (by omega)).mono ?_
      rintro e W5 ⟨line2, D2, q2, rfl, hR2, ha5, hg5⟩
      have hO5 := hO4.kept hg5 (Classical.or_iff_not_imp_left.2 fun hnn e => by have := own_ge hO4 _ e; omega)
      have hb5 := hid ((hg5.block bs (lt_of_block HB4.out) (by simp)).trans HB4.out)
      have hbel5 := hbel4.grown hg5 hbel4.size (fun k hk => by simp at hk; omega)
      have hs5 : bs + 2 ≤ W5.heap.size := Nat.le_trans hs4 hg5.size
      have HA5 := hid ha5
      have hR2l := hR2.le
      have HR2 := hid hR2
      have hat5 : atOf W5 (bs + 1) = q2 := by unfold atOf; rw [cell_of_one ha5]; rfl
      have HAT5 := hid hat5
      clear hR2 ha5 hat5 hg5 hO4 hbel4 HA4 HB4
      obtain ⟨OK2, hOK2⟩ : ∃ OK2, decide (q < s.size) = OK2 := ⟨_, rfl⟩
      rw [hOK2]
      have HOK2 := hid hOK2
      clear hOK2
      go_wp2
      go_roundw
      case rel => exact ⟨q, q2, outs ++ [line], line2, D2, OK2, rfl, rfl, HR2, HOK2, hO5, hb5, HA5, hbel5, hs5, HN4⟩
      case measure =>
        rw [HAT5.out, HAT.out]
        have h1 := hR2l.1; have h2 := hR2l.2.2
        have h3 := HOK2.out
        cases OK2 with
        | true =>
          have h4 : q < s.size := by simpa using h3
          have := h2 h4
          show s.size - q2 + 1 < s.size - q + 1
          omega
        | false =>
          show s.size - q2 + 0 < s.size - q + 1
          omega
end Go.Proofs.YtjliphkpmpcjaaaDoor
