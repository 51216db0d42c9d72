/- The walk of the statement UtfEnds. -/
import Derived.Test.YtjliphkpmpcjaaaDoorFrame
import Derived.Test.YtjliphkpmpcjaaaDoorNlMore
namespace Go.Proofs.YtjliphkpmpcjaaaDoor.utfEnds
open Go.ChangeShapes Go.WideShapes Go.ChangeAt Go.RowKit Go.Lib
open Go.ChangeMaps (open_string shut_string)
set_option maxRecDepth 100000
set_option linter.unusedVariables false

theorem ba_append (a b : List UInt8) : ((⟨a.toArray⟩ : ByteArray) ++ (⟨b.toArray⟩ : ByteArray)) = ⟨(a ++ b).toArray⟩ := by
  apply ByteArray.ext
  rw [ByteArray.data_append]
  simp

set_option maxHeartbeats 1000000 in
theorem walk (w : World) (hT : Tabs w) (s : ByteArray) (ws : s.size ≤ maxLen) :
    Calls Tryd.prog 7 #[.string s] w fun e w' => e = .returned (.bool true) ∧ Below w.heap.size w w' := by
  unfold maxLen at ws
  by_cases hs : 20000 < s.size
  · have hd : decide ((20000 : Int) < (s.size : Int)) = true := by simp; omega
    have HK := hid (known_any w hT)
    clear hT
    go_enter Tryd.func7, Tryd.ntmps7
    go_wp2_with fail
    refine HK.out.mono ?_
    rintro e w1 ⟨rfl, b1⟩
    go_wp2
    go_ret
    exact ⟨rfl, b1⟩
  · have hd : decide ((20000 : Int) < (s.size : Int)) = false := by simp; omega
    have HK := hid (known_any w hT)
    obtain ⟨n, hn⟩ : ∃ n : ByteArray, n = ⟨(Nl.nl s.data.toList).toArray⟩ := ⟨_, rfl⟩
    have hnl : n.data.toList = Nl.nl s.data.toList := by rw [hn]
    have hnz : n.size ≤ s.size := by
      rw [← size_list n, hnl, ← size_list s]
      exact Nl.nl_le false _
    have HU := fun w => unl_any s w (by omega)
    rw [← hn] at HU
    have HU2 := fun w => unl_any n w (by omega)
    have hnn : (⟨(Nl.nl n.data.toList).toArray⟩ : ByteArray) = n := by rw [hnl, Nl.nl_nl, hn]
    rw [hnn] at HU2
    have HL := fun w => ulines_any s w (by omega)
    have HL2 := fun w => ulines_any n w (by omega)
    rw [hnl, Nl.lines_nl] at HL2
    have hj := Nl.join_lines s.data.toList
    rw [← hnl] at hj
    have hll : (Nl.lines s.data.toList).length ≤ s.size + 1 := by
      have h1 := Nl.split_le (Nl.nl s.data.toList) []
      have h2 := Nl.nl_le false s.data.toList
      rw [size_list] at h2
      unfold Nl.lines
      unfold Nl.nl at *
      omega
    obtain ⟨ls, hls⟩ : ∃ ls, Nl.lines s.data.toList = ls := ⟨_, rfl⟩
    rw [hls] at HL HL2 hj hll
    have HU' := hid HU; have HU2' := hid HU2; have HL' := hid HL; have HL2' := hid HL2; have HJ := hid hj
    have hnz2 : n.size ≤ 20000 := by omega
    clear hT hn hnl HU HU2 HL HL2 hj hnn hls
    go_enter Tryd.func7, Tryd.ntmps7
    go_wp2_with fail
    refine HK.out.mono ?_
    rintro e w1 ⟨rfl, b1⟩
    go_wp2_with fail
    refine (HU'.out _).mono ?_
    rintro e w2 ⟨rfl, b2⟩
    have c2 := b1.trans (b2.mono b1.size)
    clear b1 b2
    go_wp2_with fail
    refine (HL'.out _).mono ?_
    rintro e w3 ⟨v3, rfl, o3, b3⟩
    obtain ⟨a3, cap3, rfl, i3, g3, m3⟩ := own_isS o3
    have c3 := c2.trans (b3.mono c2.size)
    have I3 := hid i3
    clear o3 c2 b3 i3
    go_wp2_with fail
    refine (HL2'.out _).mono ?_
    rintro e w4 ⟨v4, rfl, o4, b4⟩
    obtain ⟨a4, cap4, rfl, i4, g4, m4⟩ := own_isS o4
    have c4 := c3.trans (b4.mono c3.size)
    have I34 := hid (I3.out.below b4)
    have I4 := hid i4
    clear o4 c3 b4 i4 I3
    unfold maxLen at m3 m4
    go_wp2_with fail
    refine (sameStrings_any a3 a4 _ _ cap3 cap4 ls ls w4 I34.out I4.out g3 g4 m3 m4).mono ?_
    rintro e w5 ⟨rfl, b5⟩
    have c5 := c4.trans (b5.mono c4.size)
    have I35 := hid (I34.out.below b5)
    have hls : (ls == ls) = true := by simp
    clear c4 b5 I34 I4
    go_wp2_with fail
    refine (HU2'.out _).mono ?_
    rintro e w6 ⟨rfl, b6⟩
    have c6 := c5.trans (b6.mono c5.size)
    have I36 := hid (I35.out.below b6)
    clear c5 b6 I35
    go_wp2
    obtain ⟨hI36l, hI36o⟩ := I36.out
    have HIO := hid hI36o
    clear hI36l hI36o
    have hjl : ∀ k, (Nl.join (ls.take k)).length ≤ n.size + 1 := fun k => by
      have h1 : (Nl.join ls).length ≤ n.size + 1 := by
        rcases HJ.out with h | h
        · rw [h, size_list]; omega
        · rw [h, List.length_append, size_list]; simp
      have h2 : Nl.join ls = Nl.join (ls.take k) ++ Nl.join (ls.drop k) := by rw [← Nl.join_append, List.take_append_drop]
      rw [h2, List.length_append] at h1
      omega
    have HJL := hid hjl
    clear hjl
    go_loop [5, 6] (fun va vi => ∃ k : Nat, k ≤ ls.length ∧ vi = .int .i64 k ∧ va = .string ⟨(Nl.join (ls.take k)).toArray⟩) (fun _ vi => ls.length - (RowKit.intOf vi).toNat)
    case atStart => exact ⟨0, by omega, rfl, rfl⟩
    case round =>
      obtain ⟨k, hk, rfl, rfl⟩ := hrel
      by_cases hlt : k < ls.length
      · obtain ⟨b, off, rfl, hat⟩ := HIO.out.elim (fun h => absurd h (by omega)) id
        have q1 := hat k _ (List.getElem?_eq_getElem hlt)
        obtain ⟨x, hx⟩ : ∃ x, ls[k] = x := ⟨_, rfl⟩
        rw [hx] at q1
        have hltI : (k : Int) < (ls.length : Int) := by omega
        have hcapI : (ls.length : Int) ≤ (cap3 : Int) := by omega
        have hjk : Nl.join (ls.take (k + 1)) = Nl.join (ls.take k) ++ x ++ [10] := by
          rw [List.take_add_one, List.getElem?_eq_getElem hlt, hx, Nl.join_append]
          simp [Nl.join]
        have hsum := HJL.out (k + 1)
        rw [hjk] at hsum
        simp only [List.length_append, List.length_cons, List.length_nil] at hsum
        have HJK := hid hjk
        clear hjk hx hat
        generalize hAk : Nl.join (ls.take k) = A at *
        have HAK := hid hAk
        clear hAk
        go_wp2
        go_round
        case rel => exact ⟨k + 1, by omega, by go_num, by rw [HJK.out, ← ba_append, ← ba_append]⟩
        case measure => simp [RowKit.intOf]; omega
      · have hke : ls.take k = ls := List.take_of_length_le (by omega)
        rw [hke]
        obtain ⟨A, hA⟩ : ∃ A, Nl.join ls = A := ⟨_, rfl⟩
        rw [hA]
        have hJ := HJ.out
        rw [hA] at hJ
        have hAl := HJL.out k
        rw [hke, hA] at hAl
        have hnl2 : n.toList = n.data.toList := toList_data n
        rcases hJ with hJ | hJ
        · have t0 : (A == n.toList) = true := by rw [hJ, hnl2]; simp
          clear hJ hA hke hnl2
          go_wp2
          go_ret
          exact ⟨rfl, c6⟩
        · have t0 : (A == n.toList) = false := by
            rw [hJ, hnl2, beq_eq_false_iff_ne]
            intro e
            have := congrArg List.length e
            simp at this
          have t1 : (A == (n ++ (⟨#[10]⟩ : ByteArray)).toList) = true := by
            rw [toList_data, ByteArray.data_append, hJ]
            simp
          clear hJ hA hke hnl2
          go_wp2
          go_ret
          exact ⟨rfl, c6⟩
end Go.Proofs.YtjliphkpmpcjaaaDoor.utfEnds
