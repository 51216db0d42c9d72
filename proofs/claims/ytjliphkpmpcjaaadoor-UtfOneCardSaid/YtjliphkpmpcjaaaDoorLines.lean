/- Walks: the reference's Lines, and utf's Lines. -/
import Derived.Test.YtjliphkpmpcjaaaDoorStrs
namespace Go.Proofs.YtjliphkpmpcjaaaDoor
open Go.RowKit Go.Lib
set_option maxRecDepth 100000
set_option linter.unusedVariables false

/-- What holds at each round of the reference's Lines: the line that is being read began at f. -/
def LnInv (t : List UInt8) (f k : Nat) (outs : List (List UInt8)) : Prop :=
  f ≤ k ∧ outs ++ Nl.split ((t.drop f).take (k - f)) (t.drop k) = Nl.split [] t ∧ outs.length ≤ k
theorem take_snoc' (l : List UInt8) (n : Nat) (c : UInt8) (h : l[n]? = some c) : l.take (n + 1) = l.take n ++ [c] := by
  rw [List.take_add_one, h]; rfl
theorem LnInv.nl {s : ByteArray} {f k : Nat} {outs : List (List UInt8)} (h : LnInv s.data.toList f k outs) (hk : k < s.size) (hc : s[k]'hk = 10) : LnInv s.data.toList (k + 1) (k + 1) (outs ++ [(s.data.toList.drop f).take (k - f)]) := by
  obtain ⟨h1, h2, h3⟩ := h
  rw [drop_cons s k hk, Nl.split, if_pos hc] at h2
  refine ⟨Nat.le_refl _, ?_, by simp; omega⟩
  rw [Nat.sub_self, List.take_zero, ← h2]
  simp
theorem LnInv.other {s : ByteArray} {f k : Nat} {outs : List (List UInt8)} (h : LnInv s.data.toList f k outs) (hk : k < s.size) (hc : s[k]'hk ≠ 10) : LnInv s.data.toList f (k + 1) outs := by
  obtain ⟨h1, h2, h3⟩ := h
  rw [drop_cons s k hk, Nl.split, if_neg hc] at h2
  refine ⟨by omega, ?_, by omega⟩
  rw [show k + 1 - f = (k - f) + 1 by omega, take_snoc' _ _ (s[k]'hk)]
  · exact h2
  · rw [List.getElem?_drop, show f + (k - f) = k by omega, List.getElem?_eq_getElem (by rw [size_list]; exact hk)]
    rfl
theorem LnInv.some {s : ByteArray} {f k : Nat} {outs : List (List UInt8)} (h : LnInv s.data.toList f k outs) (hk : k = s.size) (hf : f < s.size) : outs ++ [s.data.toList.drop f] = Nl.split [] s.data.toList := by
  obtain ⟨h1, h2, h3⟩ := h
  rw [List.drop_of_length_le (i := k) (by rw [size_list]; omega), List.take_of_length_le (by rw [List.length_drop, size_list]; omega), Nl.split, if_neg (U8.drop_ne (by rw [size_list]; exact hf))] at h2
  exact h2
theorem LnInv.none {s : ByteArray} {f k : Nat} {outs : List (List UInt8)} (h : LnInv s.data.toList f k outs) (hk : k = s.size) (hf : ¬ f < s.size) : outs = Nl.split [] s.data.toList := by
  obtain ⟨h1, h2, h3⟩ := h
  rw [List.drop_of_length_le (i := k) (by rw [size_list]; omega), List.drop_of_length_le (i := f) (by rw [size_list]; omega)] at h2
  simpa [Nl.split] using h2

theorem own_len {w : World} {B : Nat} {v : Value} {outs : List (List UInt8)} {x : List UInt8} (h : w.ownsRow B 9 1 v (outs.length + 1) (strsL (outs ++ [x]))) : w.ownsRow B 9 1 v (outs ++ [x]).length (strsL (outs ++ [x])) := by
  rw [List.length_append]; exact h

set_option maxHeartbeats 2000000 in
theorem rlines_any (s0 : ByteArray) (w : World) (hs : s0.size ≤ 4294967296) :
    Calls Tryd.prog 20 #[.string s0] w fun e w' => ∃ v, e = .returned v ∧ w'.ownsRow w.heap.size 9 1 v (Nl.lines s0.data.toList).length (strsL (Nl.lines s0.data.toList)) ∧ Below w.heap.size w w' := by
  obtain ⟨s, hse⟩ : ∃ s : ByteArray, s = ⟨(Nl.nl s0.data.toList).toArray⟩ := ⟨_, rfl⟩
  have hsl : s.data.toList = Nl.nl s0.data.toList := by rw [hse]
  have hsz : s.size ≤ 4294967296 := by
    have := Nl.nl_le false s0.data.toList
    rw [← size_list s, hsl]
    rw [size_list] at this
    exact Nat.le_trans this hs
  have hLn : Nl.lines s0.data.toList = Nl.split [] s.data.toList := by rw [hsl]; rfl
  rw [hLn]
  have HN := rnl_any s0 w hs
  rw [← hse] at HN
  replace HN := hid HN
  clear hLn hse hsl
  go_enter Tryd.func20, Tryd.ntmps20
  go_wp2_with fail
  refine HN.out.mono ?_
  rintro e W1 ⟨rfl, hb1⟩
  have hsz1 := hb1.size
  go_wp2
  go_loopw [3, 4, 5] (fun v vf vi wr => ∃ (f k : Nat) (outs : List (List UInt8)), vf = .int .i64 f ∧ vi = .int .i64 k ∧ f ≤ k ∧ k ≤ s.size ∧ wr.ownsRow w.heap.size 9 1 v outs.length (strsL outs) ∧ Below w.heap.size w wr ∧ Hid (LnInv s.data.toList f k outs)) (fun _ _ vi _ => s.size - (RowKit.intOf vi).toNat)
  case atStart => exact ⟨0, 0, [], rfl, rfl, Nat.le_refl _, by omega, World.ownsRow_nil _ _ _ _, hb1, hid ⟨by omega, by simp, by simp⟩⟩
  case round =>
    obtain ⟨f, k, outs, rfl, rfl, hfk, hk, hown, hbw, hI⟩ := hrel
    have hszr := hbw.size
    have houts := hI.out.2.2
    by_cases hlt : k < s.size
    · obtain ⟨x, hx⟩ : ∃ x, s[k]'hlt = x := ⟨_, rfl⟩
      by_cases hc : x = 10
      · have t0 : ((x.toNat : Int) == 10) = true := by rw [hc]; rfl
        have HI := hid (hI.out.nl hlt (by rw [hx]; exact hc))
        have HE := hid (extract_eq s f k)
        have hfI : (f : Int) ≤ (k : Int) := by omega
        clear hc
        have hnew : Hid ((wr.alloc (.cells #[.string (s.extract f k)] 9 (0, 0))).cell? ⟨wr.heap.size, 0, none⟩ = some (.string ⟨((s.data.toList.drop f).take (k - f)).toArray⟩)) := hid (by rw [World.cell?_alloc_mark, ← HE.out]; rfl)
        go_wp2_with (at_builtin; refine append_str rfl _ _ rfl w.heap.size _ outs rfl (hown.alloc _) ⟨wr.heap.size, 0, none⟩ ((s.data.toList.drop f).take (k - f)) rfl hnew.out (by omega) (by simp; omega) ?_)
        intro v' w' hown3 hgr
        have hbw3 := (hbw.alloc hszr _).grown hgr (by simp; omega) (own_ge (hown.alloc (.cells #[] 0)))
        have HO3 := hid hown3
        clear hgr hown hbw hown3
        go_wp2
        go_roundw
        case rel => exact ⟨k + 1, k + 1, outs ++ [(s.data.toList.drop f).take (k - f)], by go_num, by go_num, Nat.le_refl _, by omega, own_len HO3.out, hbw3, HI⟩
        case measure => simp [RowKit.intOf]; omega
      · have t0 : ((x.toNat : Int) == 10) = false := by
          rw [beq_eq_false_iff_ne]; intro e; exact hc (UInt8.toNat_inj.1 (by show x.toNat = 10; omega))
        have HI := hid (hI.out.other hlt (by rw [hx]; exact hc))
        clear hc
        go_wp2
        go_roundw
        case rel => exact ⟨f, k + 1, outs, rfl, by go_num, by omega, by omega, hown, hbw, HI⟩
        case measure => simp [RowKit.intOf]; omega
    · have hke : k = s.size := by omega
      by_cases hf : f < s.size
      · have HX := hid (hI.out.some hke hf)
        have hfI : (f : Int) < (s.size : Int) := by omega
        have HE := hid (show s.extract f s.size = ⟨(s.data.toList.drop f).toArray⟩ by rw [extract_eq, List.take_of_length_le]; rw [List.length_drop, size_list]; exact Nat.le_refl _)
        have hnew : Hid ((wr.alloc (.cells #[.string (s.extract f s.size)] 9 (0, 0))).cell? ⟨wr.heap.size, 0, none⟩ = some (.string ⟨(s.data.toList.drop f).toArray⟩)) := hid (by rw [World.cell?_alloc_mark, ← HE.out]; rfl)
        clear hke
        go_wp2_with (at_builtin; refine append_str rfl _ _ rfl w.heap.size _ outs rfl (hown.alloc _) ⟨wr.heap.size, 0, none⟩ (s.data.toList.drop f) rfl hnew.out (by omega) (by simp; omega) ?_)
        intro v' w' hown3 hgr
        have hbw3 := (hbw.alloc hszr _).grown hgr (by simp; omega) (own_ge (hown.alloc (.cells #[] 0)))
        have HO3 := hid hown3
        clear hgr hown hbw hown3
        go_wp2
        go_ret
        exact ⟨_, rfl, by rw [← HX.out]; exact own_len HO3.out, hbw3⟩
      · have HX := hid (hI.out.none hke hf)
        have hfI : decide ((f : Int) < (s.size : Int)) = false := by simp; omega
        clear hke
        go_wp2
        go_ret
        exact ⟨_, rfl, by rw [← HX.out]; exact hown, hbw⟩
end Go.Proofs.YtjliphkpmpcjaaaDoor
