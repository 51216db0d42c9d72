/- Walks over the reference of layer 3: beginnings, the character of a number. Walks over the reference of layer 3: the table of names as it is made. Walks over the reference of layer 3: the longest name. -/
import Derived.Test.YtgldgdopabmefaaGreatDoorMeanText
import Derived.Test.YtgldgdopabmefaaGreatDoorRefLower
namespace Go.Proofs.YtgldgdopabmefaaGreatDoor
open Go.RowKit Go.Lib Ent
set_option maxRecDepth 100000
set_option linter.unusedVariables false

theorem begins_eq (s p : ByteArray) (h : p.size ≤ s.size) : ((s.extract 0 p.size).toList == p.toList) = p.data.toList.isPrefixOf s.data.toList := by
  rw [toList_data, toList_data, extract_list, Bool.eq_iff_iff, beq_iff_eq, List.isPrefixOf_iff_prefix, List.prefix_iff_eq_take, size_list]
  exact ⟨fun h => h.symm, fun h => h.symm⟩
theorem begins_no (s p : ByteArray) (h : s.size < p.size) : p.data.toList.isPrefixOf s.data.toList = false := by
  cases hb : p.data.toList.isPrefixOf s.data.toList with
  | false => rfl
  | true =>
    have := (List.isPrefixOf_iff_prefix.1 hb).length_le
    rw [size_list, size_list] at this; omega
theorem rbegins_any (s p : ByteArray) (w : World) (hs : s.size ≤ 1000000) (hp : p.size ≤ 1000000) :
    Calls Tryz.prog 93 #[.string s, .string p] w fun e w' => e = .returned (.bool (p.data.toList.isPrefixOf s.data.toList)) ∧ w = w' := by
  by_cases h : p.size ≤ s.size
  · have hd : decide ((p.size : Int) ≤ (s.size : Int)) = true := by simp; exact h
    have HE := hid (begins_eq s p h)
    go_enter Tryz.func93, Tryz.ntmps93
    go_wp2
    go_ret
    exact ⟨ret_bool' HE.out, rfl⟩
  · have hd : decide ((p.size : Int) ≤ (s.size : Int)) = false := by simp; omega
    have HE := hid (begins_no s p (by omega))
    have h2 : s.size < p.size := by omega
    clear h
    go_enter Tryz.func93, Tryz.ntmps93
    go_wp2
    go_ret
    exact ⟨ret_bool' HE.out.symm, rfl⟩

theorem rrightI_any (n : Int) (w : World) :
    Calls Tryz.prog 95 #[.int .i64 n] w fun e w' => e = .returned (.bool (rightI n)) ∧ w = w' := by
  rcases (show n ≤ 0 ∨ (0 < n ∧ 1114111 < n) ∨ (0 < n ∧ n ≤ 1114111 ∧ n < 55296) ∨ (0 < n ∧ n ≤ 1114111 ∧ 55296 ≤ n ∧ n ≤ 57343) ∨ (0 < n ∧ n ≤ 1114111 ∧ 55296 ≤ n ∧ 57343 < n) by omega) with h | ⟨h1, h2⟩ | ⟨h1, h2, h3⟩ | ⟨h1, h2, h3, h4⟩ | ⟨h1, h2, h3, h4⟩
  · have e : rightI n = false := decide_eq_false (by omega)
    rw [e]; clear e
    go_enter Tryz.func95, Tryz.ntmps95
    go_wp2
    go_ret
    first | exact ⟨rfl, rfl⟩ | exact ⟨ret_bool' (by simp; omega), rfl⟩
  · have e : rightI n = false := decide_eq_false (by omega)
    rw [e]; clear e
    go_enter Tryz.func95, Tryz.ntmps95
    go_wp2
    go_ret
    first | exact ⟨rfl, rfl⟩ | exact ⟨ret_bool' (by simp; omega), rfl⟩
  · have e : rightI n = true := decide_eq_true (by omega)
    rw [e]; clear e
    go_enter Tryz.func95, Tryz.ntmps95
    go_wp2
    go_ret
    first | exact ⟨rfl, rfl⟩ | exact ⟨ret_bool' (by simp; omega), rfl⟩
  · have e : rightI n = false := decide_eq_false (by omega)
    rw [e]; clear e
    go_enter Tryz.func95, Tryz.ntmps95
    go_wp2
    go_ret
    first | exact ⟨rfl, rfl⟩ | exact ⟨ret_bool' (by simp; omega), rfl⟩
  · have e : rightI n = true := decide_eq_true (by omega)
    rw [e]; clear e
    go_enter Tryz.func95, Tryz.ntmps95
    go_wp2
    go_ret
    first | exact ⟨rfl, rfl⟩ | exact ⟨ret_bool' (by simp; omega), rfl⟩

theorem ret_i32 {a b : Int} (h : a = b) : Ending.returned (.int .i32 a) = .returned (.int .i32 b) := by rw [h]
theorem rwindow_any (w : World) :
    Calls Tryz.prog 96 #[] w fun e w' => ∃ g, e = .returned (.slice (some ⟨g, 0, none⟩) 32 32) ∧ Below w.heap.size w w' ∧ ∀ j, j < 32 → w'.cell? ⟨g, j, none⟩ = some (.int .i32 (win.getD j 0 : Nat)) := by
  go_enter Tryz.func96, Tryz.ntmps96
  go_wp2
  go_ret
  refine ⟨w.heap.size, rfl, (Below.refl _ _).alloc (Nat.le_refl _) _, fun j hj => ?_⟩
  refine (World.cell?_alloc_new _ _ _ _).trans ?_
  refine (show (((win.map fun (c : Nat) => Value.int .i32 (c : Int)).toArray)[j]? = some (.int .i32 (win.getD j 0 : Nat))) from ?_)
  have hl : j < win.length := hj
  rw [List.getElem?_toArray, List.getElem?_map, List.getElem?_eq_getElem hl, List.getD_eq_getElem?_getD, List.getElem?_eq_getElem hl]
  rfl
set_option maxHeartbeats 1000000 in
theorem rnumber_any (n : Int) (w : World) (wf : (Lit.int .i64 n).wf = true) :
    Calls Tryz.prog 69 #[.int .i64 n] w fun e w' => e = .returned (.int .i32 (numZ n)) ∧ Below w.heap.size w w' := by
  cases hr : rightI n with
  | false =>
    have e : numZ n = 65533 := by
      have h0 : ¬ (128 ≤ n ∧ n < 160) := by unfold rightI at hr; simp at hr; omega
      unfold numZ charZ
      rw [if_neg h0, hr]; rfl
    rw [e]
    have HR := hid (rrightI_any n w)
    rw [hr] at HR
    clear hr e
    go_enter Tryz.func69, Tryz.ntmps69
    go_wp2_with fail
    refine HR.out.mono ?_
    rintro e w' ⟨rfl, rfl⟩
    go_wp2
    go_ret
    exact ⟨rfl, Below.refl _ _⟩
  | true =>
    have hb : 0 < n ∧ n ≤ 1114111 := by unfold rightI at hr; simp at hr; omega
    obtain ⟨hb1, hb2⟩ := hb
    have HR := hid (rrightI_any n w)
    rw [hr] at HR
    by_cases hw : 128 ≤ n ∧ n < 160
    · obtain ⟨hw1, hw2⟩ := hw
      have hj : (n - 128).toNat < 32 := by omega
      have HC := ctl_win _ hj
      have e : numZ n = (ctl.getD (n - 128).toNat 0 : Nat) := by unfold numZ; rw [if_pos ⟨hw1, hw2⟩]
      have hjn : (n - 128).toNat + 128 = n.toNat := by omega
      rw [hjn] at HC
      rw [e]
      clear hr e hjn
      obtain ⟨m, hm⟩ : ∃ m, win.getD (n - 128).toNat 0 = m := ⟨_, rfl⟩
      rw [hm] at HC
      rw [HC.1]
      have HM := hid hm
      clear hm
      have d1 : decide ((128 : Int) ≤ n) = true := decide_eq_true (by omega)
      have d2 : decide (n ≤ 159) = true := decide_eq_true (by omega)
      have hn0 : 0 ≤ n - 128 := by omega
      have hn1 : n - 128 < 32 := by omega
      by_cases hz : m = 0
      · rw [if_pos hz]
        have ez : ((m : Int) != 0) = false := by rw [hz]; rfl
        clear HC hz
        go_enter Tryz.func69, Tryz.ntmps69
        go_wp2_with fail
        refine HR.out.mono ?_
        rintro e w' ⟨rfl, rfl⟩
        go_wp2_with fail
        refine (rwindow_any _).mono ?_
        rintro e w' ⟨g, rfl, hb, hc⟩
        have hcell := hc _ hj
        rw [HM.out] at hcell
        clear hc
        have H3 := hid hb
        clear hb
        go_wp2
        go_ret
        exact ⟨ret_i32 (by omega), H3.out⟩
      · rw [if_neg hz]
        have hlt := HC.2
        have ez : ((m : Int) != 0) = true := bne_iff_ne.2 (fun h => hz (by omega))
        clear HC hz
        go_enter Tryz.func69, Tryz.ntmps69
        go_wp2_with fail
        refine HR.out.mono ?_
        rintro e w' ⟨rfl, rfl⟩
        go_wp2_with fail
        refine (rwindow_any _).mono ?_
        rintro e w' ⟨g, rfl, hb, hc⟩
        have hcell := hc _ hj
        rw [HM.out] at hcell
        clear hc
        have H3 := hid hb
        clear hb
        go_wp2
        go_ret
        exact ⟨rfl, H3.out⟩
    · have e : numZ n = n := by unfold numZ charZ; rw [if_neg hw, if_pos hr]
      rw [e]
      clear e
      rcases (show n < 128 ∨ (128 ≤ n ∧ 159 < n) by omega) with h | ⟨h, h2⟩
      all_goals
        clear hw hr
        go_enter Tryz.func69, Tryz.ntmps69
        go_wp2_with fail
        refine HR.out.mono ?_
        rintro e w' ⟨rfl, rfl⟩
        go_wp2
        go_ret
        exact ⟨rfl, Below.refl _ _⟩
end Go.Proofs.YtgldgdopabmefaaGreatDoor
namespace Go.Proofs.YtgldgdopabmefaaGreatDoor
open Go.RowKit Go.Lib Ent
set_option maxRecDepth 100000
set_option linter.unusedVariables false

def rowCells (r : Row) : List Value := [.string ⟨(nm r).toArray⟩, .string ⟨(isOf r).toArray⟩, .bool (bare r)]
def tabCells : List Value := tab.flatMap rowCells
/-- From the head of block g on lies the table. -/
def NamesAt (w : World) (g : Nat) : Prop := ∀ i (h : i < tab.length), w.cell? ⟨g, i * 3, none⟩ = some (.string ⟨(nm tab[i]).toArray⟩) ∧ w.cell? ⟨g, i * 3 + 1, none⟩ = some (.string ⟨(isOf tab[i]).toArray⟩) ∧ w.cell? ⟨g, i * 3 + 2, none⟩ = some (.bool (bare tab[i]))
theorem NamesAt.below {w w' : World} {g : Nat} (h : NamesAt w g) (hb : Below w.heap.size w w') : NamesAt w' g := by
  intro i hi
  obtain ⟨h1, h2, h3⟩ := h i hi
  exact ⟨(hb.cell (World.block_lt_of_cell? _ _ h1)).trans h1, (hb.cell (World.block_lt_of_cell? _ _ h2)).trans h2, (hb.cell (World.block_lt_of_cell? _ _ h3)).trans h3⟩
theorem flat_get : ∀ (t : List Row) (i : Nat) (h : i < t.length), (t.flatMap rowCells)[i * 3]? = some (.string ⟨(nm t[i]).toArray⟩) ∧ (t.flatMap rowCells)[i * 3 + 1]? = some (.string ⟨(isOf t[i]).toArray⟩) ∧ (t.flatMap rowCells)[i * 3 + 2]? = some (.bool (bare t[i]))
  | [], i, h => by simp at h
  | r :: t, 0, h => by simp [rowCells]
  | r :: t, i + 1, h => by
    have h2 := flat_get t i (by simpa using h)
    have e0 : (i + 1) * 3 = i * 3 + 3 := by omega
    have e1 : (i + 1) * 3 + 1 = i * 3 + 1 + 3 := by omega
    have e2 : (i + 1) * 3 + 2 = i * 3 + 2 + 3 := by omega
    rw [e0]
    have hr : ∀ j, ((r :: t).flatMap rowCells)[j + 3]? = (t.flatMap rowCells)[j]? := fun j => by simp [rowCells]
    rw [show i * 3 + 3 + 1 = i * 3 + 1 + 3 by omega, show i * 3 + 3 + 2 = i * 3 + 2 + 3 by omega, hr, hr, hr]
    exact h2
theorem namesAt_alloc (w : World) (C : Array Value) (T : TypeId) (hC : C = tabCells.toArray) : NamesAt (w.alloc (.cells C T)) w.heap.size := by
  subst hC
  intro i hi
  rw [World.cell?_alloc_new, World.cell?_alloc_new, World.cell?_alloc_new, List.getElem?_toArray, List.getElem?_toArray, List.getElem?_toArray]
  exact flat_get tab i hi
def tabParts : Array (Nat × Value) := (tab.zipIdx.map fun p => (p.2, Value.agg (rowCells p.1).toArray)).toArray
/-- One row of the literal. -/
theorem wpList_name {w : World} {ops : Array Oper} {rest : List Oper} {o : Oper} {a : Act} {Q : Exit → Act → World → Prop} (hg : o.guard = none) (x y : ByteArray) (b : Bool)
    (ho : o.op = .build 113 #[(0, .const (.string x)), (1, .const (.string y)), (2, .const (.bool b))])
    (k : wpList Tryz.prog ops Q rest (a.put o.dst (.agg #[.string x, .string y, .bool b])) w) : wpList Tryz.prog ops Q (o :: rest) a w := by
  refine wpList_plain hg fun K hK => ?_
  have hrun : (Instr.build 113 #[(0, .string x), (1, .string y), (2, .bool b)]).run Tryz.prog w = .ok (.agg #[.string x, .string y, .bool b]) w := by kernel_rfl
  unfold Oper.wp
  simp only [execOp, ho, List.map_toArray, List.map_cons, List.map_nil, Act.eval]
  rw [show ((do pure (Next.value (← Instr.build 113 #[(0, .string x), (1, .string y), (2, .bool b)])) : Sem Next).run Tryz.prog w) = .ok (.value (.agg #[.string x, .string y, .bool b])) w by simp [hrun, Result.andThen]]
  exact hK _ _ k
theorem run_names (w : World) : (Instr.buildSlice 110 98 tabParts).run Tryz.prog w = .ok (.slice (some ⟨w.heap.size, 0, none⟩) 98 98) (w.alloc (.cells tabCells.toArray 113)) := by kernel_rfl
/-- The end of the literal. -/
theorem wpList_namesEnd {w : World} {ops : Array Oper} {o1 o2 : Oper} {a : Act} {Q : Exit → Act → World → Prop} (g1 : o1.guard = none) (g2 : o2.guard = none) (ps : Array (Nat × Operand)) (h1 : o1.op = .buildSlice 110 98 ps) (d1 : o1.dst = some 99)
    (h2 : o2.op = .assign (.tmp 99)) (d2 : o2.dst = some 0) (hv : (ps.map fun p => (p.1, a.eval p.2)) = tabParts) (hsz : a.tmps.size = 100) (hd : a.defers = [])
    (k : ∀ T : Array Value, T.getD 0 undef = .slice (some ⟨w.heap.size, 0, none⟩) 98 98 → Q .normal ⟨T, []⟩ (w.alloc (.cells tabCells.toArray 113))) : wpList Tryz.prog ops Q [o1, o2] a w := by
  refine wpList_plain g1 fun K hK => ?_
  have hrun := run_names w
  unfold Oper.wp
  simp only [execOp, h1]
  rw [hv]
  rw [show ((do pure (Next.value (← Instr.buildSlice 110 98 tabParts)) : Sem Next).run Tryz.prog w) = .ok (.value (.slice (some ⟨w.heap.size, 0, none⟩) 98 98)) (w.alloc (.cells tabCells.toArray 113)) by simp [hrun, Result.andThen]]
  refine hK _ _ ?_
  refine wpList_plain g2 fun K2 hK2 => ?_
  unfold Oper.wp
  simp only [execOp, h2]
  refine hK2 _ _ ?_
  show Q .normal _ _
  obtain ⟨T, D⟩ := a
  subst hd
  rw [d1, d2]
  refine k _ ?_
  simp only [Act.put, Act.eval]
  have hs : T.size = 100 := hsz
  simp [Array.getD, hs]
set_option maxHeartbeats 4000000 in
theorem rnames_any (w : World) :
    Calls Tryz.prog 97 #[] w fun e w' => ∃ g, e = .returned (.slice (some ⟨g, 0, none⟩) 98 98) ∧ Below w.heap.size w w' ∧ NamesAt w' g := by
  go_enter Tryz.func97, Tryz.ntmps97
  go_wp2_with (first | (refine wpList_name rfl _ _ _ rfl ?_) | (refine wpList_namesEnd rfl rfl _ rfl rfl rfl rfl (by kernel_rfl) (by kernel_rfl) rfl ?_; intro T hT))
  refine bodyPost_ret (results_tmp rfl _ _ _) rfl ?_
  exact ⟨w.heap.size, by rw [hT], (Below.refl _ _).alloc (Nat.le_refl _) _, namesAt_alloc w _ _ rfl⟩
end Go.Proofs.YtgldgdopabmefaaGreatDoor
namespace Go.Proofs.YtgldgdopabmefaaGreatDoor
open Go.RowKit Go.Lib Ent
set_option maxRecDepth 100000
set_option linter.unusedVariables false

/-- What the first k rows come to. -/
def accN (l : List UInt8) (k : Nat) : List UInt8 × Nat := (tab.take k).foldl (stepN l) ([], 0)
theorem accN_succ (l : List UInt8) (k : Nat) (h : k < tab.length) : accN l (k + 1) = stepN l (accN l k) tab[k] := fold_take l k h
theorem accN_all (l : List UInt8) : accN l 98 = named l := by
  unfold accN named
  rw [List.take_of_length_le (by rw [tab_size]; exact Nat.le_refl _)]
theorem stepN_le {l : List UInt8} {a : List UInt8 × Nat} {r : Row} (hr : r ∈ tab) (h : a.2 ≤ 8) : (stepN l a r).2 ≤ 8 := by
  have := tab_len r hr
  unfold stepN
  simp only
  repeat' split
  all_goals first | omega | (simp only; omega)
theorem cat_list (X Y : ByteArray) : (X ++ Y).data.toList = X.data.toList ++ Y.data.toList := by
  rw [ByteArray.data_append]; simp
theorem cat_size (X Y : ByteArray) : (X ++ Y).size = X.size + Y.size := by
  rw [size_eq, size_eq, size_eq, cat_list, List.length_append]

set_option maxHeartbeats 4000000 in
theorem rnamed_any (s : ByteArray) (w : World) (hs : s.size ≤ 1000000) :
    Calls Tryz.prog 70 #[.string s] w fun e w' => e = .returned (.tuple #[.string ⟨(named s.data.toList).1.toArray⟩, .int .i64 (named s.data.toList).2]) ∧ Below w.heap.size w w' := by
  go_enter Tryz.func70, Tryz.ntmps70
  go_wp2_with fail
  refine (rnames_any w).mono ?_
  rintro e w1 ⟨g, rfl, hb, hN⟩
  have HB := hid hb
  have HN := hid hN
  clear hb hN
  go_wp2
  go_loop [5, 6, 7] (fun is n i => ∃ k : Nat, k ≤ 98 ∧ i = .int .i64 k ∧ is = .string ⟨(accN s.data.toList k).1.toArray⟩ ∧ n = .int .i64 (accN s.data.toList k).2 ∧ (accN s.data.toList k).2 ≤ 8) (fun _ _ i => 98 - (RowKit.intOf i).toNat)
  case atStart => exact ⟨0, by omega, rfl, rfl, rfl, Nat.zero_le _⟩
  case round =>
    obtain ⟨k, hk, rfl, rfl, rfl, h8⟩ := hrel
    by_cases hlt : k < 98
    · have hr : tab[k]'hlt ∈ tab := List.getElem_mem _
      obtain ⟨c0, c1, c2⟩ := HN.out k hlt
      have hlen := tab_len _ hr
      have hS := accN_succ s.data.toList k hlt
      have hS8 := stepN_le (l := s.data.toList) hr h8
      rw [← hS] at hS8
      generalize tab[k]'hlt = r at *
      obtain ⟨X, hX⟩ : ∃ X : ByteArray, X = ⟨(nm r).toArray⟩ := ⟨_, rfl⟩
      obtain ⟨Y, hY⟩ : ∃ Y : ByteArray, Y = ⟨(isOf r).toArray⟩ := ⟨_, rfl⟩
      have hXl : X.data.toList = nm r := by rw [hX]
      have hXs : X.size = (nm r).length := by rw [size_eq, hXl]
      rw [← hX] at c0
      rw [← hY] at c1
      have HB1 := fun w => rbegins_any s (X ++ ⟨#[59]⟩) w hs (by rw [cat_size]; show X.size + 1 ≤ _; omega)
      have HB2 := fun w => rbegins_any s X w hs (by omega)
      rw [cat_list, hXl] at HB1
      rw [hXl] at HB2
      rw [← hXs] at hlen
      obtain ⟨br, hbr⟩ : ∃ br, bare r = br := ⟨_, rfl⟩
      obtain ⟨b1, hb1⟩ : ∃ b1, (nm r ++ [59]).isPrefixOf s.data.toList = b1 := ⟨_, rfl⟩
      obtain ⟨b2, hb2⟩ : ∃ b2, (nm r).isPrefixOf s.data.toList = b2 := ⟨_, rfl⟩
      rw [show (⟨#[59]⟩ : ByteArray).data.toList = [59] from rfl, hb1] at HB1
      rw [hb2] at HB2
      rw [hbr] at c2
      have hS2 : accN s.data.toList (k + 1) = (fun a : List UInt8 × Nat => if br = true ∧ b2 = true ∧ a.2 < X.size then (isOf r, X.size) else a) (if b1 = true ∧ (accN s.data.toList k).2 < X.size + 1 then (isOf r, X.size + 1) else accN s.data.toList k) := by
        rw [hS]
        unfold stepN
        simp only [hb1, hb2, hbr, hXs]
      have hYi : (⟨(isOf r).toArray⟩ : ByteArray) = Y := hY.symm
      have hlen2 := hlen.2
      have HA := hid hS2
      have HY := hid hYi
      have H8 := hid hS8
      have H1 := hid HB1
      have H2 := hid HB2
      clear hS hS8 hX hY hXl hXs HB1 HB2 hb1 hb2 hbr hS2 hYi hlen hr HN
      obtain ⟨p, hp⟩ : ∃ p, accN s.data.toList k = p := ⟨_, rfl⟩
      obtain ⟨pi, pn⟩ := p
      rw [hp] at HA h8 ⊢
      clear hp
      simp only at HA h8 ⊢
      cases b1 with
      | false =>
        cases br with
        | false =>
          have HF := hid (show accN s.data.toList (k + 1) = (pi, pn) by rw [HA.out]; first | (simp; done) | (simp; omega) | (simp [q1]; done) | (simp [q2]; done) | (simp only [q1]; simp; omega) | (simp [q1]; omega))
          rw [HF.out] at H8
          clear HA
          go_wp2_with fail
          refine (H1.out _).mono ?_
          rintro e w' ⟨rfl, rfl⟩
          go_wp2
          go_round
          case rel => exact ⟨k + 1, by omega, by go_num, by rw [HF.out] <;> rfl, by rw [HF.out] <;> rfl, by rw [HF.out] <;> exact H8.out⟩
          case measure => simp [RowKit.intOf]; omega
        | true =>
          cases b2 with
          | false =>
            have HF := hid (show accN s.data.toList (k + 1) = (pi, pn) by rw [HA.out]; first | (simp; done) | (simp; omega) | (simp [q1]; done) | (simp [q2]; done) | (simp only [q1]; simp; omega) | (simp [q1]; omega))
            rw [HF.out] at H8
            clear HA
            go_wp2_with fail
            refine (H1.out _).mono ?_
            rintro e w' ⟨rfl, rfl⟩
            go_wp2_with fail
            refine (H2.out _).mono ?_
            rintro e w' ⟨rfl, rfl⟩
            go_wp2
            go_round
            case rel => exact ⟨k + 1, by omega, by go_num, by rw [HF.out] <;> rfl, by rw [HF.out] <;> rfl, by rw [HF.out] <;> exact H8.out⟩
            case measure => simp [RowKit.intOf]; omega
          | true =>
            by_cases q2 : pn < X.size
            · have HF := hid (show accN s.data.toList (k + 1) = (isOf r, X.size) by rw [HA.out]; first | (simp; done) | (simp; omega) | (simp [q1]; done) | (simp [q2]; done) | (simp only [q1]; simp; omega) | (simp [q1]; omega))
              rw [HF.out] at H8
              clear HA
              go_wp2_with fail
              refine (H1.out _).mono ?_
              rintro e w' ⟨rfl, rfl⟩
              go_wp2_with fail
              refine (H2.out _).mono ?_
              rintro e w' ⟨rfl, rfl⟩
              go_wp2
              go_round
              case rel => exact ⟨k + 1, by omega, by go_num, by rw [HF.out] <;> exact congrArg Value.string HY.out.symm, by rw [HF.out] <;> rfl, by rw [HF.out] <;> exact H8.out⟩
              case measure => simp [RowKit.intOf]; omega
            · have HF := hid (show accN s.data.toList (k + 1) = (pi, pn) by rw [HA.out]; first | (simp; done) | (simp; omega) | (simp [q1]; done) | (simp [q2]; done) | (simp only [q1]; simp; omega) | (simp [q1]; omega))
              rw [HF.out] at H8
              clear HA
              go_wp2_with fail
              refine (H1.out _).mono ?_
              rintro e w' ⟨rfl, rfl⟩
              go_wp2_with fail
              refine (H2.out _).mono ?_
              rintro e w' ⟨rfl, rfl⟩
              go_wp2
              go_round
              case rel => exact ⟨k + 1, by omega, by go_num, by rw [HF.out] <;> rfl, by rw [HF.out] <;> rfl, by rw [HF.out] <;> exact H8.out⟩
              case measure => simp [RowKit.intOf]; omega
      | true =>
        by_cases q1 : pn < X.size + 1
        · cases br with
          | false =>
            have HF := hid (show accN s.data.toList (k + 1) = (isOf r, X.size + 1) by rw [HA.out]; first | (simp; done) | (simp; omega) | (simp [q1]; done) | (simp [q2]; done) | (simp only [q1]; simp; omega) | (simp [q1]; omega))
            rw [HF.out] at H8
            clear HA
            go_wp2_with fail
            refine (H1.out _).mono ?_
            rintro e w' ⟨rfl, rfl⟩
            go_wp2
            go_round
            case rel => exact ⟨k + 1, by omega, by go_num, by rw [HF.out] <;> exact congrArg Value.string HY.out.symm, by rw [HF.out] <;> rfl, by rw [HF.out] <;> exact H8.out⟩
            case measure => simp [RowKit.intOf]; omega
          | true =>
            cases b2 with
            | false =>
              have HF := hid (show accN s.data.toList (k + 1) = (isOf r, X.size + 1) by rw [HA.out]; first | (simp; done) | (simp; omega) | (simp [q1]; done) | (simp [q2]; done) | (simp only [q1]; simp; omega) | (simp [q1]; omega))
              rw [HF.out] at H8
              clear HA
              go_wp2_with fail
              refine (H1.out _).mono ?_
              rintro e w' ⟨rfl, rfl⟩
              go_wp2_with fail
              refine (H2.out _).mono ?_
              rintro e w' ⟨rfl, rfl⟩
              go_wp2
              go_round
              case rel => exact ⟨k + 1, by omega, by go_num, by rw [HF.out] <;> exact congrArg Value.string HY.out.symm, by rw [HF.out] <;> rfl, by rw [HF.out] <;> exact H8.out⟩
              case measure => simp [RowKit.intOf]; omega
            | true =>
              have HF := hid (show accN s.data.toList (k + 1) = (isOf r, X.size + 1) by rw [HA.out]; first | (simp; done) | (simp; omega) | (simp [q1]; done) | (simp [q2]; done) | (simp only [q1]; simp; omega) | (simp [q1]; omega))
              rw [HF.out] at H8
              clear HA
              go_wp2_with fail
              refine (H1.out _).mono ?_
              rintro e w' ⟨rfl, rfl⟩
              go_wp2_with fail
              refine (H2.out _).mono ?_
              rintro e w' ⟨rfl, rfl⟩
              go_wp2
              go_round
              case rel => exact ⟨k + 1, by omega, by go_num, by rw [HF.out] <;> exact congrArg Value.string HY.out.symm, by rw [HF.out] <;> rfl, by rw [HF.out] <;> exact H8.out⟩
              case measure => simp [RowKit.intOf]; omega
        · have q2 : ¬ pn < X.size := by omega
          cases br with
          | false =>
            have HF := hid (show accN s.data.toList (k + 1) = (pi, pn) by rw [HA.out]; first | (simp; done) | (simp; omega) | (simp [q1]; done) | (simp [q2]; done) | (simp only [q1]; simp; omega) | (simp [q1]; omega))
            rw [HF.out] at H8
            clear HA
            go_wp2_with fail
            refine (H1.out _).mono ?_
            rintro e w' ⟨rfl, rfl⟩
            go_wp2
            go_round
            case rel => exact ⟨k + 1, by omega, by go_num, by rw [HF.out] <;> rfl, by rw [HF.out] <;> rfl, by rw [HF.out] <;> exact H8.out⟩
            case measure => simp [RowKit.intOf]; omega
          | true =>
            cases b2 with
            | false =>
              have HF := hid (show accN s.data.toList (k + 1) = (pi, pn) by rw [HA.out]; first | (simp; done) | (simp; omega) | (simp [q1]; done) | (simp [q2]; done) | (simp only [q1]; simp; omega) | (simp [q1]; omega))
              rw [HF.out] at H8
              clear HA
              go_wp2_with fail
              refine (H1.out _).mono ?_
              rintro e w' ⟨rfl, rfl⟩
              go_wp2_with fail
              refine (H2.out _).mono ?_
              rintro e w' ⟨rfl, rfl⟩
              go_wp2
              go_round
              case rel => exact ⟨k + 1, by omega, by go_num, by rw [HF.out] <;> rfl, by rw [HF.out] <;> rfl, by rw [HF.out] <;> exact H8.out⟩
              case measure => simp [RowKit.intOf]; omega
            | true =>
              have HF := hid (show accN s.data.toList (k + 1) = (pi, pn) by have e1 : (if true = true ∧ pn < X.size + 1 then (isOf r, X.size + 1) else (pi, pn)) = (pi, pn) := if_neg (fun h => q1 h.2); rw [HA.out, e1]; exact if_neg (fun h => q2 h.2.2))
              rw [HF.out] at H8
              clear HA
              go_wp2_with fail
              refine (H1.out _).mono ?_
              rintro e w' ⟨rfl, rfl⟩
              go_wp2_with fail
              refine (H2.out _).mono ?_
              rintro e w' ⟨rfl, rfl⟩
              go_wp2
              go_round
              case rel => exact ⟨k + 1, by omega, by go_num, by rw [HF.out] <;> rfl, by rw [HF.out] <;> rfl, by rw [HF.out] <;> exact H8.out⟩
              case measure => simp [RowKit.intOf]; omega
    · obtain rfl : k = 98 := by omega
      rw [accN_all]
      go_wp2
      go_ret2
      exact ⟨rfl, HB.out⟩
end Go.Proofs.YtgldgdopabmefaaGreatDoor
