/- Walks over the reference of layer 3: the table of names as it is made. -/
import Derived.Test.YtlikpmmkfjghbaaDoorRefEnt
namespace Go.Proofs.YtlikpmmkfjghbaaDoor
open Go.RowKit Go.Lib Ent
set_option maxRecDepth 100000
set_option linter.unusedVariables false

def rowCells (r : Row) : List Value := [.string ⟨(nm r).toArray⟩, .string ⟨(isOf r).toArray⟩, .bool (bare r)]
def tabCells : List Value := tab.flatMap rowCells
/-- From the head of block g on lies the table. -/
def NamesAt (w : World) (g : Nat) : Prop := ∀ i (h : i < tab.length), w.cell? ⟨g, i * 3, none⟩ = some (.string ⟨(nm tab[i]).toArray⟩) ∧ w.cell? ⟨g, i * 3 + 1, none⟩ = some (.string ⟨(isOf tab[i]).toArray⟩) ∧ w.cell? ⟨g, i * 3 + 2, none⟩ = some (.bool (bare tab[i]))
theorem NamesAt.below {w w' : World} {g : Nat} (h : NamesAt w g) (hb : Below w.heap.size w w') : NamesAt w' g := by
  intro i hi
  obtain ⟨h1, h2, h3⟩ := h i hi
  exact ⟨(hb.cell (World.block_lt_of_cell? _ _ h1)).trans h1, (hb.cell (World.block_lt_of_cell? _ _ h2)).trans h2, (hb.cell (World.block_lt_of_cell? _ _ h3)).trans h3⟩
theorem flat_get : ∀ (t : List Row) (i : Nat) (h : i < t.length), (t.flatMap rowCells)[i * 3]? = some (.string ⟨(nm t[i]).toArray⟩) ∧ (t.flatMap rowCells)[i * 3 + 1]? = some (.string ⟨(isOf t[i]).toArray⟩) ∧ (t.flatMap rowCells)[i * 3 + 2]? = some (.bool (bare t[i]))
  | [], i, h => by simp at h
  | r :: t, 0, h => by simp [rowCells]
  | r :: t, i + 1, h => by
    have h2 := flat_get t i (by simpa using h)
    have e0 : (i + 1) * 3 = i * 3 + 3 := by omega
    have e1 : (i + 1) * 3 + 1 = i * 3 + 1 + 3 := by omega
    have e2 : (i + 1) * 3 + 2 = i * 3 + 2 + 3 := by omega
    rw [e0]
    have hr : ∀ j, ((r :: t).flatMap rowCells)[j + 3]? = (t.flatMap rowCells)[j]? := fun j => by simp [rowCells]
    rw [show i * 3 + 3 + 1 = i * 3 + 1 + 3 by omega, show i * 3 + 3 + 2 = i * 3 + 2 + 3 by omega, hr, hr, hr]
    exact h2
theorem namesAt_alloc (w : World) (C : Array Value) (T : TypeId) (hC : C = tabCells.toArray) : NamesAt (w.alloc (.cells C T)) w.heap.size := by
  subst hC
  intro i hi
  rw [World.cell?_alloc_new, World.cell?_alloc_new, World.cell?_alloc_new, List.getElem?_toArray, List.getElem?_toArray, List.getElem?_toArray]
  exact flat_get tab i hi
def tabParts : Array (Nat × Value) := (tab.zipIdx.map fun p => (p.2, Value.agg (rowCells p.1).toArray)).toArray
/-- One row of the literal. -/
theorem wpList_name {w : World} {ops : Array Oper} {rest : List Oper} {o : Oper} {a : Act} {Q : Exit → Act → World → Prop} (hg : o.guard = none) (x y : ByteArray) (b : Bool)
    (ho : o.op = .build 79 #[(0, .const (.string x)), (1, .const (.string y)), (2, .const (.bool b))])
    (k : wpList Tryd.prog ops Q rest (a.put o.dst (.agg #[.string x, .string y, .bool b])) w) : wpList Tryd.prog ops Q (o :: rest) a w := by
  refine wpList_plain hg fun K hK => ?_
  have hrun : (Instr.build 79 #[(0, .string x), (1, .string y), (2, .bool b)]).run Tryd.prog w = .ok (.agg #[.string x, .string y, .bool b]) w := by kernel_rfl
  unfold Oper.wp
  simp only [execOp, ho, List.map_toArray, List.map_cons, List.map_nil, Act.eval]
  rw [show ((do pure (Next.value (← Instr.build 79 #[(0, .string x), (1, .string y), (2, .bool b)])) : Sem Next).run Tryd.prog w) = .ok (.value (.agg #[.string x, .string y, .bool b])) w by simp [hrun, Result.andThen]]
  exact hK _ _ k
theorem run_names (w : World) : (Instr.buildSlice 76 98 tabParts).run Tryd.prog w = .ok (.slice (some ⟨w.heap.size, 0, none⟩) 98 98) (w.alloc (.cells tabCells.toArray 79)) := by kernel_rfl
/-- The end of the literal. -/
theorem wpList_namesEnd {w : World} {ops : Array Oper} {o1 o2 : Oper} {a : Act} {Q : Exit → Act → World → Prop} (g1 : o1.guard = none) (g2 : o2.guard = none) (ps : Array (Nat × Operand)) (h1 : o1.op = .buildSlice 76 98 ps) (d1 : o1.dst = some 99)
    (h2 : o2.op = .assign (.tmp 99)) (d2 : o2.dst = some 0) (hv : (ps.map fun p => (p.1, a.eval p.2)) = tabParts) (hsz : a.tmps.size = 100) (hd : a.defers = [])
    (k : ∀ T : Array Value, T.getD 0 undef = .slice (some ⟨w.heap.size, 0, none⟩) 98 98 → Q .normal ⟨T, []⟩ (w.alloc (.cells tabCells.toArray 79))) : wpList Tryd.prog ops Q [o1, o2] a w := by
  refine wpList_plain g1 fun K hK => ?_
  have hrun := run_names w
  unfold Oper.wp
  simp only [execOp, h1]
  rw [hv]
  rw [show ((do pure (Next.value (← Instr.buildSlice 76 98 tabParts)) : Sem Next).run Tryd.prog w) = .ok (.value (.slice (some ⟨w.heap.size, 0, none⟩) 98 98)) (w.alloc (.cells tabCells.toArray 79)) by simp [hrun, Result.andThen]]
  refine hK _ _ ?_
  refine wpList_plain g2 fun K2 hK2 => ?_
  unfold Oper.wp
  simp only [execOp, h2]
  refine hK2 _ _ ?_
  show Q .normal _ _
  obtain ⟨T, D⟩ := a
  subst hd
  rw [d1, d2]
  refine k _ ?_
  simp only [Act.put, Act.eval]
  have hs : T.size = 100 := hsz
  simp [Array.getD, hs]
set_option maxHeartbeats 4000000 in
theorem rnames_any (w : World) :
    Calls Tryd.prog 64 #[] w fun e w' => ∃ g, e = .returned (.slice (some ⟨g, 0, none⟩) 98 98) ∧ Below w.heap.size w w' ∧ NamesAt w' g := by
  go_enter Tryd.func64, Tryd.ntmps64
  go_wp2_with (first | (refine wpList_name rfl _ _ _ rfl ?_) | (refine wpList_namesEnd rfl rfl _ rfl rfl rfl rfl (by kernel_rfl) (by kernel_rfl) rfl ?_; intro T hT))
  refine bodyPost_ret (results_tmp rfl _ _ _) rfl ?_
  exact ⟨w.heap.size, by rw [hT], (Below.refl _ _).alloc (Nat.le_refl _) _, namesAt_alloc w _ _ rfl⟩
end Go.Proofs.YtlikpmmkfjghbaaDoor
