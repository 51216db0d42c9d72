/- Walks: Base, the program's and the reference's. -/
import Derived.Test.YtpheaepifjcmiaaDoorLent
import Derived.Handy
namespace Go.Proofs.YtpheaepifjcmiaaDoor
open Go.RowKit Go.Lib Rule
set_option maxRecDepth 100000
set_option linter.unusedVariables false

def bEl : List (List UInt8) := [[97], [98, 108, 111, 99, 107, 113, 117, 111, 116, 101], [98, 114], [99, 111, 100, 101], [101, 109], [104, 49], [104, 50], [104, 51], [104, 52], [104, 53], [104, 54], [104, 114], [105, 109, 103], [108, 105], [111, 108], [112], [112, 114, 101], [115, 116, 114, 111, 110, 103], [116, 97, 98, 108, 101], [116, 98, 111, 100, 121], [116, 100], [116, 102, 111, 111, 116], [116, 104], [116, 104, 101, 97, 100], [116, 114], [117, 108]]
def bAt : List (List UInt8 × List UInt8) := [([97], [104, 114, 101, 102]), ([97], [116, 105, 116, 108, 101]), ([105, 109, 103], [115, 114, 99]), ([105, 109, 103], [97, 108, 116]), ([105, 109, 103], [116, 105, 116, 108, 101]), ([111, 108], [115, 116, 97, 114, 116]), ([99, 111, 100, 101], [99, 108, 97, 115, 115]), ([116, 100], [97, 108, 105, 103, 110]), ([116, 104], [97, 108, 105, 103, 110])]
def bSc : List (List UInt8) := [[104, 116, 116, 112], [104, 116, 116, 112, 115], [109, 97, 105, 108, 116, 111]]
/-- A new policy: three rows in blocks of their own. -/
def BaseE (w : World) (e : Ending) (w' : World) : Prop :=
  e = .returned (.agg #[.slice (some ⟨w.heap.size + 1, 0, none⟩) 26 26, .slice (some ⟨w.heap.size + 1 + 1, 0, none⟩) 9 9, .slice (some ⟨w.heap.size + 1 + 1 + 1, 0, none⟩) 3 3]) ∧
    BlkW w' (w.heap.size + 1) (strsL bEl).toArray 9 ∧ BlkW w' (w.heap.size + 1 + 1) (pairL bAt).toArray 36 ∧ BlkW w' (w.heap.size + 1 + 1 + 1) (strsL bSc).toArray 9 ∧ Below w.heap.size w w'
theorem strs_bEl : (strsL bEl).toArray = (#[.string ⟨#[97]⟩, .string ⟨#[98, 108, 111, 99, 107, 113, 117, 111, 116, 101]⟩, .string ⟨#[98, 114]⟩, .string ⟨#[99, 111, 100, 101]⟩, .string ⟨#[101, 109]⟩, .string ⟨#[104, 49]⟩, .string ⟨#[104, 50]⟩, .string ⟨#[104, 51]⟩, .string ⟨#[104, 52]⟩, .string ⟨#[104, 53]⟩, .string ⟨#[104, 54]⟩, .string ⟨#[104, 114]⟩, .string ⟨#[105, 109, 103]⟩, .string ⟨#[108, 105]⟩, .string ⟨#[111, 108]⟩, .string ⟨#[112]⟩, .string ⟨#[112, 114, 101]⟩, .string ⟨#[115, 116, 114, 111, 110, 103]⟩, .string ⟨#[116, 97, 98, 108, 101]⟩, .string ⟨#[116, 98, 111, 100, 121]⟩, .string ⟨#[116, 100]⟩, .string ⟨#[116, 102, 111, 111, 116]⟩, .string ⟨#[116, 104]⟩, .string ⟨#[116, 104, 101, 97, 100]⟩, .string ⟨#[116, 114]⟩, .string ⟨#[117, 108]⟩] : Array Value) := rfl
theorem pairs_bAt : (pairL bAt).toArray = (#[.string ⟨#[97]⟩, .string ⟨#[104, 114, 101, 102]⟩, .string ⟨#[97]⟩, .string ⟨#[116, 105, 116, 108, 101]⟩, .string ⟨#[105, 109, 103]⟩, .string ⟨#[115, 114, 99]⟩, .string ⟨#[105, 109, 103]⟩, .string ⟨#[97, 108, 116]⟩, .string ⟨#[105, 109, 103]⟩, .string ⟨#[116, 105, 116, 108, 101]⟩, .string ⟨#[111, 108]⟩, .string ⟨#[115, 116, 97, 114, 116]⟩, .string ⟨#[99, 111, 100, 101]⟩, .string ⟨#[99, 108, 97, 115, 115]⟩, .string ⟨#[116, 100]⟩, .string ⟨#[97, 108, 105, 103, 110]⟩, .string ⟨#[116, 104]⟩, .string ⟨#[97, 108, 105, 103, 110]⟩] : Array Value) := rfl
theorem strs_bSc : (strsL bSc).toArray = (#[.string ⟨#[104, 116, 116, 112]⟩, .string ⟨#[104, 116, 116, 112, 115]⟩, .string ⟨#[109, 97, 105, 108, 116, 111]⟩] : Array Value) := rfl
/-- The world behind it. -/
def baseW (w : World) : World :=
  (((w.alloc (.cells #[.slice (some ⟨w.heap.size + 1, 0, none⟩) 26 26, .slice (some ⟨w.heap.size + 1 + 1, 0, none⟩) 9 9, .slice (some ⟨w.heap.size + 1 + 1 + 1, 0, none⟩) 3 3] 25)).alloc (.cells (strsL bEl).toArray 9)).alloc (.cells (pairL bAt).toArray 36)).alloc (.cells (strsL bSc).toArray 9)
theorem baseW_size (w : World) : (baseW w).heap.size = w.heap.size + 1 + 1 + 1 + 1 := by unfold baseW; simp
theorem baseW_res (w : World) : BlkW (baseW w) w.heap.size #[.slice (some ⟨w.heap.size + 1, 0, none⟩) 26 26, .slice (some ⟨w.heap.size + 1 + 1, 0, none⟩) 9 9, .slice (some ⟨w.heap.size + 1 + 1 + 1, 0, none⟩) 3 3] 25 :=
  (((BlkW.new w _ _).alloc _).alloc _).alloc _
theorem base_facts (w : World) : BaseE w (.returned (.agg #[.slice (some ⟨w.heap.size + 1, 0, none⟩) 26 26, .slice (some ⟨w.heap.size + 1 + 1, 0, none⟩) 9 9, .slice (some ⟨w.heap.size + 1 + 1 + 1, 0, none⟩) 3 3])) (baseW w) := by
  refine ⟨rfl, ?_, ?_, ?_, ?_⟩
  · unfold baseW
    generalize (.cells #[.slice (some ⟨w.heap.size + 1, 0, none⟩) 26 26, .slice (some ⟨w.heap.size + 1 + 1, 0, none⟩) 9 9, .slice (some ⟨w.heap.size + 1 + 1 + 1, 0, none⟩) 3 3] 25 : Obj) = o
    have h := ((BlkW.new (w.alloc o) (strsL bEl).toArray 9).alloc (.cells (pairL bAt).toArray 36)).alloc (.cells (strsL bSc).toArray 9)
    generalize (strsL bEl).toArray = x at *
    generalize (pairL bAt).toArray = y at *
    generalize (strsL bSc).toArray = z at *
    simpa using h
  · unfold baseW
    generalize (.cells #[.slice (some ⟨w.heap.size + 1, 0, none⟩) 26 26, .slice (some ⟨w.heap.size + 1 + 1, 0, none⟩) 9 9, .slice (some ⟨w.heap.size + 1 + 1 + 1, 0, none⟩) 3 3] 25 : Obj) = o
    have h := (BlkW.new ((w.alloc o).alloc (.cells (strsL bEl).toArray 9)) (pairL bAt).toArray 36).alloc (.cells (strsL bSc).toArray 9)
    generalize (strsL bEl).toArray = x at *
    generalize (pairL bAt).toArray = y at *
    generalize (strsL bSc).toArray = z at *
    simpa using h
  · unfold baseW
    generalize (.cells #[.slice (some ⟨w.heap.size + 1, 0, none⟩) 26 26, .slice (some ⟨w.heap.size + 1 + 1, 0, none⟩) 9 9, .slice (some ⟨w.heap.size + 1 + 1 + 1, 0, none⟩) 3 3] 25 : Obj) = o
    have h := BlkW.new (((w.alloc o).alloc (.cells (strsL bEl).toArray 9)).alloc (.cells (pairL bAt).toArray 36)) (strsL bSc).toArray 9
    generalize (strsL bEl).toArray = x at *
    generalize (pairL bAt).toArray = y at *
    generalize (strsL bSc).toArray = z at *
    simpa using h
  · unfold baseW
    exact ((((Below.refl _ _).alloc (Nat.le_refl _) _).alloc (by simp) _).alloc (by simp; omega) _).alloc (by simp; omega) _
set_option maxHeartbeats 4000000 in
theorem base_any (w : World) : Calls Tryd.prog 13 #[] w (BaseE w) := by
  have hF := hid (base_facts w)
  have hW : Hid (baseW w = _) := hid (by unfold baseW; rw [strs_bEl, pairs_bAt, strs_bSc])
  go_enter Tryd.func13, Tryd.ntmps13
  go_wp2
  have r0 : (baseW w).cell? ⟨w.heap.size, 0, none⟩ = some (.slice (some ⟨w.heap.size + 1, 0, none⟩) 26 26) := (baseW_res w).cell 0
  have r1 : (baseW w).cell? ⟨w.heap.size, 1, none⟩ = some (.slice (some ⟨w.heap.size + 1 + 1, 0, none⟩) 9 9) := (baseW_res w).cell 1
  have r2 : (baseW w).cell? ⟨w.heap.size, 2, none⟩ = some (.slice (some ⟨w.heap.size + 1 + 1 + 1, 0, none⟩) 3 3) := (baseW_res w).cell 2
  rw [← hW.out]
  generalize baseW w = W at *
  refine bodyPost_ret (v := .agg #[.slice (some ⟨w.heap.size + 1, 0, none⟩) 26 26, .slice (some ⟨w.heap.size + 1 + 1, 0, none⟩) 9 9, .slice (some ⟨w.heap.size + 1 + 1 + 1, 0, none⟩) 3 3]) (by simp [results, Tryd.results13, go_sem, r0, r1, r2]) rfl ?_
  exact hF.out
set_option maxHeartbeats 4000000 in
theorem rbase_any (w : World) : Calls Tryd.prog 14 #[] w (BaseE w) := by
  have hF := hid (base_facts w)
  have hW : Hid (baseW w = _) := hid (by unfold baseW; rw [strs_bEl, pairs_bAt, strs_bSc])
  go_enter Tryd.func14, Tryd.ntmps14
  go_wp2
  have r0 : (baseW w).cell? ⟨w.heap.size, 0, none⟩ = some (.slice (some ⟨w.heap.size + 1, 0, none⟩) 26 26) := (baseW_res w).cell 0
  have r1 : (baseW w).cell? ⟨w.heap.size, 1, none⟩ = some (.slice (some ⟨w.heap.size + 1 + 1, 0, none⟩) 9 9) := (baseW_res w).cell 1
  have r2 : (baseW w).cell? ⟨w.heap.size, 2, none⟩ = some (.slice (some ⟨w.heap.size + 1 + 1 + 1, 0, none⟩) 3 3) := (baseW_res w).cell 2
  rw [← hW.out]
  generalize baseW w = W at *
  refine bodyPost_ret (v := .agg #[.slice (some ⟨w.heap.size + 1, 0, none⟩) 26 26, .slice (some ⟨w.heap.size + 1 + 1, 0, none⟩) 9 9, .slice (some ⟨w.heap.size + 1 + 1 + 1, 0, none⟩) 3 3]) (by simp [results, Tryd.results14, go_sem, r0, r1, r2]) rfl ?_
  exact hF.out
theorem BaseE.pol {w w' : World} {e : Ending} (h : BaseE w e w') : PolW w' (some ⟨w.heap.size + 1, 0, none⟩) 26 26 bEl (some ⟨w.heap.size + 1 + 1, 0, none⟩) 9 9 bAt (some ⟨w.heap.size + 1 + 1 + 1, 0, none⟩) 3 3 bSc := by
  obtain ⟨_, h1, h2, h3, _⟩ := h
  exact ⟨isS_of_cells rfl h1 rfl, isA_of_cells rfl h2 rfl, isS_of_cells rfl h3 rfl, by omega, by omega, by omega, by omega, by omega, by omega, by omega, by omega, by omega, by decide, by decide, by decide⟩
end Go.Proofs.YtpheaepifjcmiaaDoor
