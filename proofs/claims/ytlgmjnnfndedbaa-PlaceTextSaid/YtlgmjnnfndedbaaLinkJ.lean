/- Walks over the program's package dom: join, place, Cut. Written by tools/gen_linkj.py. -/
import Derived.Test.YtlgmjnnfndedbaaLinkA
namespace Go.Proofs.Ytlgmjnnfndedbaa
open Go.RowKit Go.Lib
set_option maxRecDepth 100000
set_option linter.unusedVariables false

set_option maxHeartbeats 4000000 in
theorem pjoin_nn (w : World) (base R g n cap : Nat) (S : Nat → Prop) (rs : List PR) (h : TreeL w base R S (.slice (some ⟨g, 0, none⟩) n cap) rs) (hn : n = rs.length) (h2 : n ≤ 1000000) (p : Nat) (hp : p < n) :
    Calls Try.prog 90 #[.pointer (some ⟨R, 0, none⟩), .int .i64 p, .int .i64 (-1), .int .i64 (-1)] w fun e w' => e = .returned (.tuple #[]) ∧ ∃ rs', Lked w w' base R S (.slice (some ⟨g, 0, none⟩) n cap) rs rs' (Dom.joinF (lkOf rs) p (-1) (-1)) := by
  have e0 : Dom.joinF (lkOf rs) p (-1) (-1) = Dom.setL (Dom.setL (lkOf rs) p fun z => { z with first := (-1) }) p fun z => { z with last := (-1) } := by
    unfold Dom.joinF Dom.joinB Dom.joinA
    rw [if_pos rfl]
    rw [if_pos rfl]
  rw [e0]
  have K0 := Lked.refl h
  obtain ⟨rs1, K1⟩ := K0.store (g := g) rfl (i := p) (by omega) 6 (-1) (fun z => { z with first := (-1) }) (by decide) (fun _ => rfl)
  obtain ⟨rs2, K2⟩ := K1.store (g := g) rfl (i := p) (by omega) 7 (-1) (fun z => { z with last := (-1) }) (by decide) (fun _ => rfl)
  have h1 : w.cell? ⟨R, 0, none⟩ = some (.slice (some ⟨g, 0, none⟩) n cap) := h.top.cell 0
  have h1' : (w.setCell ⟨g, p * 10 + 6, none⟩ (.int .i64 (-1))).cell? ⟨R, 0, none⟩ = some (.slice (some ⟨g, 0, none⟩) n cap) := K1.tree.top.cell 0
  obtain ⟨r1, q1, _⟩ := K0.node (i := p) (by omega)
  obtain ⟨r2, q2, _⟩ := K1.node (i := p) (by omega)
  have x1 := (h.cells q1).c6
  have y1 := h.free (p * 10 + 6)
  have x2 := (K1.tree.cells q2).c7
  have y2 := K1.tree.free (p * 10 + 7)
  have HK := hid K2
  have hp3 : (p : Int) < (n : Int) := by omega
  have zp : ((p : Int)).toNat = p := by omega
  clear K0 K1 K2 q1 q2 h hn e0
  go_enter Try.func90, Try.ntmps90
  go_wp2
  refine bodyPost_end (v := .tuple #[]) (by simp [results, Try.results90, go_sem]) rfl ?_
  exact ⟨rfl, rs2, HK.out⟩
set_option maxHeartbeats 4000000 in
theorem pjoin_ny (w : World) (base R g n cap : Nat) (S : Nat → Prop) (rs : List PR) (h : TreeL w base R S (.slice (some ⟨g, 0, none⟩) n cap) rs) (hn : n = rs.length) (h2 : n ≤ 1000000) (p : Nat) (hp : p < n) (y : Nat) (hy : y < n) :
    Calls Try.prog 90 #[.pointer (some ⟨R, 0, none⟩), .int .i64 p, .int .i64 (-1), .int .i64 (y : Int)] w fun e w' => e = .returned (.tuple #[]) ∧ ∃ rs', Lked w w' base R S (.slice (some ⟨g, 0, none⟩) n cap) rs rs' (Dom.joinF (lkOf rs) p (-1) (y : Int)) := by
  have e0 : Dom.joinF (lkOf rs) p (-1) (y : Int) = Dom.setL (Dom.setL (lkOf rs) p fun z => { z with first := (y : Int) }) y fun z => { z with prev := (-1) } := by
    unfold Dom.joinF Dom.joinB Dom.joinA
    rw [if_neg (show ¬ (y : Int) = -1 by omega), show ((y : Int)).toNat = y by omega]
    rw [if_pos rfl]
  rw [e0]
  have K0 := Lked.refl h
  obtain ⟨rs1, K1⟩ := K0.store (g := g) rfl (i := p) (by omega) 6 (y : Int) (fun z => { z with first := (y : Int) }) (by decide) (fun _ => rfl)
  obtain ⟨rs2, K2⟩ := K1.store (g := g) rfl (i := y) (by omega) 8 (-1) (fun z => { z with prev := (-1) }) (by decide) (fun _ => rfl)
  have h1 : w.cell? ⟨R, 0, none⟩ = some (.slice (some ⟨g, 0, none⟩) n cap) := h.top.cell 0
  have h1' : (w.setCell ⟨g, p * 10 + 6, none⟩ (.int .i64 (y : Int))).cell? ⟨R, 0, none⟩ = some (.slice (some ⟨g, 0, none⟩) n cap) := K1.tree.top.cell 0
  obtain ⟨r1, q1, _⟩ := K0.node (i := p) (by omega)
  obtain ⟨r2, q2, _⟩ := K1.node (i := y) (by omega)
  have x1 := (h.cells q1).c6
  have y1 := h.free (p * 10 + 6)
  have x2 := (K1.tree.cells q2).c8
  have y2 := K1.tree.free (y * 10 + 8)
  have HK := hid K2
  have hp3 : (p : Int) < (n : Int) := by omega
  have zp : ((p : Int)).toNat = p := by omega
  have hy3 : (y : Int) < (n : Int) := by omega
  have zy : ((y : Int)).toNat = y := by omega
  have dy : ((y : Int) == -1) = false := by simp
  clear K0 K1 K2 q1 q2 h hn e0
  go_enter Try.func90, Try.ntmps90
  go_wp2
  refine bodyPost_end (v := .tuple #[]) (by simp [results, Try.results90, go_sem]) rfl ?_
  exact ⟨rfl, rs2, HK.out⟩
set_option maxHeartbeats 4000000 in
theorem pjoin_xn (w : World) (base R g n cap : Nat) (S : Nat → Prop) (rs : List PR) (h : TreeL w base R S (.slice (some ⟨g, 0, none⟩) n cap) rs) (hn : n = rs.length) (h2 : n ≤ 1000000) (p : Nat) (hp : p < n) (x : Nat) (hx : x < n) :
    Calls Try.prog 90 #[.pointer (some ⟨R, 0, none⟩), .int .i64 p, .int .i64 (x : Int), .int .i64 (-1)] w fun e w' => e = .returned (.tuple #[]) ∧ ∃ rs', Lked w w' base R S (.slice (some ⟨g, 0, none⟩) n cap) rs rs' (Dom.joinF (lkOf rs) p (x : Int) (-1)) := by
  have e0 : Dom.joinF (lkOf rs) p (x : Int) (-1) = Dom.setL (Dom.setL (lkOf rs) x fun z => { z with next := (-1) }) p fun z => { z with last := (x : Int) } := by
    unfold Dom.joinF Dom.joinB Dom.joinA
    rw [if_pos rfl]
    rw [if_neg (show ¬ (x : Int) = -1 by omega), show ((x : Int)).toNat = x by omega]
  rw [e0]
  have K0 := Lked.refl h
  obtain ⟨rs1, K1⟩ := K0.store (g := g) rfl (i := x) (by omega) 9 (-1) (fun z => { z with next := (-1) }) (by decide) (fun _ => rfl)
  obtain ⟨rs2, K2⟩ := K1.store (g := g) rfl (i := p) (by omega) 7 (x : Int) (fun z => { z with last := (x : Int) }) (by decide) (fun _ => rfl)
  have h1 : w.cell? ⟨R, 0, none⟩ = some (.slice (some ⟨g, 0, none⟩) n cap) := h.top.cell 0
  have h1' : (w.setCell ⟨g, x * 10 + 9, none⟩ (.int .i64 (-1))).cell? ⟨R, 0, none⟩ = some (.slice (some ⟨g, 0, none⟩) n cap) := K1.tree.top.cell 0
  obtain ⟨r1, q1, _⟩ := K0.node (i := x) (by omega)
  obtain ⟨r2, q2, _⟩ := K1.node (i := p) (by omega)
  have x1 := (h.cells q1).c9
  have y1 := h.free (x * 10 + 9)
  have x2 := (K1.tree.cells q2).c7
  have y2 := K1.tree.free (p * 10 + 7)
  have HK := hid K2
  have hp3 : (p : Int) < (n : Int) := by omega
  have zp : ((p : Int)).toNat = p := by omega
  have hx3 : (x : Int) < (n : Int) := by omega
  have zx : ((x : Int)).toNat = x := by omega
  have dx : ((x : Int) == -1) = false := by simp
  clear K0 K1 K2 q1 q2 h hn e0
  go_enter Try.func90, Try.ntmps90
  go_wp2
  refine bodyPost_end (v := .tuple #[]) (by simp [results, Try.results90, go_sem]) rfl ?_
  exact ⟨rfl, rs2, HK.out⟩
set_option maxHeartbeats 4000000 in
theorem pjoin_xy (w : World) (base R g n cap : Nat) (S : Nat → Prop) (rs : List PR) (h : TreeL w base R S (.slice (some ⟨g, 0, none⟩) n cap) rs) (hn : n = rs.length) (h2 : n ≤ 1000000) (p : Nat) (hp : p < n) (x : Nat) (hx : x < n) (y : Nat) (hy : y < n) :
    Calls Try.prog 90 #[.pointer (some ⟨R, 0, none⟩), .int .i64 p, .int .i64 (x : Int), .int .i64 (y : Int)] w fun e w' => e = .returned (.tuple #[]) ∧ ∃ rs', Lked w w' base R S (.slice (some ⟨g, 0, none⟩) n cap) rs rs' (Dom.joinF (lkOf rs) p (x : Int) (y : Int)) := by
  have e0 : Dom.joinF (lkOf rs) p (x : Int) (y : Int) = Dom.setL (Dom.setL (lkOf rs) x fun z => { z with next := (y : Int) }) y fun z => { z with prev := (x : Int) } := by
    unfold Dom.joinF Dom.joinB Dom.joinA
    rw [if_neg (show ¬ (y : Int) = -1 by omega), show ((y : Int)).toNat = y by omega]
    rw [if_neg (show ¬ (x : Int) = -1 by omega), show ((x : Int)).toNat = x by omega]
  rw [e0]
  have K0 := Lked.refl h
  obtain ⟨rs1, K1⟩ := K0.store (g := g) rfl (i := x) (by omega) 9 (y : Int) (fun z => { z with next := (y : Int) }) (by decide) (fun _ => rfl)
  obtain ⟨rs2, K2⟩ := K1.store (g := g) rfl (i := y) (by omega) 8 (x : Int) (fun z => { z with prev := (x : Int) }) (by decide) (fun _ => rfl)
  have h1 : w.cell? ⟨R, 0, none⟩ = some (.slice (some ⟨g, 0, none⟩) n cap) := h.top.cell 0
  have h1' : (w.setCell ⟨g, x * 10 + 9, none⟩ (.int .i64 (y : Int))).cell? ⟨R, 0, none⟩ = some (.slice (some ⟨g, 0, none⟩) n cap) := K1.tree.top.cell 0
  obtain ⟨r1, q1, _⟩ := K0.node (i := x) (by omega)
  obtain ⟨r2, q2, _⟩ := K1.node (i := y) (by omega)
  have x1 := (h.cells q1).c9
  have y1 := h.free (x * 10 + 9)
  have x2 := (K1.tree.cells q2).c8
  have y2 := K1.tree.free (y * 10 + 8)
  have HK := hid K2
  have hx3 : (x : Int) < (n : Int) := by omega
  have zx : ((x : Int)).toNat = x := by omega
  have dx : ((x : Int) == -1) = false := by simp
  have hy3 : (y : Int) < (n : Int) := by omega
  have zy : ((y : Int)).toNat = y := by omega
  have dy : ((y : Int) == -1) = false := by simp
  clear K0 K1 K2 q1 q2 h hn e0
  go_enter Try.func90, Try.ntmps90
  go_wp2
  refine bodyPost_end (v := .tuple #[]) (by simp [results, Try.results90, go_sem]) rfl ?_
  exact ⟨rfl, rs2, HK.out⟩
theorem pjoin_any (w : World) (base R g n cap : Nat) (S : Nat → Prop) (rs : List PR) (h : TreeL w base R S (.slice (some ⟨g, 0, none⟩) n cap) rs) (hn : n = rs.length) (h2 : n ≤ 1000000) (p : Nat) (hp : p < n) (a b : Int) (ha : a = -1 ∨ ∃ x : Nat, a = x ∧ x < n) (hb : b = -1 ∨ ∃ y : Nat, b = y ∧ y < n) :
    Calls Try.prog 90 #[.pointer (some ⟨R, 0, none⟩), .int .i64 p, .int .i64 a, .int .i64 b] w fun e w' => e = .returned (.tuple #[]) ∧ ∃ rs', Lked w w' base R S (.slice (some ⟨g, 0, none⟩) n cap) rs rs' (Dom.joinF (lkOf rs) p a b) := by
  rcases ha with rfl | ⟨x, rfl, hx⟩
  · rcases hb with rfl | ⟨y, rfl, hy⟩
    · exact pjoin_nn w base R g n cap S rs h hn h2 p hp
    · exact pjoin_ny w base R g n cap S rs h hn h2 p hp y hy
  · rcases hb with rfl | ⟨y, rfl, hy⟩
    · exact pjoin_xn w base R g n cap S rs h hn h2 p hp x hx
    · exact pjoin_xy w base R g n cap S rs h hn h2 p hp x hx y hy
theorem Lked.of_join {w w1 w2 : World} {base R : Nat} {S : Nat → Prop} {v : Value} {rs rs1 rs2 : List PR} {f g : Dom.Lks} (h : Lked w w1 base R S v rs rs1 f) {p : Nat} {a b : Int} (k : Lked w1 w2 base R S v rs1 rs2 (Dom.joinF (lkOf rs1) p a b)) : Lked w w2 base R S v rs rs2 (Dom.joinF f p a b) := by
  have := h.trans k
  rwa [h.lks] at this
set_option maxHeartbeats 8000000 in
/-- place: what its links are then. -/
theorem pplace_any (w : World) (base R g n cap : Nat) (S : Nat → Prop) (rs : List PR) (h : TreeL w base R S (.slice (some ⟨g, 0, none⟩) n cap) rs) (hn : n = rs.length) (h2 : n ≤ 1000000) (p i : Nat) (hp : p < n) (hi : i < n) (b : Int) (hb : b = -1 ∨ ∃ y : Nat, b = y ∧ y < n)
    (a : Int) (ha : Dom.prv (lkOf rs) p b = a) (ha2 : a = -1 ∨ ∃ x : Nat, a = x ∧ x < n) :
    Calls Try.prog 76 #[.pointer (some ⟨R, 0, none⟩), .int .i64 p, .int .i64 b, .int .i64 i] w fun e w' => e = .returned (.tuple #[]) ∧ ∃ rs', Lked w w' base R S (.slice (some ⟨g, 0, none⟩) n cap) rs rs' (Dom.joinF (Dom.joinF (Dom.setL (lkOf rs) i fun x => { x with par := p }) p a i) p i b) := by
  have h1 : w.cell? ⟨R, 0, none⟩ = some (.slice (some ⟨g, 0, none⟩) n cap) := h.top.cell 0
  have HA := hid (pahead_any w base R g n cap S rs h hn h2 p hp b hb)
  rw [ha] at HA
  have K0 := Lked.refl h
  obtain ⟨rs1, K1⟩ := K0.store (g := g) rfl (i := i) (by omega) 5 (p : Int) (fun x => { x with par := p }) (by decide) (fun _ => rfl)
  have h1' : (w.setCell ⟨g, i * 10 + 5, none⟩ (.int .i64 p)).cell? ⟨R, 0, none⟩ = some (.slice (some ⟨g, 0, none⟩) n cap) := K1.tree.top.cell 0
  obtain ⟨r1, q1, _⟩ := K0.node (i := i) (by omega)
  have x1 := (h.cells q1).c5
  have y1 := h.free (i * 10 + 5)
  have HJ := hid (pjoin_any _ base R g n cap S rs1 K1.tree (by rw [K1.len]; exact hn) h2 p hp a i ha2 (.inr ⟨i, rfl, hi⟩))
  have HJ2 := hid fun (w2 : World) rs2 (K2 : Lked w w2 base R S (.slice (some ⟨g, 0, none⟩) n cap) rs rs2 (Dom.joinF (Dom.setL (lkOf rs) i fun x => { x with par := p }) p a i)) =>
    pjoin_any w2 base R g n cap S rs2 K2.tree (by rw [K2.len]; exact hn) h2 p hp i b (.inr ⟨i, rfl, hi⟩) hb
  have HK1 := hid K1
  have hi3 : (i : Int) < (n : Int) := by omega
  have zi : ((i : Int)).toNat = i := by omega
  clear K0 K1 q1 h hn hb ha ha2
  go_enter Try.func76, Try.ntmps76
  go_wp2_with fail
  refine (HA.out).mono ?_
  rintro e w1 ⟨rfl, rfl⟩
  go_wp2_with fail
  refine (HJ.out).mono ?_
  rintro e w2 ⟨rfl, rs2, K2⟩
  have HK2 := hid (HK1.out.of_join (g := lkOf rs2) K2)
  clear K2
  go_wp2_with fail
  refine (HJ2.out w2 rs2 HK2.out).mono ?_
  rintro e w3 ⟨rfl, rs3, K3⟩
  have HK3 := hid (HK2.out.of_join (g := lkOf rs3) K3)
  clear K3
  go_wp2
  refine bodyPost_end (v := .tuple #[]) (by simp [results, Try.results76, go_sem]) rfl ?_
  exact ⟨rfl, rs3, HK3.out⟩
end Go.Proofs.Ytlgmjnnfndedbaa
