/- Walks: unicode/utf8.FullRuneInString, and utf's piece. -/
import Derived.Test.YtjliphkpmpcjaaaDoorShelf
import Derived.Test.YtjliphkpmpcjaaaDoorDec
import Derived.WalkKit
import Derived.WalkLawsBesides
import Derived.Deep.QuietTactic
import Derived.BigQuiet
import Derived.Deep.DeepFit
import Derived.Deep.DeepMust
import Derived.Lib.Hide
import Derived.Lib.LaidU8
namespace Go.Proofs.YtjliphkpmpcjaaaDoor
open Go.RowKit Go.Lib
set_option maxRecDepth 100000
set_option linter.unusedVariables false

theorem ret_bool' {a b : Bool} (h : a = b) : Ending.returned (.bool a) = .returned (.bool b) := by rw [h]

theorem bel_drewN {B : Nat} {a w : World} (h : Below B a w) (n : Nat) : Below B a (w.drewN n) := h.trans ⟨rfl, rfl, rfl, Nat.le_refl _, fun _ _ => rfl⟩

/-- The two tables of unicode/utf8, as they are laid. -/
abbrev Tabs (w : World) : Prop := Utf8Tabs 0 1 w

theorem get_of (s : ByteArray) (i : Nat) (h : i < s.size) : (s[i]'h).toNat = U8.B s.data.toList i := by
  rw [U8.B_eq (c := s[i]'h)]
  rw [List.getElem?_eq_getElem (by simpa using h)]
  rfl

set_option maxHeartbeats 400000 in
theorem full_0 (s : ByteArray) (w : World) (b0 b1 b2 : UInt8) (X sz : Int) (lo hi : Nat) (hz : 0 < s.size) (h0 : s[0]'hz = b0) (c0 : w.cell? ⟨0, b0.toNat, none⟩ = some (.int .u8 X))
    (h7 : bits BinOp.and IntKind.u8 X 7 = sz) (hsz0 : 0 ≤ sz) (hsz4 : sz ≤ 4) (hX0 : 0 ≤ X / 16) (hX1 : X / 16 < 16) (hlo : w.cell? ⟨1, (X / 16).toNat * 2, none⟩ = some (.int .u8 (lo : Int))) (hhi : w.cell? ⟨1, (X / 16).toNat * 2 + 1, none⟩ = some (.int .u8 (hi : Int)))
    (hs : sz ≤ (s.size : Int)) :
    Calls Tryd.prog 35 #[.string s] w fun e w' => e = .returned (.bool true) ∧ Below w.heap.size w w' := by
  have hz0 : (0 : Int) < (s.size : Int) := by omega
  have hze : ((s.size : Int) == 0) = false := beq_eq_false_iff_ne.2 (by omega)
  have hb256 : (b0.toNat : Int) < 256 := by have := b0.toNat_lt; omega
  go_enter Tryd.func35, Tryd.ntmps35
  go_wp2
  go_ret
  exact ⟨rfl, Below.refl _ _⟩
set_option maxHeartbeats 400000 in
theorem full_1 (s : ByteArray) (w : World) (b0 b1 b2 : UInt8) (X sz : Int) (lo hi : Nat) (hz : 0 < s.size) (h0 : s[0]'hz = b0) (c0 : w.cell? ⟨0, b0.toNat, none⟩ = some (.int .u8 X))
    (h7 : bits BinOp.and IntKind.u8 X 7 = sz) (hsz0 : 0 ≤ sz) (hsz4 : sz ≤ 4) (hX0 : 0 ≤ X / 16) (hX1 : X / 16 < 16) (hlo : w.cell? ⟨1, (X / 16).toNat * 2, none⟩ = some (.int .u8 (lo : Int))) (hhi : w.cell? ⟨1, (X / 16).toNat * 2 + 1, none⟩ = some (.int .u8 (hi : Int)))
    (hsz : 2 ≤ sz) (hs : s.size < 2) :
    Calls Tryd.prog 35 #[.string s] w fun e w' => e = .returned (.bool false) ∧ Below w.heap.size w w' := by
  have hz0 : (0 : Int) < (s.size : Int) := by omega
  have hze : ((s.size : Int) == 0) = false := beq_eq_false_iff_ne.2 (by omega)
  have hb256 : (b0.toNat : Int) < 256 := by have := b0.toNat_lt; omega
  have hd1 : decide ((1 : Int) < (s.size : Int)) = false := by simp; omega
  have hd2 : decide ((2 : Int) < (s.size : Int)) = false := by simp; omega
  have hl : ¬ sz ≤ (s.size : Int) := by omega
  go_enter Tryd.func35, Tryd.ntmps35
  go_wp2
  go_quiet (fail)
  go_wp2
  go_ret
  exact ⟨rfl, bel_drewN ((Below.refl _ _).alloc (Nat.le_refl _) _) _⟩
set_option maxHeartbeats 400000 in
theorem full_2a (s : ByteArray) (w : World) (b0 b1 b2 : UInt8) (X sz : Int) (lo hi : Nat) (hz : 0 < s.size) (h0 : s[0]'hz = b0) (c0 : w.cell? ⟨0, b0.toNat, none⟩ = some (.int .u8 X))
    (h7 : bits BinOp.and IntKind.u8 X 7 = sz) (hsz0 : 0 ≤ sz) (hsz4 : sz ≤ 4) (hX0 : 0 ≤ X / 16) (hX1 : X / 16 < 16) (hlo : w.cell? ⟨1, (X / 16).toNat * 2, none⟩ = some (.int .u8 (lo : Int))) (hhi : w.cell? ⟨1, (X / 16).toNat * 2 + 1, none⟩ = some (.int .u8 (hi : Int)))
    (hs1 : 1 < s.size) (hs : (s.size : Int) < sz) (h1 : s[1]'(by omega) = b1) (hb : b1.toNat < lo) :
    Calls Tryd.prog 35 #[.string s] w fun e w' => e = .returned (.bool true) ∧ Below w.heap.size w w' := by
  have hz0 : (0 : Int) < (s.size : Int) := by omega
  have hze : ((s.size : Int) == 0) = false := beq_eq_false_iff_ne.2 (by omega)
  have hb256 : (b0.toNat : Int) < 256 := by have := b0.toNat_lt; omega
  have hd1 : decide ((1 : Int) < (s.size : Int)) = true := by simp; omega
  have hd1' : (1 : Int) < (s.size : Int) := by omega
  have hlo1 : decide ((b1.toNat : Int) < (lo : Int)) = true := by simp; omega
  have hl : ¬ sz ≤ (s.size : Int) := by omega
  go_enter Tryd.func35, Tryd.ntmps35
  go_wp2
  go_quiet (fail)
  go_wp2
  go_ret
  exact ⟨rfl, bel_drewN ((Below.refl _ _).alloc (Nat.le_refl _) _) _⟩
set_option maxHeartbeats 400000 in
theorem full_2b (s : ByteArray) (w : World) (b0 b1 b2 : UInt8) (X sz : Int) (lo hi : Nat) (hz : 0 < s.size) (h0 : s[0]'hz = b0) (c0 : w.cell? ⟨0, b0.toNat, none⟩ = some (.int .u8 X))
    (h7 : bits BinOp.and IntKind.u8 X 7 = sz) (hsz0 : 0 ≤ sz) (hsz4 : sz ≤ 4) (hX0 : 0 ≤ X / 16) (hX1 : X / 16 < 16) (hlo : w.cell? ⟨1, (X / 16).toNat * 2, none⟩ = some (.int .u8 (lo : Int))) (hhi : w.cell? ⟨1, (X / 16).toNat * 2 + 1, none⟩ = some (.int .u8 (hi : Int)))
    (hs1 : 1 < s.size) (hs : (s.size : Int) < sz) (h1 : s[1]'(by omega) = b1) (hb : lo ≤ b1.toNat) (hb' : hi < b1.toNat) :
    Calls Tryd.prog 35 #[.string s] w fun e w' => e = .returned (.bool true) ∧ Below w.heap.size w w' := by
  have hz0 : (0 : Int) < (s.size : Int) := by omega
  have hze : ((s.size : Int) == 0) = false := beq_eq_false_iff_ne.2 (by omega)
  have hb256 : (b0.toNat : Int) < 256 := by have := b0.toNat_lt; omega
  have hd1 : decide ((1 : Int) < (s.size : Int)) = true := by simp; omega
  have hd1' : (1 : Int) < (s.size : Int) := by omega
  have hlo1 : decide ((b1.toNat : Int) < (lo : Int)) = false := by simp; omega
  have hhi1 : decide ((hi : Int) < (b1.toNat : Int)) = true := by simp; omega
  have hl : ¬ sz ≤ (s.size : Int) := by omega
  go_enter Tryd.func35, Tryd.ntmps35
  go_wp2
  go_quiet (fail)
  go_wp2
  go_ret
  exact ⟨rfl, bel_drewN ((Below.refl _ _).alloc (Nat.le_refl _) _) _⟩
set_option maxHeartbeats 400000 in
theorem full_2c (s : ByteArray) (w : World) (b0 b1 b2 : UInt8) (X sz : Int) (lo hi : Nat) (hz : 0 < s.size) (h0 : s[0]'hz = b0) (c0 : w.cell? ⟨0, b0.toNat, none⟩ = some (.int .u8 X))
    (h7 : bits BinOp.and IntKind.u8 X 7 = sz) (hsz0 : 0 ≤ sz) (hsz4 : sz ≤ 4) (hX0 : 0 ≤ X / 16) (hX1 : X / 16 < 16) (hlo : w.cell? ⟨1, (X / 16).toNat * 2, none⟩ = some (.int .u8 (lo : Int))) (hhi : w.cell? ⟨1, (X / 16).toNat * 2 + 1, none⟩ = some (.int .u8 (hi : Int)))
    (hs1 : 1 < s.size) (hs2 : s.size ≤ 2) (hs : (s.size : Int) < sz) (h1 : s[1]'(by omega) = b1) (hb : lo ≤ b1.toNat) (hb' : b1.toNat ≤ hi) :
    Calls Tryd.prog 35 #[.string s] w fun e w' => e = .returned (.bool false) ∧ Below w.heap.size w w' := by
  have hz0 : (0 : Int) < (s.size : Int) := by omega
  have hze : ((s.size : Int) == 0) = false := beq_eq_false_iff_ne.2 (by omega)
  have hb256 : (b0.toNat : Int) < 256 := by have := b0.toNat_lt; omega
  have hd1 : decide ((1 : Int) < (s.size : Int)) = true := by simp; omega
  have hd1' : (1 : Int) < (s.size : Int) := by omega
  have hd2 : decide ((2 : Int) < (s.size : Int)) = false := by simp; omega
  have hlo1 : decide ((b1.toNat : Int) < (lo : Int)) = false := by simp; omega
  have hhi1 : decide ((hi : Int) < (b1.toNat : Int)) = false := by simp; omega
  have hl : ¬ sz ≤ (s.size : Int) := by omega
  go_enter Tryd.func35, Tryd.ntmps35
  go_wp2
  go_quiet (fail)
  go_wp2
  go_ret
  exact ⟨rfl, bel_drewN ((Below.refl _ _).alloc (Nat.le_refl _) _) _⟩
set_option maxHeartbeats 400000 in
theorem full_3a (s : ByteArray) (w : World) (b0 b1 b2 : UInt8) (X sz : Int) (lo hi : Nat) (hz : 0 < s.size) (h0 : s[0]'hz = b0) (c0 : w.cell? ⟨0, b0.toNat, none⟩ = some (.int .u8 X))
    (h7 : bits BinOp.and IntKind.u8 X 7 = sz) (hsz0 : 0 ≤ sz) (hsz4 : sz ≤ 4) (hX0 : 0 ≤ X / 16) (hX1 : X / 16 < 16) (hlo : w.cell? ⟨1, (X / 16).toNat * 2, none⟩ = some (.int .u8 (lo : Int))) (hhi : w.cell? ⟨1, (X / 16).toNat * 2 + 1, none⟩ = some (.int .u8 (hi : Int)))
    (hs1 : 2 < s.size) (hs : (s.size : Int) < sz) (h1 : s[1]'(by omega) = b1) (h2 : s[2]'(by omega) = b2) (hb : lo ≤ b1.toNat) (hb' : b1.toNat ≤ hi) (hc : b2.toNat < 128) :
    Calls Tryd.prog 35 #[.string s] w fun e w' => e = .returned (.bool true) ∧ Below w.heap.size w w' := by
  have hz0 : (0 : Int) < (s.size : Int) := by omega
  have hze : ((s.size : Int) == 0) = false := beq_eq_false_iff_ne.2 (by omega)
  have hb256 : (b0.toNat : Int) < 256 := by have := b0.toNat_lt; omega
  have hd1 : decide ((1 : Int) < (s.size : Int)) = true := by simp; omega
  have hd1' : (1 : Int) < (s.size : Int) := by omega
  have hd2 : decide ((2 : Int) < (s.size : Int)) = true := by simp; omega
  have hd2' : (2 : Int) < (s.size : Int) := by omega
  have hlo1 : decide ((b1.toNat : Int) < (lo : Int)) = false := by simp; omega
  have hhi1 : decide ((hi : Int) < (b1.toNat : Int)) = false := by simp; omega
  have hlo2 : decide ((b2.toNat : Int) < 128) = true := by simp; omega
  have hl : ¬ sz ≤ (s.size : Int) := by omega
  go_enter Tryd.func35, Tryd.ntmps35
  go_wp2
  go_quiet (fail)
  go_wp2
  go_ret
  exact ⟨rfl, bel_drewN ((Below.refl _ _).alloc (Nat.le_refl _) _) _⟩
set_option maxHeartbeats 400000 in
theorem full_3b (s : ByteArray) (w : World) (b0 b1 b2 : UInt8) (X sz : Int) (lo hi : Nat) (hz : 0 < s.size) (h0 : s[0]'hz = b0) (c0 : w.cell? ⟨0, b0.toNat, none⟩ = some (.int .u8 X))
    (h7 : bits BinOp.and IntKind.u8 X 7 = sz) (hsz0 : 0 ≤ sz) (hsz4 : sz ≤ 4) (hX0 : 0 ≤ X / 16) (hX1 : X / 16 < 16) (hlo : w.cell? ⟨1, (X / 16).toNat * 2, none⟩ = some (.int .u8 (lo : Int))) (hhi : w.cell? ⟨1, (X / 16).toNat * 2 + 1, none⟩ = some (.int .u8 (hi : Int)))
    (hs1 : 2 < s.size) (hs : (s.size : Int) < sz) (h1 : s[1]'(by omega) = b1) (h2 : s[2]'(by omega) = b2) (hb : lo ≤ b1.toNat) (hb' : b1.toNat ≤ hi) (hc : 191 < b2.toNat) :
    Calls Tryd.prog 35 #[.string s] w fun e w' => e = .returned (.bool true) ∧ Below w.heap.size w w' := by
  have hz0 : (0 : Int) < (s.size : Int) := by omega
  have hze : ((s.size : Int) == 0) = false := beq_eq_false_iff_ne.2 (by omega)
  have hb256 : (b0.toNat : Int) < 256 := by have := b0.toNat_lt; omega
  have hd1 : decide ((1 : Int) < (s.size : Int)) = true := by simp; omega
  have hd1' : (1 : Int) < (s.size : Int) := by omega
  have hd2 : decide ((2 : Int) < (s.size : Int)) = true := by simp; omega
  have hd2' : (2 : Int) < (s.size : Int) := by omega
  have hlo1 : decide ((b1.toNat : Int) < (lo : Int)) = false := by simp; omega
  have hhi1 : decide ((hi : Int) < (b1.toNat : Int)) = false := by simp; omega
  have hlo2 : decide ((b2.toNat : Int) < 128) = false := by simp; omega
  have hhi2 : decide ((191 : Int) < (b2.toNat : Int)) = true := by simp; omega
  have hl : ¬ sz ≤ (s.size : Int) := by omega
  go_enter Tryd.func35, Tryd.ntmps35
  go_wp2
  go_quiet (fail)
  go_wp2
  go_ret
  exact ⟨rfl, bel_drewN ((Below.refl _ _).alloc (Nat.le_refl _) _) _⟩
set_option maxHeartbeats 400000 in
theorem full_3c (s : ByteArray) (w : World) (b0 b1 b2 : UInt8) (X sz : Int) (lo hi : Nat) (hz : 0 < s.size) (h0 : s[0]'hz = b0) (c0 : w.cell? ⟨0, b0.toNat, none⟩ = some (.int .u8 X))
    (h7 : bits BinOp.and IntKind.u8 X 7 = sz) (hsz0 : 0 ≤ sz) (hsz4 : sz ≤ 4) (hX0 : 0 ≤ X / 16) (hX1 : X / 16 < 16) (hlo : w.cell? ⟨1, (X / 16).toNat * 2, none⟩ = some (.int .u8 (lo : Int))) (hhi : w.cell? ⟨1, (X / 16).toNat * 2 + 1, none⟩ = some (.int .u8 (hi : Int)))
    (hs1 : 2 < s.size) (hs : (s.size : Int) < sz) (h1 : s[1]'(by omega) = b1) (h2 : s[2]'(by omega) = b2) (hb : lo ≤ b1.toNat) (hb' : b1.toNat ≤ hi) (hc : 128 ≤ b2.toNat) (hc' : b2.toNat ≤ 191) :
    Calls Tryd.prog 35 #[.string s] w fun e w' => e = .returned (.bool false) ∧ Below w.heap.size w w' := by
  have hz0 : (0 : Int) < (s.size : Int) := by omega
  have hze : ((s.size : Int) == 0) = false := beq_eq_false_iff_ne.2 (by omega)
  have hb256 : (b0.toNat : Int) < 256 := by have := b0.toNat_lt; omega
  have hd1 : decide ((1 : Int) < (s.size : Int)) = true := by simp; omega
  have hd1' : (1 : Int) < (s.size : Int) := by omega
  have hd2 : decide ((2 : Int) < (s.size : Int)) = true := by simp; omega
  have hd2' : (2 : Int) < (s.size : Int) := by omega
  have hlo1 : decide ((b1.toNat : Int) < (lo : Int)) = false := by simp; omega
  have hhi1 : decide ((hi : Int) < (b1.toNat : Int)) = false := by simp; omega
  have hlo2 : decide ((b2.toNat : Int) < 128) = false := by simp; omega
  have hhi2 : decide ((191 : Int) < (b2.toNat : Int)) = false := by simp; omega
  have hl : ¬ sz ≤ (s.size : Int) := by omega
  go_enter Tryd.func35, Tryd.ntmps35
  go_wp2
  go_quiet (fail)
  go_wp2
  go_ret
  exact ⟨rfl, bel_drewN ((Below.refl _ _).alloc (Nat.le_refl _) _) _⟩

/-- FullRuneInString, of whatever bytes but none. -/
theorem full_any (s : ByteArray) (w : World) (hz : 0 < s.size) (hT : Tabs w) :
    Calls Tryd.prog 35 #[.string s] w fun e w' => e = .returned (.bool (U8.fullN s.size (U8.B s.data.toList 0) (U8.B s.data.toList 1) (U8.B s.data.toList 2))) ∧ Below w.heap.size w w' := by
  obtain ⟨b0, h0⟩ : ∃ b0, s[0]'hz = b0 := ⟨_, rfl⟩
  have e0 : U8.B s.data.toList 0 = b0.toNat := by rw [← get_of s 0 hz, h0]
  have l0 := b0.toNat_lt
  rw [e0]
  have c0 := hT.1 b0.toNat (by omega)
  have hF := firstT_cases b0.toNat
  have hlo := (hT.2 (firstT b0.toNat / 16) (by omega)).1
  have hhi := (hT.2 (firstT b0.toNat / 16) (by omega)).2
  have h7 : bits BinOp.and IntKind.u8 ((firstT b0.toNat : Nat) : Int) 7 = ((firstT b0.toNat % 8 : Nat) : Int) := by
    rcases hF with h | h | h | h | h | h | h | h | h <;> (rw [h]; decide)
  have hsz4 : firstT b0.toNat % 8 ≤ 4 := by omega
  have hsz : firstT b0.toNat % 8 < 2 ∨ 2 ≤ firstT b0.toNat % 8 := by omega
  unfold U8.fullN
  generalize accLo (firstT b0.toNat / 16) = lo at *
  generalize accHi (firstT b0.toNat / 16) = hi at *
  have hx16 : firstT b0.toNat / 16 < 16 := by omega
  generalize firstT b0.toNat = X at *
  have ea : (((X : Nat) : Int) / 16).toNat * 2 = 2 * (X / 16) := by omega
  rw [← ea] at hlo hhi
  generalize hq : X % 8 = q at *
  have g1 : (0 : Int) ≤ (q : Int) := by omega
  have g2 : (q : Int) ≤ 4 := by omega
  have g3 : (0 : Int) ≤ (X : Int) / 16 := by omega
  have g4 : (X : Int) / 16 < 16 := by omega
  by_cases hs : q ≤ s.size
  · have e : (decide (q ≤ s.size) || (decide (1 < s.size) && (decide (U8.B s.data.toList 1 < lo) || decide (hi < U8.B s.data.toList 1))) || (decide (2 < s.size) && (decide (U8.B s.data.toList 2 < 128) || decide (191 < U8.B s.data.toList 2)))) = true := by simp [hs]
    rw [e]
    exact full_0 s w b0 b0 b0 X q lo hi hz h0 c0 h7 g1 g2 g3 g4 hlo hhi (by omega)
  have hsq : (s.size : Int) < (q : Int) := by omega
  have hq2 : (2 : Int) ≤ (q : Int) := by omega
  by_cases hs1 : s.size < 2
  · have e : (decide (q ≤ s.size) || (decide (1 < s.size) && (decide (U8.B s.data.toList 1 < lo) || decide (hi < U8.B s.data.toList 1))) || (decide (2 < s.size) && (decide (U8.B s.data.toList 2 < 128) || decide (191 < U8.B s.data.toList 2)))) = false := by
      rw [decide_eq_false hs, decide_eq_false (show ¬ 1 < s.size by omega), decide_eq_false (show ¬ 2 < s.size by omega)]; rfl
    rw [e]
    exact full_1 s w b0 b0 b0 X q lo hi hz h0 c0 h7 g1 g2 g3 g4 hlo hhi hq2 hs1
  have hs1' : 1 < s.size := by omega
  obtain ⟨b1, h1⟩ : ∃ b1, s[1]'hs1' = b1 := ⟨_, rfl⟩
  have e1 : U8.B s.data.toList 1 = b1.toNat := by rw [← get_of s 1 hs1', h1]
  rw [e1, decide_eq_false hs, decide_eq_true hs1', Bool.false_or, Bool.true_and]
  by_cases c1 : b1.toNat < lo
  · rw [decide_eq_true c1, Bool.true_or, Bool.true_or]
    exact full_2a s w b0 b1 b0 X q lo hi hz h0 c0 h7 g1 g2 g3 g4 hlo hhi hs1' hsq h1 c1
  rw [decide_eq_false c1, Bool.false_or]
  by_cases c2 : hi < b1.toNat
  · rw [decide_eq_true c2, Bool.true_or]
    exact full_2b s w b0 b1 b0 X q lo hi hz h0 c0 h7 g1 g2 g3 g4 hlo hhi hs1' hsq h1 (by omega) c2
  rw [decide_eq_false c2, Bool.false_or]
  by_cases hs2 : 2 < s.size
  case neg =>
    rw [decide_eq_false hs2, Bool.false_and]
    exact full_2c s w b0 b1 b0 X q lo hi hz h0 c0 h7 g1 g2 g3 g4 hlo hhi hs1' (by omega) hsq h1 (by omega) (by omega)
  obtain ⟨b2, h2⟩ : ∃ b2, s[2]'hs2 = b2 := ⟨_, rfl⟩
  have e2 : U8.B s.data.toList 2 = b2.toNat := by rw [← get_of s 2 hs2, h2]
  rw [e2, decide_eq_true hs2, Bool.true_and]
  by_cases c3 : b2.toNat < 128
  · rw [decide_eq_true c3, Bool.true_or]
    exact full_3a s w b0 b1 b2 X q lo hi hz h0 c0 h7 g1 g2 g3 g4 hlo hhi hs2 hsq h1 h2 (by omega) (by omega) c3
  rw [decide_eq_false c3, Bool.false_or]
  by_cases c4 : 191 < b2.toNat
  · rw [decide_eq_true c4]
    exact full_3b s w b0 b1 b2 X q lo hi hz h0 c0 h7 g1 g2 g3 g4 hlo hhi hs2 hsq h1 h2 (by omega) (by omega) c4
  · rw [decide_eq_false c4]
    exact full_3c s w b0 b1 b2 X q lo hi hz h0 c0 h7 g1 g2 g3 g4 hlo hhi hs2 hsq h1 h2 (by omega) (by omega) (by omega) (by omega)
end Go.Proofs.YtjliphkpmpcjaaaDoor
