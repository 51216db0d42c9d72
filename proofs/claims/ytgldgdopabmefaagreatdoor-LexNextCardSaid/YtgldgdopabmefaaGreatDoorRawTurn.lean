/- Walks: package raw: what makes a script change its state. Written by tools/gen_rawturn.py. -/
import Derived.Test.YtgldgdopabmefaaGreatDoorRawTag
import Derived.Test.YtgldgdopabmefaaGreatDoorShelf
import Derived.Handy
namespace Go.Proofs.YtgldgdopabmefaaGreatDoor
open Go.RowKit Go.Lib
set_option maxRecDepth 100000
set_option linter.unusedVariables false

theorem rp_pre (s p : ByteArray) (t : List UInt8) (w : World) (hp : p.data.toList = t) :
    Calls Tryz.prog 63 #[.string s, .string p] w fun e w' => e = .returned (.bool (hasPrefix s.data.toList t)) ∧ w = w' :=
  (Tryz.strings_HasPrefix s p w).mono fun e w' ⟨h1, h2⟩ => ⟨by rw [h1, hp], h2.symm⟩
theorem rp_take (s : ByteArray) (n : Nat) : s.extract 0 n = bs (s.data.toList.take n) := by
  apply ByteArray.ext
  apply Array.ext'
  rw [extract_data, List.drop_zero, Nat.sub_zero]
  rfl
/-- What 'turn' tells. -/
def turnV (st d : Nat) (r : List UInt8) : Value := .tuple #[.string (bs (r.take (Raw.turnP st d r).2)), .int .i64 (Raw.turnP st d r).1]
set_option maxHeartbeats 4000000 in
theorem turn0_yes (s : ByteArray) (d : Nat) (w : World) (hs : s.size ≤ 1000000) (hp : hasPrefix s.data.toList Raw.sOpen = true) :
    Calls Tryz.prog 48 #[.string s, .int .i64 (0 : Nat), .int .i64 d] w fun e w' => e = .returned (turnV 0 d s.data.toList) ∧ Below w.heap.size w w' := by
  have hT : Raw.turnP 0 d s.data.toList = (1, 4) := by
    unfold Raw.turnP
    rw [if_pos rfl, if_pos hp]
  have hl := size_list s
  have hle := (Raw.turn_le 0 d s.data.toList (by decide)).2
  rw [hT] at hle
  simp only at hle
  have g1 : ((4 : Int)) ≤ (s.size : Int) := by omega
  have g2 : 4 ≤ s.size := by omega
  have HR : Hid (Value.tuple #[.string (s.extract 0 4), .int .i64 1] = turnV 0 d s.data.toList) := hid (by
    unfold turnV
    rw [hT, rp_take]
    rfl)
  obtain ⟨V, hV⟩ : ∃ V, turnV 0 d s.data.toList = V := ⟨_, rfl⟩
  rw [hV] at HR ⊢
  clear hV hT
  have P := fun W => rp_pre s ⟨#[60, 33, 45, 45]⟩ Raw.sOpen W rfl
  rw [hp] at P
  have P := hid P
  clear hl
  go_enter Tryz.func48, Tryz.ntmps48
  go_wp2_with fail
  refine (P.out _).mono ?_
  rintro e w1 ⟨rfl, rfl⟩
  go_wp2
  go_returns
  exact ⟨by rw [← HR.out]; first | done | rfl, Below.refl _ _⟩
set_option maxHeartbeats 4000000 in
theorem turn0_no (s : ByteArray) (d : Nat) (w : World) (hs : s.size ≤ 1000000) (hp : hasPrefix s.data.toList Raw.sOpen = false) :
    Calls Tryz.prog 48 #[.string s, .int .i64 (0 : Nat), .int .i64 d] w fun e w' => e = .returned (turnV 0 d s.data.toList) ∧ Below w.heap.size w w' := by
  have hT : Raw.turnP 0 d s.data.toList = (0, 0) := by
    unfold Raw.turnP
    rw [if_pos rfl, if_neg (by rw [hp]; decide)]
  have hl := size_list s
  have HR : Hid (Value.tuple #[.string ⟨#[]⟩, .int .i64 0] = turnV 0 d s.data.toList) := hid (by
    unfold turnV
    rw [hT]
    rfl)
  obtain ⟨V, hV⟩ : ∃ V, turnV 0 d s.data.toList = V := ⟨_, rfl⟩
  rw [hV] at HR ⊢
  clear hV hT
  have P := fun W => rp_pre s ⟨#[60, 33, 45, 45]⟩ Raw.sOpen W rfl
  rw [hp] at P
  have P := hid P
  clear hl
  go_enter Tryz.func48, Tryz.ntmps48
  go_wp2_with fail
  refine (P.out _).mono ?_
  rintro e w1 ⟨rfl, rfl⟩
  go_wp2
  go_returns
  exact ⟨by rw [← HR.out]; first | done | rfl, Below.refl _ _⟩
set_option maxHeartbeats 4000000 in
theorem turn1_out (s : ByteArray) (d : Nat) (w : World) (hs : s.size ≤ 1000000) (hd : 2 ≤ d) (hp : hasPrefix s.data.toList [62] = true) :
    Calls Tryz.prog 48 #[.string s, .int .i64 (1 : Nat), .int .i64 d] w fun e w' => e = .returned (turnV 1 d s.data.toList) ∧ Below w.heap.size w w' := by
  have hT : Raw.turnP 1 d s.data.toList = (0, 1) := by
    unfold Raw.turnP
    rw [if_neg (by decide), if_pos ⟨hd, hp⟩]
  have hl := size_list s
  have hle := (Raw.turn_le 1 d s.data.toList (by decide)).2
  rw [hT] at hle
  simp only at hle
  have g1 : ((1 : Int)) ≤ (s.size : Int) := by omega
  have g2 : 1 ≤ s.size := by omega
  have HR : Hid (Value.tuple #[.string (s.extract 0 1), .int .i64 0] = turnV 1 d s.data.toList) := hid (by
    unfold turnV
    rw [hT, rp_take]
    rfl)
  obtain ⟨V, hV⟩ : ∃ V, turnV 1 d s.data.toList = V := ⟨_, rfl⟩
  rw [hV] at HR ⊢
  clear hV hT
  have d2 : decide ((2 : Int) ≤ (d : Int)) = true := decide_eq_true (by omega)
  have d2N : decide (2 ≤ d) = true := decide_eq_true (by omega)
  have P := fun W => rp_pre s ⟨#[62]⟩ [62] W rfl
  rw [hp] at P
  have P := hid P
  clear hl
  go_enter Tryz.func48, Tryz.ntmps48
  go_wp2_with fail
  refine (P.out _).mono ?_
  rintro e w1 ⟨rfl, rfl⟩
  go_wp2
  go_returns
  exact ⟨by rw [← HR.out]; first | done | rfl, Below.refl _ _⟩
set_option maxHeartbeats 4000000 in
theorem turn1_few_yes (s : ByteArray) (d : Nat) (w : World) (hs : s.size ≤ 1000000) (hd : d < 2) (he : Raw.endsB s.data.toList Raw.sScript = true) :
    Calls Tryz.prog 48 #[.string s, .int .i64 (1 : Nat), .int .i64 d] w fun e w' => e = .returned (turnV 1 d s.data.toList) ∧ Below w.heap.size w w' := by
  have hT : Raw.turnP 1 d s.data.toList = (2, 8) := by
    unfold Raw.turnP
    rw [if_neg (by decide), if_neg (by omega), if_pos ⟨rfl, he⟩]
  have hl := size_list s
  have hle := (Raw.turn_le 1 d s.data.toList (by decide)).2
  rw [hT] at hle
  simp only at hle
  have g1 : ((8 : Int)) ≤ (s.size : Int) := by omega
  have g2 : 8 ≤ s.size := by omega
  have HR : Hid (Value.tuple #[.string (s.extract 0 8), .int .i64 2] = turnV 1 d s.data.toList) := hid (by
    unfold turnV
    rw [hT, rp_take]
    rfl)
  obtain ⟨V, hV⟩ : ∃ V, turnV 1 d s.data.toList = V := ⟨_, rfl⟩
  rw [hV] at HR ⊢
  clear hV hT
  have d2 : decide ((2 : Int) ≤ (d : Int)) = false := decide_eq_false (by omega)
  have d2N : decide (2 ≤ d) = false := decide_eq_false (by omega)
  have B := fun W => begtag_any s ⟨#[60, 115, 99, 114, 105, 112, 116]⟩ W hs (by decide)
  rw [show (⟨#[60, 115, 99, 114, 105, 112, 116]⟩ : ByteArray).data.toList = Raw.sScript from rfl, he] at B
  have B := hid B
  clear hl
  go_enter Tryz.func48, Tryz.ntmps48
  go_wp2_with fail
  refine (B.out _).mono ?_
  rintro e w2 ⟨rfl, b2⟩
  go_wp2
  go_returns
  exact ⟨by rw [← HR.out]; first | done | rfl, b2⟩
set_option maxHeartbeats 4000000 in
theorem turn1_few_no (s : ByteArray) (d : Nat) (w : World) (hs : s.size ≤ 1000000) (hd : d < 2) (he : Raw.endsB s.data.toList Raw.sScript = false) :
    Calls Tryz.prog 48 #[.string s, .int .i64 (1 : Nat), .int .i64 d] w fun e w' => e = .returned (turnV 1 d s.data.toList) ∧ Below w.heap.size w w' := by
  have hT : Raw.turnP 1 d s.data.toList = (1, 0) := by
    unfold Raw.turnP
    rw [if_neg (by decide), if_neg (by omega), if_neg (by rw [he]; simp), if_neg (by simp)]
  have hl := size_list s
  have HR : Hid (Value.tuple #[.string ⟨#[]⟩, .int .i64 1] = turnV 1 d s.data.toList) := hid (by
    unfold turnV
    rw [hT]
    rfl)
  obtain ⟨V, hV⟩ : ∃ V, turnV 1 d s.data.toList = V := ⟨_, rfl⟩
  rw [hV] at HR ⊢
  clear hV hT
  have d2 : decide ((2 : Int) ≤ (d : Int)) = false := decide_eq_false (by omega)
  have d2N : decide (2 ≤ d) = false := decide_eq_false (by omega)
  have B := fun W => begtag_any s ⟨#[60, 115, 99, 114, 105, 112, 116]⟩ W hs (by decide)
  rw [show (⟨#[60, 115, 99, 114, 105, 112, 116]⟩ : ByteArray).data.toList = Raw.sScript from rfl, he] at B
  have B := hid B
  clear hl
  go_enter Tryz.func48, Tryz.ntmps48
  go_wp2_with fail
  refine (B.out _).mono ?_
  rintro e w2 ⟨rfl, b2⟩
  go_wp2
  go_returns
  exact ⟨by rw [← HR.out]; first | done | rfl, b2⟩
set_option maxHeartbeats 4000000 in
theorem turn1_oth_yes (s : ByteArray) (d : Nat) (w : World) (hs : s.size ≤ 1000000) (hd : 2 ≤ d) (hp : hasPrefix s.data.toList [62] = false) (he : Raw.endsB s.data.toList Raw.sScript = true) :
    Calls Tryz.prog 48 #[.string s, .int .i64 (1 : Nat), .int .i64 d] w fun e w' => e = .returned (turnV 1 d s.data.toList) ∧ Below w.heap.size w w' := by
  have hT : Raw.turnP 1 d s.data.toList = (2, 8) := by
    unfold Raw.turnP
    rw [if_neg (by decide), if_neg (by rw [hp]; simp), if_pos ⟨rfl, he⟩]
  have hl := size_list s
  have hle := (Raw.turn_le 1 d s.data.toList (by decide)).2
  rw [hT] at hle
  simp only at hle
  have g1 : ((8 : Int)) ≤ (s.size : Int) := by omega
  have g2 : 8 ≤ s.size := by omega
  have HR : Hid (Value.tuple #[.string (s.extract 0 8), .int .i64 2] = turnV 1 d s.data.toList) := hid (by
    unfold turnV
    rw [hT, rp_take]
    rfl)
  obtain ⟨V, hV⟩ : ∃ V, turnV 1 d s.data.toList = V := ⟨_, rfl⟩
  rw [hV] at HR ⊢
  clear hV hT
  have d2 : decide ((2 : Int) ≤ (d : Int)) = true := decide_eq_true (by omega)
  have d2N : decide (2 ≤ d) = true := decide_eq_true (by omega)
  have P := fun W => rp_pre s ⟨#[62]⟩ [62] W rfl
  rw [hp] at P
  have P := hid P
  have B := fun W => begtag_any s ⟨#[60, 115, 99, 114, 105, 112, 116]⟩ W hs (by decide)
  rw [show (⟨#[60, 115, 99, 114, 105, 112, 116]⟩ : ByteArray).data.toList = Raw.sScript from rfl, he] at B
  have B := hid B
  clear hl
  go_enter Tryz.func48, Tryz.ntmps48
  go_wp2_with fail
  refine (P.out _).mono ?_
  rintro e w1 ⟨rfl, rfl⟩
  go_wp2_with fail
  refine (B.out _).mono ?_
  rintro e w2 ⟨rfl, b2⟩
  go_wp2
  go_returns
  exact ⟨by rw [← HR.out]; first | done | rfl, b2⟩
set_option maxHeartbeats 4000000 in
theorem turn1_oth_no (s : ByteArray) (d : Nat) (w : World) (hs : s.size ≤ 1000000) (hd : 2 ≤ d) (hp : hasPrefix s.data.toList [62] = false) (he : Raw.endsB s.data.toList Raw.sScript = false) :
    Calls Tryz.prog 48 #[.string s, .int .i64 (1 : Nat), .int .i64 d] w fun e w' => e = .returned (turnV 1 d s.data.toList) ∧ Below w.heap.size w w' := by
  have hT : Raw.turnP 1 d s.data.toList = (1, 0) := by
    unfold Raw.turnP
    rw [if_neg (by decide), if_neg (by rw [hp]; simp), if_neg (by rw [he]; simp), if_neg (by simp)]
  have hl := size_list s
  have HR : Hid (Value.tuple #[.string ⟨#[]⟩, .int .i64 1] = turnV 1 d s.data.toList) := hid (by
    unfold turnV
    rw [hT]
    rfl)
  obtain ⟨V, hV⟩ : ∃ V, turnV 1 d s.data.toList = V := ⟨_, rfl⟩
  rw [hV] at HR ⊢
  clear hV hT
  have d2 : decide ((2 : Int) ≤ (d : Int)) = true := decide_eq_true (by omega)
  have d2N : decide (2 ≤ d) = true := decide_eq_true (by omega)
  have P := fun W => rp_pre s ⟨#[62]⟩ [62] W rfl
  rw [hp] at P
  have P := hid P
  have B := fun W => begtag_any s ⟨#[60, 115, 99, 114, 105, 112, 116]⟩ W hs (by decide)
  rw [show (⟨#[60, 115, 99, 114, 105, 112, 116]⟩ : ByteArray).data.toList = Raw.sScript from rfl, he] at B
  have B := hid B
  clear hl
  go_enter Tryz.func48, Tryz.ntmps48
  go_wp2_with fail
  refine (P.out _).mono ?_
  rintro e w1 ⟨rfl, rfl⟩
  go_wp2_with fail
  refine (B.out _).mono ?_
  rintro e w2 ⟨rfl, b2⟩
  go_wp2
  go_returns
  exact ⟨by rw [← HR.out]; first | done | rfl, b2⟩
set_option maxHeartbeats 4000000 in
theorem turn2_out (s : ByteArray) (d : Nat) (w : World) (hs : s.size ≤ 1000000) (hd : 2 ≤ d) (hp : hasPrefix s.data.toList [62] = true) :
    Calls Tryz.prog 48 #[.string s, .int .i64 (2 : Nat), .int .i64 d] w fun e w' => e = .returned (turnV 2 d s.data.toList) ∧ Below w.heap.size w w' := by
  have hT : Raw.turnP 2 d s.data.toList = (0, 1) := by
    unfold Raw.turnP
    rw [if_neg (by decide), if_pos ⟨hd, hp⟩]
  have hl := size_list s
  have hle := (Raw.turn_le 2 d s.data.toList (by decide)).2
  rw [hT] at hle
  simp only at hle
  have g1 : ((1 : Int)) ≤ (s.size : Int) := by omega
  have g2 : 1 ≤ s.size := by omega
  have HR : Hid (Value.tuple #[.string (s.extract 0 1), .int .i64 0] = turnV 2 d s.data.toList) := hid (by
    unfold turnV
    rw [hT, rp_take]
    rfl)
  obtain ⟨V, hV⟩ : ∃ V, turnV 2 d s.data.toList = V := ⟨_, rfl⟩
  rw [hV] at HR ⊢
  clear hV hT
  have d2 : decide ((2 : Int) ≤ (d : Int)) = true := decide_eq_true (by omega)
  have d2N : decide (2 ≤ d) = true := decide_eq_true (by omega)
  have P := fun W => rp_pre s ⟨#[62]⟩ [62] W rfl
  rw [hp] at P
  have P := hid P
  clear hl
  go_enter Tryz.func48, Tryz.ntmps48
  go_wp2_with fail
  refine (P.out _).mono ?_
  rintro e w1 ⟨rfl, rfl⟩
  go_wp2
  go_returns
  exact ⟨by rw [← HR.out]; first | done | rfl, Below.refl _ _⟩
set_option maxHeartbeats 4000000 in
theorem turn2_few_yes (s : ByteArray) (d : Nat) (w : World) (hs : s.size ≤ 1000000) (hd : d < 2) (he : Raw.endsB s.data.toList Raw.sEnd = true) :
    Calls Tryz.prog 48 #[.string s, .int .i64 (2 : Nat), .int .i64 d] w fun e w' => e = .returned (turnV 2 d s.data.toList) ∧ Below w.heap.size w w' := by
  have hT : Raw.turnP 2 d s.data.toList = (1, 9) := by
    unfold Raw.turnP
    rw [if_neg (by decide), if_neg (by omega), if_neg (by simp), if_pos ⟨rfl, he⟩]
  have hl := size_list s
  have hle := (Raw.turn_le 2 d s.data.toList (by decide)).2
  rw [hT] at hle
  simp only at hle
  have g1 : ((9 : Int)) ≤ (s.size : Int) := by omega
  have g2 : 9 ≤ s.size := by omega
  have HR : Hid (Value.tuple #[.string (s.extract 0 9), .int .i64 1] = turnV 2 d s.data.toList) := hid (by
    unfold turnV
    rw [hT, rp_take]
    rfl)
  obtain ⟨V, hV⟩ : ∃ V, turnV 2 d s.data.toList = V := ⟨_, rfl⟩
  rw [hV] at HR ⊢
  clear hV hT
  have d2 : decide ((2 : Int) ≤ (d : Int)) = false := decide_eq_false (by omega)
  have d2N : decide (2 ≤ d) = false := decide_eq_false (by omega)
  have B := fun W => begtag_any s ⟨#[60, 47, 115, 99, 114, 105, 112, 116]⟩ W hs (by decide)
  rw [show (⟨#[60, 47, 115, 99, 114, 105, 112, 116]⟩ : ByteArray).data.toList = Raw.sEnd from rfl, he] at B
  have B := hid B
  clear hl
  go_enter Tryz.func48, Tryz.ntmps48
  go_wp2_with fail
  refine (B.out _).mono ?_
  rintro e w2 ⟨rfl, b2⟩
  go_wp2
  go_returns
  exact ⟨by rw [← HR.out]; first | done | rfl, b2⟩
set_option maxHeartbeats 4000000 in
theorem turn2_few_no (s : ByteArray) (d : Nat) (w : World) (hs : s.size ≤ 1000000) (hd : d < 2) (he : Raw.endsB s.data.toList Raw.sEnd = false) :
    Calls Tryz.prog 48 #[.string s, .int .i64 (2 : Nat), .int .i64 d] w fun e w' => e = .returned (turnV 2 d s.data.toList) ∧ Below w.heap.size w w' := by
  have hT : Raw.turnP 2 d s.data.toList = (2, 0) := by
    unfold Raw.turnP
    rw [if_neg (by decide), if_neg (by omega), if_neg (by simp), if_neg (by rw [he]; simp)]
  have hl := size_list s
  have HR : Hid (Value.tuple #[.string ⟨#[]⟩, .int .i64 2] = turnV 2 d s.data.toList) := hid (by
    unfold turnV
    rw [hT]
    rfl)
  obtain ⟨V, hV⟩ : ∃ V, turnV 2 d s.data.toList = V := ⟨_, rfl⟩
  rw [hV] at HR ⊢
  clear hV hT
  have d2 : decide ((2 : Int) ≤ (d : Int)) = false := decide_eq_false (by omega)
  have d2N : decide (2 ≤ d) = false := decide_eq_false (by omega)
  have B := fun W => begtag_any s ⟨#[60, 47, 115, 99, 114, 105, 112, 116]⟩ W hs (by decide)
  rw [show (⟨#[60, 47, 115, 99, 114, 105, 112, 116]⟩ : ByteArray).data.toList = Raw.sEnd from rfl, he] at B
  have B := hid B
  clear hl
  go_enter Tryz.func48, Tryz.ntmps48
  go_wp2_with fail
  refine (B.out _).mono ?_
  rintro e w2 ⟨rfl, b2⟩
  go_wp2
  go_returns
  exact ⟨by rw [← HR.out]; first | done | rfl, b2⟩
set_option maxHeartbeats 4000000 in
theorem turn2_oth_yes (s : ByteArray) (d : Nat) (w : World) (hs : s.size ≤ 1000000) (hd : 2 ≤ d) (hp : hasPrefix s.data.toList [62] = false) (he : Raw.endsB s.data.toList Raw.sEnd = true) :
    Calls Tryz.prog 48 #[.string s, .int .i64 (2 : Nat), .int .i64 d] w fun e w' => e = .returned (turnV 2 d s.data.toList) ∧ Below w.heap.size w w' := by
  have hT : Raw.turnP 2 d s.data.toList = (1, 9) := by
    unfold Raw.turnP
    rw [if_neg (by decide), if_neg (by rw [hp]; simp), if_neg (by simp), if_pos ⟨rfl, he⟩]
  have hl := size_list s
  have hle := (Raw.turn_le 2 d s.data.toList (by decide)).2
  rw [hT] at hle
  simp only at hle
  have g1 : ((9 : Int)) ≤ (s.size : Int) := by omega
  have g2 : 9 ≤ s.size := by omega
  have HR : Hid (Value.tuple #[.string (s.extract 0 9), .int .i64 1] = turnV 2 d s.data.toList) := hid (by
    unfold turnV
    rw [hT, rp_take]
    rfl)
  obtain ⟨V, hV⟩ : ∃ V, turnV 2 d s.data.toList = V := ⟨_, rfl⟩
  rw [hV] at HR ⊢
  clear hV hT
  have d2 : decide ((2 : Int) ≤ (d : Int)) = true := decide_eq_true (by omega)
  have d2N : decide (2 ≤ d) = true := decide_eq_true (by omega)
  have P := fun W => rp_pre s ⟨#[62]⟩ [62] W rfl
  rw [hp] at P
  have P := hid P
  have B := fun W => begtag_any s ⟨#[60, 47, 115, 99, 114, 105, 112, 116]⟩ W hs (by decide)
  rw [show (⟨#[60, 47, 115, 99, 114, 105, 112, 116]⟩ : ByteArray).data.toList = Raw.sEnd from rfl, he] at B
  have B := hid B
  clear hl
  go_enter Tryz.func48, Tryz.ntmps48
  go_wp2_with fail
  refine (P.out _).mono ?_
  rintro e w1 ⟨rfl, rfl⟩
  go_wp2_with fail
  refine (B.out _).mono ?_
  rintro e w2 ⟨rfl, b2⟩
  go_wp2
  go_returns
  exact ⟨by rw [← HR.out]; first | done | rfl, b2⟩
set_option maxHeartbeats 4000000 in
theorem turn2_oth_no (s : ByteArray) (d : Nat) (w : World) (hs : s.size ≤ 1000000) (hd : 2 ≤ d) (hp : hasPrefix s.data.toList [62] = false) (he : Raw.endsB s.data.toList Raw.sEnd = false) :
    Calls Tryz.prog 48 #[.string s, .int .i64 (2 : Nat), .int .i64 d] w fun e w' => e = .returned (turnV 2 d s.data.toList) ∧ Below w.heap.size w w' := by
  have hT : Raw.turnP 2 d s.data.toList = (2, 0) := by
    unfold Raw.turnP
    rw [if_neg (by decide), if_neg (by rw [hp]; simp), if_neg (by simp), if_neg (by rw [he]; simp)]
  have hl := size_list s
  have HR : Hid (Value.tuple #[.string ⟨#[]⟩, .int .i64 2] = turnV 2 d s.data.toList) := hid (by
    unfold turnV
    rw [hT]
    rfl)
  obtain ⟨V, hV⟩ : ∃ V, turnV 2 d s.data.toList = V := ⟨_, rfl⟩
  rw [hV] at HR ⊢
  clear hV hT
  have d2 : decide ((2 : Int) ≤ (d : Int)) = true := decide_eq_true (by omega)
  have d2N : decide (2 ≤ d) = true := decide_eq_true (by omega)
  have P := fun W => rp_pre s ⟨#[62]⟩ [62] W rfl
  rw [hp] at P
  have P := hid P
  have B := fun W => begtag_any s ⟨#[60, 47, 115, 99, 114, 105, 112, 116]⟩ W hs (by decide)
  rw [show (⟨#[60, 47, 115, 99, 114, 105, 112, 116]⟩ : ByteArray).data.toList = Raw.sEnd from rfl, he] at B
  have B := hid B
  clear hl
  go_enter Tryz.func48, Tryz.ntmps48
  go_wp2_with fail
  refine (P.out _).mono ?_
  rintro e w1 ⟨rfl, rfl⟩
  go_wp2_with fail
  refine (B.out _).mono ?_
  rintro e w2 ⟨rfl, b2⟩
  go_wp2
  go_returns
  exact ⟨by rw [← HR.out]; first | done | rfl, b2⟩
theorem turn_any (s : ByteArray) (st d : Nat) (w : World) (hs : s.size ≤ 1000000) (hst : st ≤ 2) :
    Calls Tryz.prog 48 #[.string s, .int .i64 st, .int .i64 d] w fun e w' => e = .returned (turnV st d s.data.toList) ∧ Below w.heap.size w w' := by
  rcases (show st = 0 ∨ st = 1 ∨ st = 2 by omega) with rfl | rfl | rfl
  · cases hp : hasPrefix s.data.toList Raw.sOpen with
    | true => exact turn0_yes s d w hs hp
    | false => exact turn0_no s d w hs hp
  · by_cases hd : d < 2
    · cases he : Raw.endsB s.data.toList Raw.sScript with
      | true => exact turn1_few_yes s d w hs hd he
      | false => exact turn1_few_no s d w hs hd he
    · cases hp : hasPrefix s.data.toList [62] with
      | true => exact turn1_out s d w hs (by omega) hp
      | false =>
        cases he : Raw.endsB s.data.toList Raw.sScript with
        | true => exact turn1_oth_yes s d w hs (by omega) hp he
        | false => exact turn1_oth_no s d w hs (by omega) hp he
  · by_cases hd : d < 2
    · cases he : Raw.endsB s.data.toList Raw.sEnd with
      | true => exact turn2_few_yes s d w hs hd he
      | false => exact turn2_few_no s d w hs hd he
    · cases hp : hasPrefix s.data.toList [62] with
      | true => exact turn2_out s d w hs (by omega) hp
      | false =>
        cases he : Raw.endsB s.data.toList Raw.sEnd with
        | true => exact turn2_oth_yes s d w hs (by omega) hp he
        | false => exact turn2_oth_no s d w hs (by omega) hp he
end Go.Proofs.YtgldgdopabmefaaGreatDoor
