/- Walks: the reader of package tag: what ends a piece, and taking a piece. Walks: the reader of package tag: passing a sign. Walks: the reader of package tag: a value as it is written. Walks: the reader of package tag: an attribute. Walks: the reader of package tag: all attributes, up to the tag's end. Walks: package tag, whether a tag begins. Walks: package tag, Read. Walks: what the program's Read answers, at any place. -/
import Derived.Test.YtgldgdopabmefaaGreatDoorShelf
import Derived.Test.YtgldgdopabmefaaGreatDoorTagV
import Derived.Test.YtgldgdopabmefaaGreatDoorTagPl
import Derived.Test.YtgldgdopabmefaaGreatDoorChar
import Derived.Test.YtgldgdopabmefaaGreatDoorEntProg
import Derived.Test.YtgldgdopabmefaaGreatDoorRawTag
import Derived.Deep.LoopGhost
import Derived.Lib.IndexAny
import Derived.IntWalk
import Derived.Deep.RegionHeld3
import Derived.Maps.OwnSet
import Derived.Handy
namespace Go.Proofs.YtgldgdopabmefaaGreatDoor
open Go.RowKit Go.Lib
set_option maxRecDepth 100000
set_option linter.unusedVariables false

theorem gr_refl (w : World) (row : Option Nat) : w.grownBy w row := ⟨rfl, rfl, rfl, Nat.le_refl _, fun _ _ _ => rfl⟩
theorem gr_set {w wr : World} {b : Nat} (h : w.grownBy wr (some b)) (i : Nat) (v : Value) : w.grownBy (wr.setCell ⟨b, i, none⟩ v) (some b) :=
  ⟨h.os, h.tape, h.output, Nat.le_trans h.size (by simp), fun k hk hne => by
    rw [Below.heap_setCell _ _ _ _ (fun e => hne (by rw [e]))]
    exact h.block k hk hne⟩
theorem gr_trans {a b c : World} {row : Option Nat} (h : a.grownBy b row) (k : b.grownBy c row) : a.grownBy c row :=
  ⟨k.os.trans h.os, k.tape.trans h.tape, k.output.trans h.output, Nat.le_trans h.size k.size, fun i hi hne => (k.block i (Nat.lt_of_lt_of_le hi h.size) hne).trans (h.block i hi hne)⟩
theorem gr_drewN {w wr : World} {row : Option Nat} (h : w.grownBy wr row) (n : Nat) : w.grownBy (wr.drewN n) row := gr_trans h ⟨rfl, rfl, rfl, Nat.le_refl _, fun _ _ _ => rfl⟩
theorem gr_below {w w' : World} {B : Nat} (row : Option Nat) (h : Below B w w') (hB : w.heap.size ≤ B) : w.grownBy w' row := ⟨h.os, h.tape, h.output, h.size, fun k hk _ => h.block k (by omega)⟩
theorem gr_alloc {w wr : World} {row : Option Nat} (h : w.grownBy wr row) (o : Obj) : w.grownBy (wr.alloc o) row := gr_trans h (gr_below row ((Below.refl wr.heap.size wr).alloc (Nat.le_refl _) o) (Nat.le_refl _))
/-- The reader at block R: its text, and the place. -/
abbrev Rd (w : World) (R : Nat) (s : ByteArray) (k : Nat) : Prop := BlkW w R #[.string s, .int .i64 k] 80
theorem rd_at (w : World) (R : Nat) (s : ByteArray) (k : Nat) (h : Rd w R s k) : w.cell? ⟨R, 0, none⟩ = some (.string s) ∧ w.cell? ⟨R, 1, none⟩ = some (.int .i64 k) ∧ w.frozen? ⟨R, 1, none⟩ = false := ⟨h.cell 0, h.cell 1, h.free 1⟩
theorem rd_set {w : World} {R k : Nat} {s : ByteArray} (h : Rd w R s k) (m : Nat) : Rd (w.setCell ⟨R, 1, none⟩ (.int .i64 m)) R s m := h.set_ 1 _
theorem quietT {P : Program} {f : FuncId} {args : Array Value} {w : World} {n : Nat} {v : Value}
    (h : Calls P f args (w.drewN n) fun e w' => e = .returned v ∧ w.drewN n = w') : Calls P f args (w.drewN n) fun e w'' => e = .returned v ∧ ∃ m, w'' = w.drewN m :=
  Calls.quiet_of_same (h.mono fun _ _ ⟨a, b⟩ => ⟨a, b.symm⟩)

/-! ### What ends a piece -/
theorem until_any (m : ByteArray) (w : World) :
    Calls Tryz.prog 61 #[.string m] w fun e w' => e = .returned (.func (.func 86) #[] #[.pointer (some ⟨w.heap.size, 0, none⟩)]) ∧ w' = w.alloc (.cells #[.string m] 9) := by
  go_enter Tryz.func61, Tryz.ntmps61
  go_wp2
  go_ret
  exact ⟨rfl, rfl⟩
def untilB (m : List UInt8) (c : UInt8) : Bool := !Tag.spB c && !m.contains c
theorem until1_any (m : ByteArray) (B : Nat) (c : UInt8) (w : World) (hB : w.cell? ⟨B, 0, none⟩ = some (.string m)) :
    Calls Tryz.prog 86 #[.int .u8 (c.toNat : Nat), .pointer (some ⟨B, 0, none⟩)] w fun e w' => e = .returned (.bool (untilB m.data.toList c)) ∧ w = w' := by
  have hc := c.toNat_lt
  have H1 := cspace_any c.toNat (by omega) w
  have HI := Tryz.strings_IndexByte m ((c.toNat : Nat) : Int) w
  rw [show (((c.toNat : Nat) : Int).toNat.toUInt8) = c by rw [Int.toNat_natCast]; exact UInt8.ofNat_toNat] at HI
  unfold untilB Tag.spB
  rw [contains_iff_indexByte]
  have HI := hid HI
  obtain ⟨n, hn⟩ : ∃ n, c.toNat = n := ⟨_, rfl⟩
  rw [hn] at H1 HI ⊢
  cases h1 : spaceN n with
  | true =>
    rw [h1] at H1
    have H1 := hid H1
    clear HI
    go_enter Tryz.func86, Tryz.ntmps86
    go_wp2_with fail
    refine H1.out.mono ?_
    rintro e w' ⟨rfl, rfl⟩
    go_wp2
    go_ret
    exact ⟨ret_bool' (by simp), rfl⟩
  | false =>
    rw [h1] at H1
    have H1 := hid H1
    go_enter Tryz.func86, Tryz.ntmps86
    go_wp2_with fail
    refine H1.out.mono ?_
    rintro e w' ⟨rfl, rfl⟩
    go_wp2_with fail
    refine HI.out.mono ?_
    rintro e w' ⟨rfl, rfl⟩
    go_wp2
    go_ret
    refine ⟨ret_bool' ?_, rfl⟩
    rw [Bool.not_false, Bool.true_and]
    by_cases h : 0 ≤ indexByte m.data.toList c
    · rw [decide_eq_true h, decide_eq_false (by omega)]; rfl
    · rw [decide_eq_false h, decide_eq_true (by omega)]; rfl
theorem until_name (c : UInt8) : untilB [47, 62] c = Tag.wdB false c := by
  have : ∀ n : Fin 256, untilB [47, 62] (UInt8.ofNat n.val) = Tag.wdB false (UInt8.ofNat n.val) := by decide +kernel
  have h := this ⟨c.toNat, c.toNat_lt⟩
  simpa using h
theorem until_attr (c : UInt8) : untilB [47, 62, 61] c = Tag.wdB true c := by
  have : ∀ n : Fin 256, untilB [47, 62, 61] (UInt8.ofNat n.val) = Tag.wdB true (UInt8.ofNat n.val) := by decide +kernel
  have h := this ⟨c.toNat, c.toNat_lt⟩
  simpa using h
theorem until_val (c : UInt8) : untilB [62] c = Tag.vlB c := by
  have : ∀ n : Fin 256, untilB [62] (UInt8.ofNat n.val) = Tag.vlB (UInt8.ofNat n.val) := by decide +kernel
  have h := this ⟨c.toNat, c.toNat_lt⟩
  simpa using h
theorem value1_any (q c : UInt8) (B : Nat) (w : World) (hB : w.cell? ⟨B, 0, none⟩ = some (.string ⟨#[q]⟩)) :
    Calls Tryz.prog 116 #[.int .u8 (c.toNat : Nat), .pointer (some ⟨B, 0, none⟩)] w fun e w' => e = .returned (.bool (Tag.qtB q c)) ∧ w = w' := by
  obtain ⟨Q, hQ⟩ : ∃ Q : ByteArray, (⟨#[q]⟩ : ByteArray) = Q := ⟨_, rfl⟩
  have hz2 : Q.size = 1 := by rw [← hQ]; rfl
  have hl : 0 < Q.size := by omega
  have hg2 : Q[0]'hl = q := by subst hQ; rfl
  rw [hQ] at hB
  have h1 := c.toNat_lt
  have h2 := q.toNat_lt
  have hr : Tag.qtB q c = (((c.toNat : Nat) : Int) != ((q.toNat : Nat) : Int)) := by
    unfold Tag.qtB
    rw [Bool.eq_iff_iff, bne_iff_ne, bne_iff_ne, Ne, Ne, ← UInt8.toNat_inj]
    omega
  rw [hr]
  clear hQ hr
  go_enter Tryz.func116, Tryz.ntmps116
  go_wp2
  go_ret
  exact ⟨rfl, rfl⟩

/-! ### Taking a piece -/
/-- What 'take' leaves. -/
def Took (p : UInt8 → Bool) (s : ByteArray) (R k : Nat) (w : World) (e : Ending) (w' : World) : Prop :=
  e = .returned (.string (s.extract k (Tag.skip p s.data.toList k))) ∧ Rd w' R s (Tag.skip p s.data.toList k) ∧ w.grownBy w' (some R)
set_option maxHeartbeats 2000000 in
theorem take_ptr (F : FuncId) (p : UInt8 → Bool) (B R k : Nat) (s : ByteArray) (w : World) (hs : s.size ≤ 1000000) (hk : k ≤ s.size) (hR : Rd w R s k)
    (hE : Enters Tryz.prog F) (HF : ∀ W, w.grownBy W (some R) → ∀ c : UInt8, Calls Tryz.prog F #[.int .u8 (c.toNat : Nat), .pointer (some ⟨B, 0, none⟩)] W fun e W' => e = .returned (.bool (p c)) ∧ W = W') :
    Calls Tryz.prog 60 #[.pointer (some ⟨R, 0, none⟩), .func (.func F) #[] #[.pointer (some ⟨B, 0, none⟩)]] w (Took p s R k w) := by
  unfold Took
  have HL := hid (at_list s)
  have HZ := hid (size_list s)
  obtain ⟨l, hl⟩ : ∃ l, s.data.toList = l := ⟨_, rfl⟩
  rw [hl] at HL HZ ⊢
  clear hl
  obtain ⟨r, hr⟩ : ∃ r, Tag.skip p l k = r := ⟨_, rfl⟩
  rw [hr]
  have HR := hid hr
  have HF := hid HF
  have HRd := hid hR
  have hEn : ∀ (args : Array Value) (w : World), (callFunc F args).run Tryz.prog w = .ok (.enter F args) w := hE
  obtain ⟨c0, c1, _⟩ := rd_at _ _ _ _ hR
  clear hr hR
  go_enter Tryz.func60, Tryz.ntmps60
  go_wp2
  clear c0 c1
  go_loopg [] s.size (fun g wr => ∃ m : Nat, m + g = s.size + k ∧ k ≤ m ∧ m ≤ s.size ∧ Hid (Rd wr R s m) ∧ Hid (Tag.skip p l m = r) ∧ Hid (w.grownBy wr (some R)))
  case atStart => exact ⟨k, by omega, by omega, hk, HRd, HR, hid (gr_refl _ _)⟩
  case round =>
    obtain ⟨m, hm, hkm, hms, hD, hI, hG⟩ := hrel
    obtain ⟨c0, c1, f1⟩ := rd_at _ _ _ _ hD.out
    by_cases hlt : m < s.size
    · have d1 : decide (m < s.size) = true := decide_eq_true hlt
      have hltI : (m : Int) < (s.size : Int) := by omega
      have hat := HL.out m hlt
      obtain ⟨c, hc⟩ : ∃ c, s[m]'hlt = c := ⟨_, rfl⟩
      rw [hc] at hat
      have hc256 := c.toNat_lt
      have HC := fun n => HF.out (wr.drewN n) (gr_drewN hG.out n) c
      cases hp : p c with
      | true =>
        have HN := hid ((Tag.skip_go hat hp).symm.trans hI.out)
        rw [hp] at HC
        have HC := hid HC
        clear hat hp hI
        go_wp2
        go_quiet (exact quietT (HC.out _))
        go_wp2
        go_roundg (s.size + k - (m + 1))
        case measure => omega
        case rel => exact ⟨m + 1, by omega, by omega, by omega, hid (rd_set (hD.out : Rd (wr.drewN _) R s m) (m + 1)), HN, hid (gr_set (gr_drewN hG.out _) _ _)⟩
      | false =>
        have HN := (Tag.skip_stop hat hp).symm.trans hI.out
        subst HN
        rw [hp] at HC
        have HC := hid HC
        clear hat hp hI HR
        have q4 : (k : Int) ≤ (m : Int) := by omega
        have q6 : (m : Int) ≤ (s.size : Int) := by omega
        go_wp2
        go_quiet (exact quietT (HC.out _))
        go_wp2
        go_quiet (fail)
        go_wp2
        go_ret
        exact ⟨rfl, hD.out, gr_drewN (gr_drewN hG.out _) _⟩
    · have d1 : decide (m < s.size) = false := decide_eq_false hlt
      have hltI : ¬ (m : Int) < (s.size : Int) := by omega
      have HN := (Tag.skip_end (p := p) (l := l) (i := m) (by have := HZ.out; omega)).symm.trans hI.out
      subst HN
      clear hI HR
      have q4 : (k : Int) ≤ (m : Int) := by omega
      have q6 : (m : Int) ≤ (s.size : Int) := by omega
      go_wp2
      go_quiet (fail)
      go_wp2
      go_quiet (fail)
      go_wp2
      go_ret
      exact ⟨rfl, hD.out, gr_drewN (gr_drewN hG.out _) _⟩
set_option maxHeartbeats 2000000 in
theorem take_free (F : FuncId) (p : UInt8 → Bool) (R k : Nat) (s : ByteArray) (w : World) (hs : s.size ≤ 1000000) (hk : k ≤ s.size) (hR : Rd w R s k)
    (hE : Enters Tryz.prog F) (HF : ∀ W, w.grownBy W (some R) → ∀ c : UInt8, Calls Tryz.prog F #[.int .u8 (c.toNat : Nat)] W fun e W' => e = .returned (.bool (p c)) ∧ W = W') :
    Calls Tryz.prog 60 #[.pointer (some ⟨R, 0, none⟩), .func (.func F) #[] #[]] w (Took p s R k w) := by
  unfold Took
  have HL := hid (at_list s)
  have HZ := hid (size_list s)
  obtain ⟨l, hl⟩ : ∃ l, s.data.toList = l := ⟨_, rfl⟩
  rw [hl] at HL HZ ⊢
  clear hl
  obtain ⟨r, hr⟩ : ∃ r, Tag.skip p l k = r := ⟨_, rfl⟩
  rw [hr]
  have HR := hid hr
  have HF := hid HF
  have HRd := hid hR
  have hEn : ∀ (args : Array Value) (w : World), (callFunc F args).run Tryz.prog w = .ok (.enter F args) w := hE
  obtain ⟨c0, c1, _⟩ := rd_at _ _ _ _ hR
  clear hr hR
  go_enter Tryz.func60, Tryz.ntmps60
  go_wp2
  clear c0 c1
  go_loopg [] s.size (fun g wr => ∃ m : Nat, m + g = s.size + k ∧ k ≤ m ∧ m ≤ s.size ∧ Hid (Rd wr R s m) ∧ Hid (Tag.skip p l m = r) ∧ Hid (w.grownBy wr (some R)))
  case atStart => exact ⟨k, by omega, by omega, hk, HRd, HR, hid (gr_refl _ _)⟩
  case round =>
    obtain ⟨m, hm, hkm, hms, hD, hI, hG⟩ := hrel
    obtain ⟨c0, c1, f1⟩ := rd_at _ _ _ _ hD.out
    by_cases hlt : m < s.size
    · have d1 : decide (m < s.size) = true := decide_eq_true hlt
      have hltI : (m : Int) < (s.size : Int) := by omega
      have hat := HL.out m hlt
      obtain ⟨c, hc⟩ : ∃ c, s[m]'hlt = c := ⟨_, rfl⟩
      rw [hc] at hat
      have hc256 := c.toNat_lt
      have HC := fun n => HF.out (wr.drewN n) (gr_drewN hG.out n) c
      cases hp : p c with
      | true =>
        have HN := hid ((Tag.skip_go hat hp).symm.trans hI.out)
        rw [hp] at HC
        have HC := hid HC
        clear hat hp hI
        go_wp2
        go_quiet (exact quietT (HC.out _))
        go_wp2
        go_roundg (s.size + k - (m + 1))
        case measure => omega
        case rel => exact ⟨m + 1, by omega, by omega, by omega, hid (rd_set (hD.out : Rd (wr.drewN _) R s m) (m + 1)), HN, hid (gr_set (gr_drewN hG.out _) _ _)⟩
      | false =>
        have HN := (Tag.skip_stop hat hp).symm.trans hI.out
        subst HN
        rw [hp] at HC
        have HC := hid HC
        clear hat hp hI HR
        have q4 : (k : Int) ≤ (m : Int) := by omega
        have q6 : (m : Int) ≤ (s.size : Int) := by omega
        go_wp2
        go_quiet (exact quietT (HC.out _))
        go_wp2
        go_quiet (fail)
        go_wp2
        go_ret
        exact ⟨rfl, hD.out, gr_drewN (gr_drewN hG.out _) _⟩
    · have d1 : decide (m < s.size) = false := decide_eq_false hlt
      have hltI : ¬ (m : Int) < (s.size : Int) := by omega
      have HN := (Tag.skip_end (p := p) (l := l) (i := m) (by have := HZ.out; omega)).symm.trans hI.out
      subst HN
      clear hI HR
      have q4 : (k : Int) ≤ (m : Int) := by omega
      have q6 : (m : Int) ≤ (s.size : Int) := by omega
      go_wp2
      go_quiet (fail)
      go_wp2
      go_quiet (fail)
      go_wp2
      go_ret
      exact ⟨rfl, hD.out, gr_drewN (gr_drewN hG.out _) _⟩
/-- Blanks are passed over. -/
theorem take_space (R k : Nat) (s : ByteArray) (w : World) (hs : s.size ≤ 1000000) (hk : k ≤ s.size) (hR : Rd w R s k) :
    Calls Tryz.prog 60 #[.pointer (some ⟨R, 0, none⟩), .func (.func 72) #[] #[]] w (Took Tag.spB s R k w) :=
  take_free 72 Tag.spB R k s w hs hk hR (enters_of Tryz.func72 (by kernel_rfl) rfl) (fun W _ c => cspace_any c.toNat (by have := c.toNat_lt; omega) W)
/-- Up to one of these. -/
theorem take_until (m : ByteArray) (B R k : Nat) (s : ByteArray) (w : World) (hs : s.size ≤ 1000000) (hk : k ≤ s.size) (hR : Rd w R s k) (hB : w.cell? ⟨B, 0, none⟩ = some (.string m)) (hne : B ≠ R) :
    Calls Tryz.prog 60 #[.pointer (some ⟨R, 0, none⟩), .func (.func 86) #[] #[.pointer (some ⟨B, 0, none⟩)]] w (Took (untilB m.data.toList) s R k w) :=
  take_ptr 86 (untilB m.data.toList) B R k s w hs hk hR (enters_of Tryz.func86 (by kernel_rfl) rfl)
    (fun W hW c => until1_any m B c W ((World.cell?_of_block (hW.block B (World.block_lt_of_cell? _ _ hB) (by simpa using hne))).trans hB))
/-- Up to a sign of quotation. -/
theorem take_quote (q : UInt8) (B R k : Nat) (s : ByteArray) (w : World) (hs : s.size ≤ 1000000) (hk : k ≤ s.size) (hR : Rd w R s k) (hB : w.cell? ⟨B, 0, none⟩ = some (.string ⟨#[q]⟩)) (hne : B ≠ R) :
    Calls Tryz.prog 60 #[.pointer (some ⟨R, 0, none⟩), .func (.func 116) #[] #[.pointer (some ⟨B, 0, none⟩)]] w (Took (Tag.qtB q) s R k w) :=
  take_ptr 116 (Tag.qtB q) B R k s w hs hk hR (enters_of Tryz.func116 (by kernel_rfl) rfl)
    (fun W hW c => value1_any q c B W ((World.cell?_of_block (hW.block B (World.block_lt_of_cell? _ _ hB) (by simpa using hne))).trans hB))
end Go.Proofs.YtgldgdopabmefaaGreatDoor
namespace Go.Proofs.YtgldgdopabmefaaGreatDoor
open Go.RowKit Go.Lib
set_option maxRecDepth 100000
set_option linter.unusedVariables false

theorem pre_size {a b : List UInt8} (h : hasPrefix a b = true) : b.length ≤ a.length := by
  unfold hasPrefix at h
  rw [List.isPrefixOf_iff_prefix] at h
  exact h.length_le
/-- What 'passes' leaves. -/
def Passed (b : Bool) (s : ByteArray) (R k n : Nat) (w : World) (e : Ending) (w' : World) : Prop :=
  e = .returned (.bool b) ∧ Rd w' R s (if b = true then k + n else k) ∧ w.grownBy w' (some R)
set_option maxHeartbeats 2000000 in
theorem passes_any (m : ByteArray) (b : Bool) (R k : Nat) (s : ByteArray) (w : World) (hs : s.size ≤ 1000000) (hk : k ≤ s.size) (hR : Rd w R s k) (hb : hasPrefix (s.data.toList.drop k) m.data.toList = b) :
    Calls Tryz.prog 59 #[.pointer (some ⟨R, 0, none⟩), .string m] w (Passed b s R k m.size w) := by
  have HP := fun w => Tryz.strings_HasPrefix (s.extract k s.size) m w
  rw [extract_drop, hb] at HP
  unfold Passed
  have HRd := hid hR
  obtain ⟨c0, c1, f1⟩ := rd_at _ _ _ _ hR
  have q1 : ((k : Int)).toNat = k := by omega
  have q2 : (0 : Int) ≤ (k : Int) := by omega
  have q3 : (k : Int) ≤ (s.size : Int) := by omega
  cases b with
  | true =>
    have hle := pre_size hb
    rw [List.length_drop, size_list, size_list] at hle
    have hmI : (m.size : Int) ≤ 1000000 := by omega
    have HP : Hid (∀ n, Calls Tryz.prog 63 #[.string (s.extract k s.size), .string m] (w.drewN n) fun e w' => e = .returned (.bool true) ∧ w.drewN n = w') := hid fun n => (HP _).mono fun e w' ⟨h1, h2⟩ => ⟨h1, h2.symm⟩
    clear hb hR
    rw [if_pos rfl]
    go_enter Tryz.func59, Tryz.ntmps59
    go_wp2
    go_quiet (exact quietT (HP.out _))
    go_wp2
    go_ret
    exact ⟨rfl, rd_set (HRd.out : Rd (w.drewN _) R s k) (k + m.size), gr_set (gr_drewN (gr_refl _ _) _) _ _⟩
  | false =>
    have HP : Hid (∀ n, Calls Tryz.prog 63 #[.string (s.extract k s.size), .string m] (w.drewN n) fun e w' => e = .returned (.bool false) ∧ w.drewN n = w') := hid fun n => (HP _).mono fun e w' ⟨h1, h2⟩ => ⟨h1, h2.symm⟩
    clear hb hR
    rw [if_neg (by decide)]
    go_enter Tryz.func59, Tryz.ntmps59
    go_wp2
    go_quiet (exact quietT (HP.out _))
    go_wp2
    go_ret
    exact ⟨rfl, HRd.out, gr_drewN (gr_refl _ _) _⟩
end Go.Proofs.YtgldgdopabmefaaGreatDoor
namespace Go.Proofs.YtgldgdopabmefaaGreatDoor
open Go.RowKit Go.Lib
set_option maxRecDepth 100000
set_option linter.unusedVariables false

theorem pre_at (l : List UInt8) (k : Nat) (q : UInt8) : hasPrefix (l.drop k) [q] = decide (l[k]? = some q) := by
  have h : l[k]? = (l.drop k)[0]? := by rw [List.getElem?_drop, Nat.add_zero]
  rw [h]
  cases l.drop k with
  | nil => rfl
  | cons a t =>
    unfold hasPrefix
    simp [List.isPrefixOf]
    rw [Bool.eq_iff_iff]
    simp
    exact eq_comm
theorem pre_at2 (l : List UInt8) (k : Nat) (p q : UInt8) : hasPrefix (l.drop k) [p, q] = decide (l[k]? = some p ∧ l[k + 1]? = some q) := by
  have h : l[k]? = (l.drop k)[0]? := by rw [List.getElem?_drop, Nat.add_zero]
  have h2 : l[k + 1]? = (l.drop k)[1]? := by rw [List.getElem?_drop]
  rw [h, h2]
  cases l.drop k with
  | nil => rfl
  | cons a t =>
    cases t with
    | nil =>
      unfold hasPrefix
      simp [List.isPrefixOf]
    | cons b u =>
      unfold hasPrefix
      simp [List.isPrefixOf]
      rw [Bool.eq_iff_iff]
      simp
      rw [eq_comm, @eq_comm _ q b]
theorem bs_of (s : ByteArray) : bs s.data.toList = s := by
  apply ByteArray.ext
  apply Array.ext'
  rfl
theorem cut_bs (s : ByteArray) (a b : Nat) : s.extract a b = bs (Tag.cutP s.data.toList a b) := by rw [← cut_list, bs_of]
theorem gr_cell {w w' : World} {R B : Nat} {i : Nat} {v : Value} (h : w.grownBy w' (some R)) (hc : w.cell? ⟨B, i, none⟩ = some v) (hne : B ≠ R) : w'.cell? ⟨B, i, none⟩ = some v :=
  (World.cell?_of_block (h.block B (World.block_lt_of_cell? _ _ hc) (by simpa using hne))).trans hc
theorem raw_quote {l : List UInt8} {k r : Nat} {q : UInt8} (h : l[k]? = some q) (hq : q.toNat = 34 ∨ q.toNat = 39) (hr : Tag.skip (Tag.qtB q) l (k + 1) = r) : Tag.rawQ l k = (Tag.cutP l (k + 1) r, if r < l.length then r + 1 else r) := by
  subst hr
  unfold Tag.rawQ
  have hqb : Tag.quoteB q = true := by unfold Tag.quoteB; simpa using hq
  simp only [h, hqb, if_true]
theorem raw_bare {l : List UInt8} {k r : Nat} (h : ∀ q, l[k]? = some q → q.toNat ≠ 34 ∧ q.toNat ≠ 39) (hr : Tag.skip Tag.vlB l k = r) : Tag.rawQ l k = (Tag.cutP l k r, r) := by
  subst hr
  unfold Tag.rawQ
  cases hc : l[k]? with
  | none => rfl
  | some q =>
    have hqb : Tag.quoteB q = false := by have := h q hc; unfold Tag.quoteB; simpa using this
    simp only [hqb]
    rfl
theorem quote_at {l : List UInt8} {i r : Nat} {q : UInt8} (hr : Tag.skip (Tag.qtB q) l i = r) (hlt : r < l.length) : l[r]? = some q := by
  have h := List.getElem?_eq_getElem hlt
  have h2 := Tag.skip_at (p := Tag.qtB q) (l := l) (i := i) (c := l[r]) (by rw [hr]; exact h)
  rw [h]
  unfold Tag.qtB at h2
  have : l[r] = q := by simpa using h2
  rw [this]
theorem idx_0 (w : World) : (Instr.index 124 (.agg #[.string ⟨#[34]⟩, .string ⟨#[39]⟩]) (.int .i64 0)).run Tryz.prog w = .ok (.string ⟨#[34]⟩) w := by kernel_rfl
theorem idx_1 (w : World) : (Instr.index 124 (.agg #[.string ⟨#[34]⟩, .string ⟨#[39]⟩]) (.int .i64 1)).run Tryz.prog w = .ok (.string ⟨#[39]⟩) w := by kernel_rfl
/-- What 'value' leaves. -/
def Valued (s : ByteArray) (R k : Nat) (w : World) (e : Ending) (w' : World) : Prop :=
  e = .returned (.string (bs (Tag.rawQ s.data.toList k).1)) ∧ Rd w' R s (Tag.rawQ s.data.toList k).2 ∧ w.grownBy w' (some R)
set_option maxHeartbeats 2000000 in
theorem value_34 (R k : Nat) (s : ByteArray) (w : World) (hs : s.size ≤ 900000) (hk : k ≤ s.size) (hR : Rd w R s k) (hq : s.data.toList[k]? = some 34) :
    Calls Tryz.prog 107 #[.pointer (some ⟨R, 0, none⟩)] w (Valued s R k w) := by
  have hsl := size_list s
  have klt : k < s.size := by have := (List.getElem?_eq_some_iff.1 hq).1; omega
  obtain ⟨r, hr⟩ : ∃ r, Tag.skip (Tag.qtB 34) s.data.toList (k + 1) = r := ⟨_, rfl⟩
  have r1 := Tag.skip_ge (Tag.qtB 34) s.data.toList (k + 1)
  have r2 := Tag.skip_le (Tag.qtB 34) s.data.toList (k + 1) (by omega)
  rw [hr] at r1 r2
  have HRaw := hid (raw_quote hq (.inl rfl) hr)
  have HP := fun W (h : Rd W R s k) => passes_any ⟨#[34]⟩ true R k s W (by omega) hk h (by rw [show (⟨#[34]⟩ : ByteArray).data.toList = [34] from rfl, pre_at, hq]; rfl)
  have HT := fun W B (h : Rd W R s (k + 1)) (hB : W.cell? ⟨B, 0, none⟩ = some (.string ⟨#[34]⟩)) (hne : B ≠ R) => take_quote 34 B R (k + 1) s W (by omega) (by omega) h hB hne
  have HP2 := fun W (h : Rd W R s r) => passes_any ⟨#[34]⟩ (decide (r < s.data.toList.length)) R r s W (by omega) (by omega) h (by
    rw [show (⟨#[34]⟩ : ByteArray).data.toList = [34] from rfl, pre_at]
    by_cases hlt : r < s.data.toList.length
    · rw [quote_at hr hlt, decide_eq_true hlt]; rfl
    · rw [List.getElem?_eq_none (by omega), decide_eq_false hlt]; rfl)
  unfold Took at HT
  simp only [hr, cut_bs] at HT
  have hRlt := hR.lt
  have HR := hid hR
  have HP := hid HP
  have HT := hid HT
  have HP2 := hid HP2
  have hne : w.heap.size ≠ R := by omega
  have HNE := hid hne
  have hA := hid (gr_alloc (gr_refl w (some R)) (.cells #[.string ⟨#[34]⟩] 9))
  have hc0 : (w.alloc (.cells #[.string ⟨#[34]⟩] 9)).cell? ⟨w.heap.size, 0, none⟩ = some (.string ⟨#[34]⟩) := (BlkW.new w #[.string ⟨#[34]⟩] 9).cell 0
  have HC0 := hid hc0
  have HRA := hid (hR.alloc (.cells #[.string ⟨#[34]⟩] 9))
  obtain ⟨X, hX⟩ : ∃ X, bs (Tag.cutP s.data.toList (k + 1) r) = X := ⟨_, rfl⟩
  rw [hX] at HT
  have HX := hid hX
  have HZ := hid hsl
  clear hq hr hc0 hR hRlt hne hX hsl
  have hi0 := idx_0
  have hi1 := idx_1
  go_enter Tryz.func107, Tryz.ntmps107
  go_wp2
  refine wp_loop_rounds 1 ?_
  rw [rounds_succ]
  go_wp2_with fail
  refine (HP.out _ HRA.out).mono ?_
  rintro e w1 ⟨rfl, hR1, g1⟩
  have HR1 : Hid (Rd w1 R s (k + 1)) := hid hR1
  have HG1 := hid (gr_trans hA.out g1)
  have c1 := gr_cell g1 HC0.out HNE.out
  have HC1 := hid c1
  clear hR1 g1
  go_wp2_with fail
  refine (HT.out _ _ HR1.out HC1.out HNE.out).mono ?_
  rintro e w2 ⟨rfl, hR2, g2⟩
  have HR2 := hid hR2
  have HG2 := hid (gr_trans HG1.out g2)
  have c2 := gr_cell g2 HC1.out HNE.out
  clear hR2 g2 c1
  go_wp2_with fail
  refine (HP2.out _ HR2.out).mono ?_
  rintro e w3 ⟨rfl, hR3, g3⟩
  have HR3 := hid hR3
  have HG3 := hid (gr_trans HG2.out g3)
  clear hR3 g3 c2
  go_wp2
  go_ret
  unfold Valued
  rw [HRaw.out]
  refine ⟨by rw [HX.out]; rfl, ?_, HG3.out⟩
  have h := HR3.out
  by_cases hlt : r < s.data.toList.length
  · rw [decide_eq_true hlt, if_pos rfl] at h
    rw [if_pos hlt]
    exact h
  · rw [decide_eq_false hlt, if_neg (by decide)] at h
    rw [if_neg hlt]
    exact h
set_option maxHeartbeats 2000000 in
theorem value_39 (R k : Nat) (s : ByteArray) (w : World) (hs : s.size ≤ 900000) (hk : k ≤ s.size) (hR : Rd w R s k) (hq : s.data.toList[k]? = some 39) :
    Calls Tryz.prog 107 #[.pointer (some ⟨R, 0, none⟩)] w (Valued s R k w) := by
  have hsl := size_list s
  have klt : k < s.size := by have := (List.getElem?_eq_some_iff.1 hq).1; omega
  obtain ⟨r, hr⟩ : ∃ r, Tag.skip (Tag.qtB 39) s.data.toList (k + 1) = r := ⟨_, rfl⟩
  have r1 := Tag.skip_ge (Tag.qtB 39) s.data.toList (k + 1)
  have r2 := Tag.skip_le (Tag.qtB 39) s.data.toList (k + 1) (by omega)
  rw [hr] at r1 r2
  have HRaw := hid (raw_quote hq (.inr rfl) hr)
  have HP := fun W (h : Rd W R s k) => passes_any ⟨#[39]⟩ true R k s W (by omega) hk h (by rw [show (⟨#[39]⟩ : ByteArray).data.toList = [39] from rfl, pre_at, hq]; rfl)
  have HN := fun W (h : Rd W R s k) => passes_any ⟨#[34]⟩ false R k s W (by omega) hk h (by rw [show (⟨#[34]⟩ : ByteArray).data.toList = [34] from rfl, pre_at, hq]; decide)
  have HT := fun W B (h : Rd W R s (k + 1)) (hB : W.cell? ⟨B, 0, none⟩ = some (.string ⟨#[39]⟩)) (hne : B ≠ R) => take_quote 39 B R (k + 1) s W (by omega) (by omega) h hB hne
  have HP2 := fun W (h : Rd W R s r) => passes_any ⟨#[39]⟩ (decide (r < s.data.toList.length)) R r s W (by omega) (by omega) h (by
    rw [show (⟨#[39]⟩ : ByteArray).data.toList = [39] from rfl, pre_at]
    by_cases hlt : r < s.data.toList.length
    · rw [quote_at hr hlt, decide_eq_true hlt]; rfl
    · rw [List.getElem?_eq_none (by omega), decide_eq_false hlt]; rfl)
  unfold Took at HT
  simp only [hr, cut_bs] at HT
  have hRlt := hR.lt
  have HR := hid hR
  have HP := hid HP
  have HN := hid HN
  have HT := hid HT
  have HP2 := hid HP2
  have hne : w.heap.size ≠ R := by omega
  have HNE := hid hne
  have hA0 := hid (gr_alloc (gr_refl w (some R)) (.cells #[.string ⟨#[34]⟩] 9))
  have HRA0 := hid (hR.alloc (.cells #[.string ⟨#[34]⟩] 9))
  obtain ⟨X, hX⟩ : ∃ X, bs (Tag.cutP s.data.toList (k + 1) r) = X := ⟨_, rfl⟩
  rw [hX] at HT
  have HX := hid hX
  have HZ := hid hsl
  clear hq hr hR hRlt hne hX hsl
  have hi0 := idx_0
  have hi1 := idx_1
  go_enter Tryz.func107, Tryz.ntmps107
  go_wp2
  refine wp_loop_rounds 2 ?_
  rw [rounds_succ]
  go_wp2_with fail
  refine (HN.out _ HRA0.out).mono ?_
  rintro e w0 ⟨rfl, hR0, g0⟩
  have hA := hid (gr_alloc (gr_trans hA0.out g0) (.cells #[.string ⟨#[39]⟩] 9))
  have HRA : Hid (Rd (w0.alloc (.cells #[.string ⟨#[39]⟩] 9)) R s k) := hid (BlkW.alloc hR0 _)
  have HC0 : Hid ((w0.alloc (.cells #[.string ⟨#[39]⟩] 9)).cell? ⟨w0.heap.size, 0, none⟩ = some (.string ⟨#[39]⟩)) := hid ((BlkW.new w0 #[.string ⟨#[39]⟩] 9).cell 0)
  have HNE : Hid (w0.heap.size ≠ R) := hid (by have := BlkW.lt hR0; omega)
  clear hR0 g0
  go_wp2
  rw [rounds_succ]
  go_wp2_with fail
  refine (HP.out _ HRA.out).mono ?_
  rintro e w1 ⟨rfl, hR1, g1⟩
  have HR1 : Hid (Rd w1 R s (k + 1)) := hid hR1
  have HG1 := hid (gr_trans hA.out g1)
  have c1 := gr_cell g1 HC0.out HNE.out
  have HC1 := hid c1
  clear hR1 g1
  go_wp2_with fail
  refine (HT.out _ _ HR1.out HC1.out HNE.out).mono ?_
  rintro e w2 ⟨rfl, hR2, g2⟩
  have HR2 := hid hR2
  have HG2 := hid (gr_trans HG1.out g2)
  have c2 := gr_cell g2 HC1.out HNE.out
  clear hR2 g2 c1
  go_wp2_with fail
  refine (HP2.out _ HR2.out).mono ?_
  rintro e w3 ⟨rfl, hR3, g3⟩
  have HR3 := hid hR3
  have HG3 := hid (gr_trans HG2.out g3)
  clear hR3 g3 c2
  go_wp2
  go_ret
  unfold Valued
  rw [HRaw.out]
  refine ⟨by rw [HX.out]; rfl, ?_, HG3.out⟩
  have h := HR3.out
  by_cases hlt : r < s.data.toList.length
  · rw [decide_eq_true hlt, if_pos rfl] at h
    rw [if_pos hlt]
    exact h
  · rw [decide_eq_false hlt, if_neg (by decide)] at h
    rw [if_neg hlt]
    exact h
set_option maxHeartbeats 2000000 in
theorem value_bare (R k : Nat) (s : ByteArray) (w : World) (hs : s.size ≤ 900000) (hk : k ≤ s.size) (hR : Rd w R s k) (hq : ∀ q, s.data.toList[k]? = some q → q.toNat ≠ 34 ∧ q.toNat ≠ 39) :
    Calls Tryz.prog 107 #[.pointer (some ⟨R, 0, none⟩)] w (Valued s R k w) := by
  obtain ⟨r, hr⟩ : ∃ r, Tag.skip Tag.vlB s.data.toList k = r := ⟨_, rfl⟩
  have HRaw := hid (raw_bare hq hr)
  have HN := fun W (h : Rd W R s k) => passes_any ⟨#[34]⟩ false R k s W (by omega) hk h (by
    rw [show (⟨#[34]⟩ : ByteArray).data.toList = [34] from rfl, pre_at]
    exact decide_eq_false fun e => (hq _ e).1 rfl)
  have HM := fun W (h : Rd W R s k) => passes_any ⟨#[39]⟩ false R k s W (by omega) hk h (by
    rw [show (⟨#[39]⟩ : ByteArray).data.toList = [39] from rfl, pre_at]
    exact decide_eq_false fun e => (hq _ e).2 rfl)
  have HT := fun W B (h : Rd W R s k) (hB : W.cell? ⟨B, 0, none⟩ = some (.string ⟨#[62]⟩)) (hne : B ≠ R) => take_until ⟨#[62]⟩ B R k s W (by omega) hk h hB hne
  unfold Took at HT
  simp only [show untilB (⟨#[62]⟩ : ByteArray).data.toList = Tag.vlB from funext until_val, hr, cut_bs] at HT
  have HN := hid HN
  have HM := hid HM
  have HT := hid HT
  have hA0 := hid (gr_alloc (gr_refl w (some R)) (.cells #[.string ⟨#[34]⟩] 9))
  have HRA0 := hid (hR.alloc (.cells #[.string ⟨#[34]⟩] 9))
  obtain ⟨X, hX⟩ : ∃ X, bs (Tag.cutP s.data.toList k r) = X := ⟨_, rfl⟩
  rw [hX] at HT
  have HX := hid hX
  clear hq hr hR hX
  have hi0 := idx_0
  have hi1 := idx_1
  go_enter Tryz.func107, Tryz.ntmps107
  go_wp2
  refine wp_loop_rounds 3 ?_
  rw [rounds_succ]
  go_wp2_with fail
  refine (HN.out _ HRA0.out).mono ?_
  rintro e w0 ⟨rfl, hR0, g0⟩
  have hA := hid (gr_alloc (gr_trans hA0.out g0) (.cells #[.string ⟨#[39]⟩] 9))
  have HRA : Hid (Rd (w0.alloc (.cells #[.string ⟨#[39]⟩] 9)) R s k) := hid (BlkW.alloc hR0 _)
  clear hR0 g0
  go_wp2
  rw [rounds_succ]
  go_wp2_with fail
  refine (HM.out _ HRA.out).mono ?_
  rintro e w1 ⟨rfl, hR1, g1⟩
  have HG1 := hid (gr_alloc (gr_trans hA.out g1) (.cells #[.string ⟨#[62]⟩] 9))
  have HR1 : Hid (Rd (w1.alloc (.cells #[.string ⟨#[62]⟩] 9)) R s k) := hid (BlkW.alloc hR1 _)
  have HC1 : Hid ((w1.alloc (.cells #[.string ⟨#[62]⟩] 9)).cell? ⟨w1.heap.size, 0, none⟩ = some (.string ⟨#[62]⟩)) := hid ((BlkW.new w1 #[.string ⟨#[62]⟩] 9).cell 0)
  have HNE : Hid (w1.heap.size ≠ R) := hid (by have := BlkW.lt hR1; omega)
  clear hR1 g1
  go_wp2
  rw [rounds_succ]
  go_wp2_with fail
  refine (until_any ⟨#[62]⟩ _).mono ?_
  rintro e w2 ⟨rfl, rfl⟩
  go_wp2_with fail
  refine (HT.out _ _ HR1.out HC1.out HNE.out).mono ?_
  rintro e w3 ⟨rfl, hR3, g3⟩
  have HR3 := hid hR3
  have HG3 := hid (gr_trans HG1.out g3)
  clear hR3 g3
  go_wp2
  go_ret
  unfold Valued
  rw [HRaw.out]
  exact ⟨by rw [HX.out]; rfl, HR3.out, HG3.out⟩
theorem val_any (R k : Nat) (s : ByteArray) (w : World) (hs : s.size ≤ 900000) (hk : k ≤ s.size) (hR : Rd w R s k) :
    Calls Tryz.prog 107 #[.pointer (some ⟨R, 0, none⟩)] w (Valued s R k w) := by
  by_cases h34 : s.data.toList[k]? = some 34
  · exact value_34 R k s w hs hk hR h34
  by_cases h39 : s.data.toList[k]? = some 39
  · exact value_39 R k s w hs hk hR h39
  exact value_bare R k s w hs hk hR fun q hq => ⟨fun e => h34 (by rw [hq]; congr 1; exact UInt8.toNat_inj.1 e), fun e => h39 (by rw [hq]; congr 1; exact UInt8.toNat_inj.1 e)⟩
end Go.Proofs.YtgldgdopabmefaaGreatDoor
namespace Go.Proofs.YtgldgdopabmefaaGreatDoor
open Go.RowKit Go.Lib
set_option maxRecDepth 100000
set_option linter.unusedVariables false

theorem gr_bel {w0 w w' : World} {R : Nat} (hb : Below w0.heap.size w0 w) (hR : w0.heap.size ≤ R) (hg : w.grownBy w' (some R)) : Below w0.heap.size w0 w' :=
  hb.grown hg hb.size (fun k hk => by cases hk; exact hR)
theorem blk_gr {w w' : World} {R B : Nat} {cs : Array Value} {t : TypeId} (h : BlkW w B cs t) (hg : w.grownBy w' (some R)) (hne : B ≠ R) : BlkW w' B cs t := h.grow hg (by simpa using hne)
theorem gr_far {w wr : World} {row : Option Nat} (h : w.grownBy wr row) (p : Addr) (v : Value) (hp : w.heap.size ≤ p.block) : w.grownBy (wr.setCell p v) row :=
  ⟨h.os, h.tape, h.output, Nat.le_trans h.size (by simp), fun k hk hne => by
    rw [Below.heap_setCell _ _ _ _ (by omega)]
    exact h.block k hk hne⟩
theorem gr_of_below {w w' w'' : World} {row : Option Nat} (hg : w.grownBy w' row) (hb : Below w'.heap.size w' w'') : w.grownBy w'' row := gr_trans hg (gr_below row hb (Nat.le_refl _))
/-- What 'attribute' leaves. -/
def Attrd (s : ByteArray) (R k : Nat) (w : World) (e : Ending) (w' : World) : Prop :=
  e = .returned (.agg #[.string (bs (Tag.attrP s.data.toList k).1), .string (bs (Tag.attrP s.data.toList k).2.1)]) ∧ Rd w' R s (Tag.attrP s.data.toList k).2.2 ∧ w.grownBy w' (some R)
theorem attr_bare {l : List UInt8} {a e b : Nat} (he : Tag.skip (Tag.wdB true) l (a + 1) = e) (hb : Tag.skip Tag.spB l e = b) (h : decide (l[b]? = some 61) = false) : Tag.attrP l a = (lowL (Tag.cutP l a e), [], b) := by
  unfold Tag.attrP
  simp only [he, hb]
  cases hd : l[b]? with
  | none => rfl
  | some d =>
    rw [hd] at h
    have : ¬ d.toNat = 61 := fun e => by
      have : d = 61 := UInt8.toNat_inj.1 e
      subst this
      simp at h
    simp only [if_neg this]
theorem attr_val {l : List UInt8} {a e b q : Nat} (he : Tag.skip (Tag.wdB true) l (a + 1) = e) (hb : Tag.skip Tag.spB l e = b) (h : decide (l[b]? = some 61) = true) (hq : Tag.skip Tag.spB l (b + 1) = q) : Tag.attrP l a = (lowL (Tag.cutP l a e), Ent.decode true (Tag.rawQ l q).1, (Tag.rawQ l q).2) := by
  unfold Tag.attrP
  have h2 : l[b]? = some 61 := by simpa using h
  simp only [he, hb, h2, hq]
  rfl
set_option maxHeartbeats 4000000 in
theorem attribute_any (w0 : World) (hE0 : EntW w0) (R k : Nat) (s : ByteArray) (w : World) (hs : s.size ≤ 400000) (hk : k < s.size) (hR : Rd w R s k) (hb0 : Below w0.heap.size w0 w) (hR0 : w0.heap.size ≤ R) :
    Calls Tryz.prog 88 #[.pointer (some ⟨R, 0, none⟩)] w (Attrd s R k w) := by
  have hsl := size_list s
  obtain ⟨e, he⟩ : ∃ e, Tag.skip (Tag.wdB true) s.data.toList (k + 1) = e := ⟨_, rfl⟩
  have e1 := Tag.skip_ge (Tag.wdB true) s.data.toList (k + 1)
  have e2 := Tag.skip_le (Tag.wdB true) s.data.toList (k + 1) (by omega)
  rw [he] at e1 e2
  obtain ⟨b, hb⟩ : ∃ b, Tag.skip Tag.spB s.data.toList e = b := ⟨_, rfl⟩
  have b2 := Tag.skip_le Tag.spB s.data.toList e e2
  rw [hb] at b2
  have HT := fun W B (h : Rd W R s (k + 1)) (hB : W.cell? ⟨B, 0, none⟩ = some (.string ⟨#[47, 62, 61]⟩)) (hne : B ≠ R) => take_until ⟨#[47, 62, 61]⟩ B R (k + 1) s W (by omega) (by omega) h hB hne
  unfold Took at HT
  simp only [show untilB (⟨#[47, 62, 61]⟩ : ByteArray).data.toList = Tag.wdB true from funext until_attr, he] at HT
  have HS := fun W (h : Rd W R s e) => take_space R e s W (by omega) (by omega) h
  unfold Took at HS
  simp only [hb] at HS
  have HL := fun W => clower_any (s.extract k e) W (by rw [cut_size s k e (by omega) (by omega)]; omega)
  simp only [cut_list] at HL
  obtain ⟨N, hN⟩ : ∃ N, bs (lowL (Tag.cutP s.data.toList k e)) = N := ⟨_, rfl⟩
  have HL : Hid (∀ W, Calls Tryz.prog 24 #[.string (s.extract k e)] W fun e w' => e = .returned (.string N) ∧ Below W.heap.size W w') := hid (by rw [← hN]; exact HL)
  obtain ⟨bb, hbb⟩ : ∃ bb, decide (s.data.toList[b]? = some 61) = bb := ⟨_, rfl⟩
  have HP := fun W (h : Rd W R s b) => passes_any ⟨#[61]⟩ bb R b s W (by omega) (by omega) h (by rw [show (⟨#[61]⟩ : ByteArray).data.toList = [61] from rfl, pre_at, hbb])
  have hRlt := hR.lt
  have hne : w.heap.size ≠ R := by omega
  have hRA := hR.alloc (.cells #[.string ⟨#[]⟩, .string ⟨#[]⟩] 53)
  obtain ⟨_, c1, f1⟩ := rd_at _ _ _ _ hRA
  have HR1 : Hid (Rd ((w.setCell ⟨R, 1, none⟩ (.int .i64 ((k : Int) + 1))).alloc (.cells #[.string ⟨#[]⟩, .string ⟨#[]⟩] 53)) R s (k + 1)) := hid (BlkW.alloc (rd_set hR (k + 1)) _)
  have HG1 := hid (gr_alloc (gr_set (gr_refl w (some R)) 1 (.int .i64 ((k : Int) + 1))) (.cells #[.string ⟨#[]⟩, .string ⟨#[]⟩] 53))
  have HZ1 : Hid (BlkW ((w.setCell ⟨R, 1, none⟩ (.int .i64 ((k : Int) + 1))).alloc (.cells #[.string ⟨#[]⟩, .string ⟨#[]⟩] 53)) w.heap.size #[.string ⟨#[]⟩, .string ⟨#[]⟩] 53) := hid (by
    have := BlkW.new (w.setCell ⟨R, 1, none⟩ (.int .i64 ((k : Int) + 1))) #[.string ⟨#[]⟩, .string ⟨#[]⟩] 53
    rwa [show (w.setCell ⟨R, 1, none⟩ (.int .i64 ((k : Int) + 1))).heap.size = w.heap.size by simp] at this)
  have HT := hid HT
  have HS := hid HS
  have HP := hid HP
  have HNE := hid hne
  have HN := hid hN
  have HE := hid he
  have HBE := hid hb
  have HBB := hid hbb
  have HZ := hid hsl
  have HB0 := hid hb0
  have HE0 := hid hE0
  have q1 : ((k : Int)).toNat = k := by omega
  have q2 : ((e : Int)).toNat = e := by omega
  have q3 : (0 : Int) ≤ (k : Int) := by omega
  have q4 : (k : Int) ≤ (e : Int) := by omega
  have q5 : (0 : Int) ≤ (e : Int) := by omega
  have q6 : (e : Int) ≤ (s.size : Int) := by omega
  have q7 : e ≤ s.size := by omega
  have q8 : k ≤ e := by omega
  have q9 : b ≤ s.size := by omega
  clear he hb hN hbb hne hR hRA hsl hb0 hE0 e1 e2 b2
  go_enter Tryz.func88, Tryz.ntmps88
  go_wp2_with fail
  obtain ⟨W1, hW1⟩ : ∃ W1, (w.setCell ⟨R, 1, none⟩ (.int .i64 ((k : Int) + 1))).alloc (.cells #[.string ⟨#[]⟩, .string ⟨#[]⟩] 53) = W1 := ⟨_, rfl⟩
  rw [hW1] at HR1 HG1 HZ1 ⊢
  obtain ⟨H, hH⟩ : ∃ H, w.heap.size = H := ⟨_, rfl⟩
  have HH : Hid (w.heap.size ≤ H) := hid (by omega)
  rw [hH] at HZ1 HNE ⊢
  clear hW1 hH c1 f1
  refine (until_any ⟨#[47, 62, 61]⟩ _).mono ?_
  rintro e' w1 ⟨rfl, rfl⟩
  have HRm : Hid (Rd (W1.alloc (.cells #[.string ⟨#[47, 62, 61]⟩] 9)) R s (k + 1)) := hid (BlkW.alloc HR1.out _)
  have HGm := hid (gr_alloc HG1.out (.cells #[.string ⟨#[47, 62, 61]⟩] 9))
  have HZm := hid (HZ1.out.alloc (.cells #[.string ⟨#[47, 62, 61]⟩] 9))
  have HCm : Hid ((W1.alloc (.cells #[.string ⟨#[47, 62, 61]⟩] 9)).cell? ⟨W1.heap.size, 0, none⟩ = some (.string ⟨#[47, 62, 61]⟩)) := hid ((BlkW.new W1 #[.string ⟨#[47, 62, 61]⟩] 9).cell 0)
  have HNm : Hid (W1.heap.size ≠ R) := hid (by have := BlkW.lt HR1.out; omega)
  go_wp2_with fail
  refine (HT.out _ _ HRm.out HCm.out HNm.out).mono ?_
  rintro e' w2 ⟨rfl, hR2, g2⟩
  have HR2 : Hid (Rd w2 R s e) := hid hR2
  have HG2 := hid (gr_trans HGm.out g2)
  have HZ2 := hid (blk_gr HZm.out g2 HNE.out)
  clear hR2 g2 HT HRm HGm HZm HCm HNm HR1 HG1 HZ1
  have r0 : ∀ W, Below w2.heap.size w2 W → W.cell? ⟨R, 0, none⟩ = some (.string s) := fun W hW => (hW.cell (p := ⟨R, 0, none⟩) (BlkW.lt HR2.out)).trans (BlkW.cell HR2.out 0)
  have r1 : ∀ W, Below w2.heap.size w2 W → W.cell? ⟨R, 1, none⟩ = some (.int .i64 e) := fun W hW => (hW.cell (p := ⟨R, 1, none⟩) (BlkW.lt HR2.out)).trans (BlkW.cell HR2.out 1)
  have e0 : Below w2.heap.size w2 w2 := Below.refl _ _
  go_wp2
  go_region_held3 (fun w' => w'.cell? ⟨R, 0, none⟩ = some (.string s) ∧ w'.cell? ⟨R, 1, none⟩ = some (.int .i64 e) ∧ Below w2.heap.size w2 w') (first | exact ⟨r0 _ e1, r1 _ e1, e1⟩ | exact ⟨r0 _ e0.drew, r1 _ e0.drew, e0.drew⟩ | exact ⟨r0 _ e0, r1 _ e0, e0⟩)
    (first
      | (go_at_call 24; with_reducible refine (HL.out _).mono ?_; rintro e' w3 ⟨rfl, b3⟩; have e1 := e0.drew.trans (b3.mono e0.drew.size)))
  have HR3 : Hid (Rd w3 R s e) := hid (BlkW.below HR2.out e1 (BlkW.lt HR2.out))
  have HG3 := hid (gr_of_below HG2.out e1)
  have HZ3 := hid (BlkW.below HZ2.out e1 (BlkW.lt HZ2.out))
  have HZZ := HZ
  clear r0 r1 e0 e1 b3 HR2 HG2 HZ2 HL
  go_wp2_with fail
  refine (HS.out _ HR3.out).mono ?_
  rintro e' w4 ⟨rfl, hR4, g4⟩
  have HR4 : Hid (Rd w4 R s b) := hid hR4
  have HG4 := hid (gr_trans HG3.out g4)
  have HZ4 := hid (blk_gr HZ3.out g4 HNE.out)
  clear hR4 g4 HR3 HG3 HZ3 HS
  go_wp2_with fail
  refine (HP.out _ HR4.out).mono ?_
  rintro e' w5 ⟨rfl, hR5, g5⟩
  have HG5 := hid (gr_trans HG4.out g5)
  have HZ5 := hid (blk_gr HZ4.out g5 HNE.out)
  clear g5 HR4 HG4 HZ4 HP
  cases bb with
  | false =>
    have HR5 : Hid (Rd w5 R s b) := hid hR5
    have HAt := hid (attr_bare HE.out HBE.out HBB.out)
    have z0 := HZ5.out.cell 0
    have z1 := HZ5.out.cell 1
    have y0 := HZ5.out.free 0
    have y1 := HZ5.out.free 1
    simp only [List.getElem?_toArray, List.getElem?_cons_zero, List.getElem?_cons_succ] at z0 z1
    have HF := hid ((HZ5.out.set_ 0 (.string N)).set_ 1 (.string ⟨#[]⟩))
    have HR6 := hid (BlkW.far (BlkW.far HR5.out ⟨H, 0, none⟩ (.string N) HNE.out) ⟨H, 1, none⟩ (.string ⟨#[]⟩) HNE.out)
    have HG6 := hid (gr_far (gr_far HG5.out ⟨H, 0, none⟩ (.string N) HH.out) ⟨H, 1, none⟩ (.string ⟨#[]⟩) HH.out)
    clear hR5
    go_wp2
    generalize (w5.setCell ⟨H, 0, none⟩ (.string N)).setCell ⟨H, 1, none⟩ (.string ⟨#[]⟩) = W6 at *
    have a0 : W6.cell? ⟨H, 0, none⟩ = some (.string N) := HF.out.cell 0
    have a1 : W6.cell? ⟨H, 1, none⟩ = some (.string ⟨#[]⟩) := HF.out.cell 1
    refine bodyPost_ret (v := .agg #[.string N, .string ⟨#[]⟩]) (by simp [results, Tryz.results88, go_sem, a0, a1]) rfl ?_
    unfold Attrd
    rw [HAt.out, HN.out]
    exact ⟨rfl, HR6.out, HG6.out⟩
  | true =>
    have hl61 : s.data.toList[b]? = some 61 := by simpa using HBB.out
    have blt : b < s.size := by have := (List.getElem?_eq_some_iff.1 hl61).1; have := HZ.out; omega
    obtain ⟨q, hq⟩ : ∃ q, Tag.skip Tag.spB s.data.toList (b + 1) = q := ⟨_, rfl⟩
    have hq2 := Tag.skip_le Tag.spB s.data.toList (b + 1) (by have := HZ.out; omega)
    rw [hq, HZ.out] at hq2
    have HAt := hid (attr_val HE.out HBE.out HBB.out hq)
    have HR5 : Hid (Rd w5 R s (b + 1)) := hid hR5
    have HS2 := fun W (h : Rd W R s (b + 1)) => take_space R (b + 1) s W (by omega) (by omega) h
    unfold Took at HS2
    simp only [hq] at HS2
    have HV := fun W (h : Rd W R s q) => val_any R q s W (by omega) (by omega) h
    unfold Valued at HV
    have hraw := Tag.raw_le s.data.toList q (by rw [HZ.out]; exact hq2)
    obtain ⟨⟨raw, J⟩, hrj⟩ : ∃ z, Tag.rawQ s.data.toList q = z := ⟨_, rfl⟩
    rw [hrj] at hraw HAt
    simp only [hrj] at HV
    rw [HZ.out] at hraw
    obtain ⟨_, j2, r2⟩ := hraw
    simp only at j2 r2
    have HD := fun W (h : EntW W) => decode_any (bs raw) true W (by rw [show (bs raw).size = raw.length by rw [size_eq]; rfl]; omega) h
    rw [show (bs raw).data.toList = raw from rfl] at HD
    obtain ⟨X, hX⟩ : ∃ X, bs raw = X := ⟨_, rfl⟩
    rw [hX] at HD
    simp only [hX] at HV
    obtain ⟨V, hV⟩ : ∃ V, bs (Ent.decode true raw) = V := ⟨_, rfl⟩
    have HD : Hid (∀ W, EntW W → Calls Tryz.prog 27 #[.string X, .bool true] W fun e w' => e = .returned (.string V) ∧ Below W.heap.size W w') := hid (by rw [← hV]; exact HD)
    have HS2 := hid HS2
    have HV := hid HV
    have HVV := hid hV
    clear hl61 hq hrj hX hV hR5 blt
    go_wp2_with fail
    refine (HS2.out _ HR5.out).mono ?_
    rintro e' w6 ⟨rfl, hR6, g6⟩
    have HR6 : Hid (Rd w6 R s q) := hid hR6
    have HG6 := hid (gr_trans HG5.out g6)
    have HZ6 := hid (blk_gr HZ5.out g6 HNE.out)
    clear hR6 g6 HR5 HG5 HZ5 HS2
    go_wp2_with fail
    refine (HV.out _ HR6.out).mono ?_
    rintro e' w7 ⟨rfl, hR7, g7⟩
    have HR7 : Hid (Rd w7 R s J) := hid hR7
    have HG7 := hid (gr_trans HG6.out g7)
    have HZ7 := hid (blk_gr HZ6.out g7 HNE.out)
    clear hR7 g7 HR6 HG6 HZ6 HV
    go_wp2_with fail
    refine (HD.out _ (ent_below HE0.out (gr_bel HB0.out hR0 HG7.out))).mono ?_
    rintro e' w8 ⟨rfl, b8⟩
    have HR8 := hid (BlkW.below HR7.out b8 (BlkW.lt HR7.out))
    have HG8 := hid (gr_of_below HG7.out b8)
    have HZ8 := hid (BlkW.below HZ7.out b8 (BlkW.lt HZ7.out))
    clear b8 HR7 HG7 HZ7 HD
    have z0 := HZ8.out.cell 0
    have z1 := HZ8.out.cell 1
    have y0 := HZ8.out.free 0
    have y1 := HZ8.out.free 1
    simp only [List.getElem?_toArray, List.getElem?_cons_zero, List.getElem?_cons_succ] at z0 z1
    have HF := hid ((HZ8.out.set_ 0 (.string N)).set_ 1 (.string V))
    have HR9 := hid (BlkW.far (BlkW.far HR8.out ⟨H, 0, none⟩ (.string N) HNE.out) ⟨H, 1, none⟩ (.string V) HNE.out)
    have HG9 := hid (gr_far (gr_far HG8.out ⟨H, 0, none⟩ (.string N) HH.out) ⟨H, 1, none⟩ (.string V) HH.out)
    go_wp2
    generalize (w8.setCell ⟨H, 0, none⟩ (.string N)).setCell ⟨H, 1, none⟩ (.string V) = W9 at *
    have a0 : W9.cell? ⟨H, 0, none⟩ = some (.string N) := HF.out.cell 0
    have a1 : W9.cell? ⟨H, 1, none⟩ = some (.string V) := HF.out.cell 1
    refine bodyPost_ret (v := .agg #[.string N, .string V]) (by simp [results, Tryz.results88, go_sem, a0, a1]) rfl ?_
    unfold Attrd
    rw [HAt.out]
    simp only
    rw [HN.out, HVV.out]
    exact ⟨rfl, HR9.out, HG9.out⟩
end Go.Proofs.YtgldgdopabmefaaGreatDoor
namespace Go.Proofs.YtgldgdopabmefaaGreatDoor
open Go.RowKit Go.Lib
open Go.Maps (Keyed has)
set_option maxRecDepth 100000
set_option linter.unusedVariables false

/-! ### The set of names -/
def keyN (n : List UInt8) : Lit := .string n
/-- The datum of the set, the last name that was stored first. -/
def setN : List (List UInt8) → DataW Unit
  | [] => .map []
  | n :: t => (setN t).put (keyN n) (.agg [])
theorem isMap_setN : ∀ t, Maps.IsMap (setN t)
  | [] => Maps.isMap_empty
  | n :: t => (isMap_setN t).put _ _
theorem has_setN (k : List UInt8) : ∀ t, Maps.has (setN t) (keyN k) = t.contains k
  | [] => rfl
  | n :: t => by
    rw [List.contains_cons]
    by_cases h : n = k
    · subst h
      rw [show (n == n) = true from beq_self_eq_true n, Bool.true_or]
      exact Maps.has_put_same (isMap_setN t) (by simp [keyN, WideAt.IsKeyLit]) _
    · rw [show (k == n) = false from beq_eq_false_iff_ne.2 (fun e => h e.symm), Bool.false_or, ← has_setN k t]
      exact Maps.has_put_other (fun e => h (by unfold keyN at e; injection e with e; exact e.symm)) _
def namesR (atts : List Tag.At) : List (List UInt8) := (atts.map (·.1)).reverse
theorem namesR_has (atts : List Tag.At) (n : List UInt8) : (namesR atts).contains n = atts.any (fun z => z.1 == n) := by
  unfold namesR
  rw [Bool.eq_iff_iff]
  simp
theorem namesR_add (atts : List Tag.At) (n v : List UInt8) : namesR (atts ++ [(n, v)]) = n :: namesR atts := by simp [namesR]
theorem keyed_s : Keyed Tryz.prog 9 := Maps.string_keyed Tryz.underlying9
theorem zero_unit (w : World) : (zeroValue 102).run Tryz.prog w = .ok (.agg #[]) w := by kernel_rfl
theorem key_of (s : ByteArray) (hs : s.size ≤ 1000000) : keyOf Tryz.prog 9 (.string s) = some (keyN s.data.toList) := Go.WideMaps.keyOf_string_mk Tryz.underlying9 (by unfold maxLen; omega)

/-! ### The loop -/
/-- What the loop keeps: the reader at R, the set in block M, the attributes' own row behind M. -/
structure AtW (w W : World) (R M : Nat) (s : ByteArray) (k : Nat) (v : Value) (atts : List Tag.At) : Prop where
  rd : Rd W R s k
  gr : w.grownBy W (some R)
  map : W.ownsMap Tryz.prog 9 (unitElem (H := Unit)) M atts.length (setN (namesR atts))
  own : W.ownsRow (M + 1) 53 2 v atts.length (pairL atts)
  lt : R < M
  ge : w.heap.size ≤ M
section
variable {w W W' : World} {R M k k' : Nat} {s : ByteArray} {v : Value} {atts : List Tag.At}
theorem AtW.moved (h : AtW w W R M s k v atts) (hr : Rd W' R s k') (hg : W.grownBy W' (some R)) : AtW w W' R M s k' v atts :=
  ⟨hr, gr_trans h.gr hg, h.map.kept hg (by have := h.lt; simp; omega), h.own.kept hg (by
    rcases hb : v.ownBlock with _ | b
    · exact .inl rfl
    · refine .inr ?_
      have := own_ge h.own b hb
      have := h.lt
      simp; omega), h.lt, h.ge⟩
theorem AtW.alloc (h : AtW w W R M s k v atts) (o : Obj) : AtW w (W.alloc o) R M s k v atts := h.moved (h.rd.alloc o) (gr_alloc (gr_refl _ _) o)
theorem AtW.drewN (h : AtW w W R M s k v atts) (n : Nat) : AtW w (W.drewN n) R M s k v atts := h.moved (k' := k) (h.rd : Rd (W.drewN n) R s k) (gr_drewN (gr_refl _ _) n)
end
theorem own_isR {w : World} {base : Nat} {ad : Option Addr} {n cp : Nat} {ls : List Tag.At} (h : w.ownsRow base 53 2 (.slice ad n cp) ls.length (pairL ls)) : IsA w ad n ls := by
  obtain ⟨a, cap, e, h1, _⟩ := own_isT' h
  cases e
  exact h1
theorem attr_name (l : List UInt8) (a : Nat) : (Tag.attrP l a).1.length ≤ l.length := by
  have h : (Tag.attrP l a).1 = lowL (Tag.cutP l a (Tag.skip (Tag.wdB true) l (a + 1))) := by
    unfold Tag.attrP
    simp only
    split
    · split <;> rfl
    · rfl
  rw [h, lowL_len]
  unfold Tag.cutP
  rw [List.length_take, List.length_drop]
  omega
theorem gr_new {w W W' : World} {R : Nat} {row : Option Nat} (h : w.grownBy W (some R)) (hg : W.grownBy W' row) (hr : ∀ b, row = some b → w.heap.size ≤ b) : w.grownBy W' (some R) :=
  ⟨hg.os.trans h.os, hg.tape.trans h.tape, hg.output.trans h.output, Nat.le_trans h.size hg.size, fun k hk hne => (hg.block k (Nat.lt_of_lt_of_le hk h.size) (fun e => by have := hr k e.symm; omega)).trans (h.block k hk hne)⟩
theorem AtW.ownM {w W W' : World} {R M k : Nat} {s : ByteArray} {v : Value} {atts : List Tag.At} (h : AtW w W R M s k v atts) (hg : W.grownBy W' (some M)) : W'.ownsRow (M + 1) 53 2 v atts.length (pairL atts) :=
  h.own.kept hg (by
    rcases hb : v.ownBlock with _ | b
    · exact .inl rfl
    · refine .inr ?_
      have := own_ge h.own b hb
      simp; omega)
theorem AtW.added {w W W1 W' : World} {R M k : Nat} {s : ByteArray} {av v' : Value} {n v : List UInt8} {atts : List Tag.At} {o : Obj} (h : AtW w W R M s k av atts)
    (hm : W1.ownsMap Tryz.prog 9 (unitElem (H := Unit)) M (atts.length + 1) (setN (n :: namesR atts))) (hg : W.grownBy W1 (some M))
    (ho : W'.ownsRow (M + 1) 53 2 v' (atts ++ [(n, v)]).length (pairL (atts ++ [(n, v)]))) (hg2 : (W1.alloc o).grownBy W' av.ownBlock) : AtW w W' R M s k v' (atts ++ [(n, v)]) := by
  have hge := own_ge h.own
  have hlt := h.lt
  refine ⟨((h.rd.grow hg (by simp; omega)).alloc o).grow hg2 (fun e => by have := hge R e.symm; omega), ?_, ?_, ho, h.lt, h.ge⟩
  · refine gr_new (gr_alloc (gr_new h.gr hg (fun b e => by cases e; exact h.ge)) o) hg2 (fun b e => ?_)
    have := hge b e
    have := h.ge
    omega
  · rw [namesR_add, List.length_append]
    exact (hm.alloc o).kept hg2 (fun e => by have := hge M e.symm; omega)
/-- What 'attributes' leaves. -/
def AttrsE (X : Option (List Tag.At × Nat × Bool)) (s : ByteArray) (R : Nat) (w : World) (e : Ending) (w' : World) : Prop :=
  match X with
  | none => e = .returned (.tuple #[.slice none 0 0, .bool false, .bool false]) ∧ w.grownBy w' (some R)
  | some (atts, m, sf) => ∃ ad cp, e = .returned (.tuple #[.slice ad atts.length cp, .bool sf, .bool true]) ∧ IsA w' ad atts.length atts ∧ Rd w' R s (m + 1) ∧ w.grownBy w' (some R) ∧ atts.length ≤ s.size ∧ (∀ x, ad = some x → w.heap.size ≤ x.block) ∧ TypB w' ad
set_option maxHeartbeats 4000000 in
theorem attributes_any (w0 : World) (hE0 : EntW w0) (R k0 : Nat) (s : ByteArray) (w : World) (hs : s.size ≤ 400000) (hk0 : k0 ≤ s.size) (hR : Rd w R s k0) (hb0 : Below w0.heap.size w0 w) (hR0 : w0.heap.size ≤ R) :
    Calls Tryz.prog 62 #[.pointer (some ⟨R, 0, none⟩)] w (AttrsE (Tag.runs s.data.toList k0 []) s R w) := by
  have hsl := size_list s
  obtain ⟨X, hX⟩ : ∃ X, Tag.runs s.data.toList k0 [] = X := ⟨_, rfl⟩
  rw [hX]
  have hRlt := hR.lt
  have hmm := @run_makeMap Tryz.prog
  have HW0 : Hid (AtW w (w.alloc (.map #[] 0)) R w.heap.size s k0 (.slice none 0 0) []) := hid ⟨hR.alloc _, gr_alloc (gr_refl _ _) _, World.ownsMap_made _ _ _ _, World.ownsRow_nil _ _ _ _, hRlt, Nat.le_refl _⟩
  have HX := hid hX
  have HZ := hid hsl
  have HB0 := hid hb0
  have HE0 := hid hE0
  have HAL := hid (at_list s)
  have HSP := fun W k (hk : k ≤ s.size) (h : Rd W R s k) => take_space R k s W (by omega) hk h
  have HP := fun (m : ByteArray) (b : Bool) W k (hk : k ≤ s.size) (h : Rd W R s k) hb => passes_any m b R k s W (by omega) hk h hb
  have HAT := fun W k (hk : k < s.size) (h : Rd W R s k) (hb : Below w0.heap.size w0 W) => attribute_any w0 hE0 R k s W hs hk h hb hR0
  obtain ⟨l, hl⟩ : ∃ l, s.data.toList = l := ⟨_, rfl⟩
  unfold Took at HSP
  unfold Attrd at HAT
  simp only [hl] at HX HZ HAL HSP HP HAT
  have HSP := hid HSP
  have HP := hid HP
  have HAT := hid HAT
  obtain ⟨M, hM⟩ : ∃ M, w.heap.size = M := ⟨_, rfl⟩
  have HM := hid hM
  clear hX hsl hb0 hE0 hR hRlt hl hM
  go_enter Tryz.func62, Tryz.ntmps62
  go_wp2
  go_step3
  go_wp2
  go_step3
  go_wp2
  rw [HM.out] at HW0 ⊢
  go_loopg [2] s.size (fun g av wr => ∃ (k : Nat) (atts : List Tag.At), k + g = s.size + k0 ∧ k0 ≤ k ∧ k ≤ s.size ∧ Hid (Tag.runs l k atts = X) ∧ Hid (AtW w wr R M s k av atts) ∧ atts.length ≤ k)
  case atStart => exact ⟨k0, [], by omega, by omega, hk0, HX, HW0, by simp⟩
  case round =>
    clear HW0 HX
    obtain ⟨k, atts, hk, hkk, hks, hI, hW, hal⟩ := hrel
    have HS := HSP.out wr k hks hW.out.rd
    obtain ⟨a, ha⟩ : ∃ a, Tag.skip Tag.spB l k = a := ⟨_, rfl⟩
    have a1 := Tag.skip_ge Tag.spB l k
    have a2 := Tag.skip_le Tag.spB l k (by rw [HZ.out]; exact hks)
    rw [ha] at HS a1 a2
    rw [HZ.out] at a2
    have HS := hid HS
    have HA := hid ha
    clear ha
    have hkl : k ≤ l.length := by rw [HZ.out]; exact hks
    go_wp2_with fail
    refine HS.out.mono ?_
    rintro e w1 ⟨rfl, hR1, g1⟩
    have HW1 := hid (hW.out.moved hR1 g1)
    obtain ⟨c0, c1, _⟩ := rd_at _ _ _ _ (HW1.out.rd)
    clear hR1 g1 hW HS
    by_cases hend : a = s.size
    · subst hend
      have hXn := (Tag.runs_end atts HA.out (List.getElem?_eq_none (by rw [HZ.out]; omega))).symm.trans hI.out
      subst hXn
      have d0 : ((s.size : Int) == (s.size : Int)) = true := beq_self_eq_true _
      clear hI HA hkl
      go_wp2
      go_quiet (fail)
      go_wp2
      try rw [Exit.noGoto_ret]
      go_returns
      exact ⟨rfl, gr_drewN HW1.out.gr _⟩
    have alt : a < s.size := by omega
    have d0 : ((a : Int) == (s.size : Int)) = false := by simp; omega
    have hat := HAL.out a alt
    obtain ⟨c, hc⟩ : ∃ c, s[a]'alt = c := ⟨_, rfl⟩
    rw [hc] at hat
    have hc256 := c.toNat_lt
    clear hc
    go_wp2
    go_quiet (fail)
    go_wp2_with fail
    have HW2 := hid (HW1.out.drewN nq)
    obtain ⟨w2, hw2⟩ : ∃ w2, w1.drewN nq = w2 := ⟨_, rfl⟩
    rw [hw2] at HW2 ⊢
    clear hw2 HW1 c0 c1
    have HP1 := HP.out ⟨#[62]⟩ (decide (l[a]? = some 62)) w2 a (by omega) HW2.out.rd (pre_at l a 62)
    by_cases h62 : c.toNat = 62
    · have hXn := (Tag.runs_gt atts HA.out hat h62).symm.trans hI.out
      subst hXn
      have hc62 : c = 62 := UInt8.toNat_inj.1 h62
      rw [hat, hc62, show decide (some (62 : UInt8) = some 62) = true from rfl] at HP1
      have HP1 := hid HP1
      obtain ⟨ad, cp, rfl, hIs, hcl, _, hbk, _⟩ := own_isT' HW2.out.own
      have HBK := hid (show ∀ x, ad = some x → w.heap.size ≤ x.block from fun x hx => by have := hbk x hx; have := HW2.out.ge; omega)
      clear hbk
      clear hI HA hkl hat h62 hc62 hIs hcl
      refine HP1.out.mono ?_
      rintro e w3 ⟨rfl, hR3, g3⟩
      have HR3 : Hid (Rd w3 R s (a + 1)) := hid hR3
      have HW3 := hid (HW2.out.moved HR3.out g3)
      have HIS := hid (own_isR HW3.out.own)
      have HTY := hid (own_typ HW3.out.own)
      clear hR3 g3 HW2
      go_wp2
      try rw [Exit.noGoto_ret]
      go_returns
      exact ⟨ad, cp, rfl, HIS.out, HR3.out, HW3.out.gr, by omega, HBK.out, HTY.out⟩
    have hn62 : ¬ (some c = some (62 : UInt8)) := fun e => h62 (by cases e; rfl)
    rw [hat, decide_eq_false hn62] at HP1
    have HP1 := hid HP1
    clear hn62
    refine HP1.out.mono ?_
    rintro e w3 ⟨rfl, hR3, g3⟩
    have HR3 : Hid (Rd w3 R s a) := hid hR3
    have HW3 := hid (HW2.out.moved HR3.out g3)
    clear hR3 g3 HW2 HP1
    go_wp2_with fail
    have HP2 := HP.out ⟨#[47, 62]⟩ (decide (l[a]? = some 47 ∧ l[a + 1]? = some 62)) w3 a (by omega) HW3.out.rd (pre_at2 l a 47 62)
    by_cases hself : c.toNat = 47 ∧ l[a + 1]? = some 62
    · obtain ⟨h47, hat2⟩ := hself
      have hXn := (Tag.runs_self atts HA.out hat h47 hat2 rfl).symm.trans hI.out
      subst hXn
      have hc47 : c = 47 := UInt8.toNat_inj.1 h47
      rw [hat, hc47, hat2, show decide (some (47 : UInt8) = some 47 ∧ some (62 : UInt8) = some 62) = true from rfl] at HP2
      have HP2 := hid HP2
      obtain ⟨ad, cp, rfl, hIs, hcl, _, hbk, _⟩ := own_isT' HW3.out.own
      have HBK := hid (show ∀ x, ad = some x → w.heap.size ≤ x.block from fun x hx => by have := hbk x hx; have := HW3.out.ge; omega)
      clear hbk
      clear hI HA hkl hat h62 hc47 hIs hcl h47 hat2
      refine HP2.out.mono ?_
      rintro e w4 ⟨rfl, hR4, g4⟩
      have HR4 : Hid (Rd w4 R s (a + 1 + 1)) := hid hR4
      have HW4 := hid (HW3.out.moved HR4.out g4)
      have HIS := hid (own_isR HW4.out.own)
      have HTY := hid (own_typ HW4.out.own)
      clear hR4 g4 HW3
      go_wp2
      try rw [Exit.noGoto_ret]
      go_returns
      exact ⟨ad, cp, rfl, HIS.out, HR4.out, HW4.out.gr, by omega, HBK.out, HTY.out⟩
    rw [decide_eq_false (fun e => hself ⟨by have := hat.symm.trans e.1; cases this; rfl, e.2⟩)] at HP2
    have HP2 := hid HP2
    refine HP2.out.mono ?_
    rintro e w4 ⟨rfl, hR4, g4⟩
    have HR4 : Hid (Rd w4 R s a) := hid hR4
    have HW4 := hid (HW3.out.moved HR4.out g4)
    clear hR4 g4 HW3 HP2 HR3
    go_wp2_with fail
    have HP3 := HP.out ⟨#[47]⟩ (decide (l[a]? = some 47)) w4 a (by omega) HW4.out.rd (pre_at l a 47)
    by_cases h47 : c.toNat = 47
    · have HN := hid ((Tag.runs_slash atts hkl HA.out hat h47 (fun d hd e => hself ⟨h47, by rw [hd]; congr 1; exact UInt8.toNat_inj.1 e⟩)).symm.trans hI.out)
      have hc47 : c = 47 := UInt8.toNat_inj.1 h47
      rw [hat, hc47, show decide (some (47 : UInt8) = some 47) = true from rfl] at HP3
      have HP3 := hid HP3
      clear hI HA hkl hat h62 hc47 h47 hself
      refine HP3.out.mono ?_
      rintro e w5 ⟨rfl, hR5, g5⟩
      have HR5 : Hid (Rd w5 R s (a + 1)) := hid hR5
      have HW5 := hid (HW4.out.moved HR5.out g5)
      clear hR5 g5 HW4
      go_wp2
      go_roundg (s.size + k0 - (a + 1))
      case measure => omega
      case rel => exact ⟨a + 1, atts, by omega, by omega, by omega, HN, HW5, by omega⟩
    have hn47 : ¬ (some c = some (47 : UInt8)) := fun e => h47 (by cases e; rfl)
    rw [hat, decide_eq_false hn47] at HP3
    have HP3 := hid HP3
    clear hn47
    refine HP3.out.mono ?_
    rintro e w5 ⟨rfl, hR5, g5⟩
    have HR5 : Hid (Rd w5 R s a) := hid hR5
    have HW5 := hid (HW4.out.moved HR5.out g5)
    clear hR5 g5 HW4 HP3 HR4
    go_wp2_with fail
    have HAt := HAT.out w5 a alt HW5.out.rd (gr_bel HB0.out hR0 HW5.out.gr)
    have hnl := attr_name l a
    have hjl := Tag.attr_le l a (by rw [HZ.out]; exact alt)
    have hrn := (Tag.runs_attr atts hkl HA.out hat h62 h47).symm.trans hI.out
    obtain ⟨⟨n, v, J⟩, hatt⟩ : ∃ z, Tag.attrP l a = z := ⟨_, rfl⟩
    rw [hatt] at HAt hnl hjl hrn
    simp only at HAt hnl hjl hrn
    rw [HZ.out] at hnl hjl
    obtain ⟨j1, j2⟩ := hjl
    obtain ⟨N, hN⟩ : ∃ N, bs n = N := ⟨_, rfl⟩
    obtain ⟨V, hV⟩ : ∃ V, bs v = V := ⟨_, rfl⟩
    rw [hN, hV] at HAt
    have hNs : N.size ≤ 1000000 := by rw [← hN, show (bs n).size = n.length by rw [size_eq]; rfl]; omega
    have hhas : Maps.has (setN (namesR atts)) (keyN N.data.toList) = atts.any (fun z => z.1 == n) := by
      rw [← hN, show (bs n).data.toList = n from rfl, has_setN, namesR_has]
    have HKY := hid (key_of N hNs)
    have HHS := hid hhas
    have HRN := hid hrn
    have HN := hid hN
    have HV := hid hV
    have HAt := hid HAt
    clear hrn hI HA hkl hat h62 h47 hself hatt hN hV hhas hNs
    refine HAt.out.mono ?_
    rintro e w6 ⟨rfl, hR6, g6⟩
    have HR6 : Hid (Rd w6 R s J) := hid hR6
    have HW6 := hid (HW5.out.moved HR6.out g6)
    have HW7 := hid (HW6.out.alloc (.cells #[.string N, .string V] 53))
    have HA7 := hid (BlkW.new w6 #[.string N, .string V] 53)
    clear hR6 g6 HW5 HR5 HAt
    cases hany : atts.any (fun z => z.1 == n) with
    | true =>
      rw [hany] at HHS
      have HNX := hid (show Tag.runs l J atts = X by
        have h := HRN.out
        unfold Tag.addA at h
        rw [hany, if_pos rfl] at h
        exact h)
      clear hany HRN
      go_wp2_with (at_lookup; refine wpList_lookup_own_unit _ rfl _ _ 100 rfl 9 102 keyed_s Tryz.underlying100 (zero_unit _) M atts.length (setN (namesR atts)) rfl HW7.out.map _ _ rfl HKY.out ?_; rw [HHS.out])
      have HW8 := hid (HW7.out.alloc (.cells #[] 102))
      go_roundg (s.size + k0 - J)
      case measure => omega
      case rel => exact ⟨J, atts, by omega, by omega, by omega, HNX, HW8, by omega⟩
    | false =>
      rw [hany] at HHS
      have HNX := hid (show Tag.runs l J (atts ++ [(n, v)]) = X by
        have h := HRN.out
        unfold Tag.addA at h
        rw [hany] at h
        exact h)
      clear hany HRN
      have HW8 := hid (HW7.out.alloc (.cells #[] 102))
      have HA8 := hid (HA7.out.alloc (.cells #[] 102))
      have hM6 : M < w6.heap.size := by
        obtain ⟨es, clock, hb, _⟩ := HW6.out.map
        exact (Array.getElem?_eq_some_iff.1 hb).1
      have hAM : w6.heap.size ≠ M := by omega
      have hl1 : atts.length < maxLen := by unfold maxLen; omega
      have hlen4 : atts.length + 1 ≤ 4294967296 := by omega
      have HAM := hid hAM
      have HL1 := hid hl1
      clear hl1 hM6 hAM
      go_wp2_with (first
        | (at_lookup; refine wpList_lookup_own_unit _ rfl _ _ 100 rfl 9 102 keyed_s Tryz.underlying100 (zero_unit _) M atts.length (setN (namesR atts)) rfl HW7.out.map _ _ rfl HKY.out ?_; rw [HHS.out])
        | (at_mapUpdate; refine wpList_mapUpdate_own _ rfl _ _ _ 100 rfl 9 102 keyed_s Tryz.underlying100 unitElem M atts.length (setN (namesR atts)) rfl HW8.out.map HL1.out _ _ _ rfl rfl HKY.out (.agg []) [] unitElem_mk ?_; intro w9 hm9 hg9; have HM9 := hid hm9; have HG9 := hid hg9; have c90 : w9.cell? ⟨w6.heap.size, 0, none⟩ = some (.string N) := (HA8.out.grow hg9 (by simpa using HAM.out)).cell 0; have c91 : w9.cell? ⟨w6.heap.size, 1, none⟩ = some (.string V) := (HA8.out.grow hg9 (by simpa using HAM.out)).cell 1; have HOW := hid ((HW8.out.ownM hg9).alloc (.cells #[.string N, .string V] 53)); have HI1 : Hid (IsA (w9.alloc (.cells #[.string N, .string V] 53)) (some ⟨w9.heap.size, 0, none⟩) 1 [(n, v)]) := hid (isA_of_cells rfl (heap_alloc_new w9 _) (by rw [← HN.out, ← HV.out]; rfl)); have HBS : Hid (M + 1 ≤ (w9.alloc (.cells #[.string N, .string V] 53)).heap.size) := hid (by obtain ⟨es, clock, hb, _⟩ := HM9.out; have := (Array.getElem?_eq_some_iff.1 hb).1; simp; omega); clear hm9 hg9)
        | (at_builtin; refine append_T rfl _ _ rfl (M + 1) _ atts rfl HOW.out (some ⟨w9.heap.size, 0, none⟩) 1 1 [(n, v)] rfl HI1.out (fun h => by cases h) hlen4 HBS.out ?_))
      intro v' w' hown2 hgr
      have hm9 : w9.ownsMap Tryz.prog 9 (unitElem (H := Unit)) M (atts.length + 1) (setN (n :: namesR atts)) := by
        have h := HM9.out
        rw [← HN.out] at h
        exact h
      have HX := hid (HW8.out.added hm9 HG9.out (v := v) (by rw [List.length_append]; exact hown2) hgr)
      clear hown2 hgr hm9
      go_wp2
      go_roundg (s.size + k0 - J)
      case measure => omega
      case rel => exact ⟨J, atts ++ [(n, v)], by omega, by omega, by omega, HNX, HX, by rw [List.length_append]; simp; omega⟩
end Go.Proofs.YtgldgdopabmefaaGreatDoor
namespace Go.Proofs.YtgldgdopabmefaaGreatDoor
open Go.RowKit Go.Lib
set_option maxRecDepth 100000
set_option linter.unusedVariables false

theorem trim_at (l : List UInt8) (k : Nat) (q : UInt8) : trimPrefix (l.drop k) [q] = if l[k]? = some q then l.drop (k + 1) else l.drop k := by
  unfold trimPrefix
  rw [pre_at]
  by_cases h : l[k]? = some q
  · rw [if_pos h, decide_eq_true h, if_pos rfl, List.drop_drop]
    rfl
  · rw [if_neg h, decide_eq_false h, if_neg (by decide)]
theorem begB_from {l : List UInt8} {n : Nat} (h : l[n]? = some 60) : Tag.begB l n = (decide (Tag.fromP l n < l.length) && letterN (U8.B l (Tag.fromP l n))) := by
  have h0 : U8.B l n = 60 := U8.B_eq h
  have hl : n < l.length := (List.getElem?_eq_some_iff.1 h).1
  unfold Tag.fromP
  by_cases h1 : n + 1 < l.length
  · by_cases h47 : U8.B l (n + 1) = 47
    · rw [begB_end h1 h0 h47, if_pos h47]
    · rw [begB_name h1 h0 h47, if_neg h47, decide_eq_true h1, Bool.true_and]
  · rw [begB_short (by omega)]
    have : U8.B l (n + 1) = 0 := by unfold U8.B; simp [List.getElem?_eq_none (show l.length ≤ n + 1 by omega)]
    rw [this, if_neg (by decide), decide_eq_false h1, Bool.false_and]
theorem from_drop {l : List UInt8} {n : Nat} : (if l[n + 1]? = some 47 then l.drop (n + 1 + 1) else l.drop (n + 1)) = l.drop (Tag.fromP l n) := by
  unfold Tag.fromP
  by_cases h : l[n + 1]? = some 47
  · rw [if_pos h, if_pos (show U8.B l (n + 1) = 47 from U8.B_eq h)]
  · rw [if_neg h, if_neg]
    intro e
    by_cases h1 : n + 1 < l.length
    · have h2 := List.getElem?_eq_getElem h1
      have h3 := U8.B_eq h2
      rw [e] at h3
      exact h (by rw [h2]; congr 1; exact UInt8.toNat_inj.1 h3.symm)
    · have : U8.B l (n + 1) = 0 := by unfold U8.B; simp [List.getElem?_eq_none (show l.length ≤ n + 1 by omega)]
      omega
set_option maxHeartbeats 2000000 in
theorem cbegins_any (s : ByteArray) (i : Int) (w : World) (hs : s.size ≤ 1000000) (hi : -9223372036854775808 ≤ i ∧ i ≤ 9223372036854775807) :
    Calls Tryz.prog 29 #[.string s, .int .i64 i] w fun e w' => e = .returned (.bool (begI s.data.toList i)) ∧ w = w' := by
  obtain ⟨i1, i2⟩ := hi
  have hsl := size_list s
  by_cases hneg : i < 0
  · rw [begI_neg hneg]
    have d0 : decide (i < 0) = true := decide_eq_true hneg
    clear hsl
    go_enter Tryz.func29, Tryz.ntmps29
    go_wp2
    go_ret
    exact ⟨rfl, rfl⟩
  have d0 : decide (i < 0) = false := decide_eq_false hneg
  obtain ⟨n, rfl⟩ : ∃ n : Nat, i = n := ⟨i.toNat, by omega⟩
  rw [begI_nat]
  by_cases hlen : s.size ≤ n
  · rw [begB_short (by omega)]
    have d1 : decide ((s.size : Int) ≤ (n : Int)) = true := decide_eq_true (by omega)
    clear hsl
    go_enter Tryz.func29, Tryz.ntmps29
    go_wp2
    go_ret
    exact ⟨rfl, rfl⟩
  have d1 : decide ((s.size : Int) ≤ (n : Int)) = false := decide_eq_false (by omega)
  have d1N : decide (s.size ≤ n) = false := decide_eq_false (by omega)
  have q1 : ((n : Int)).toNat = n := by omega
  have q2 : (0 : Int) ≤ (n : Int) := by omega
  have q3 : (n : Int) ≤ (s.size : Int) := by omega
  have q4 : n ≤ s.size := by omega
  have HC := fun W => Tryz.strings_CutPrefix (s.extract n s.size) ⟨#[60]⟩ W
  rw [extract_drop, show (⟨#[60]⟩ : ByteArray).data.toList = [60] from rfl, trim_at, pre_at] at HC
  by_cases h60 : s.data.toList[n]? = some 60
  · rw [if_pos h60, decide_eq_true h60] at HC
    rw [begB_from h60]
    have HT := fun W => Tryz.strings_TrimPrefix ⟨(s.data.toList.drop (n + 1)).toArray⟩ ⟨#[47]⟩ W
    rw [show (⟨(s.data.toList.drop (n + 1)).toArray⟩ : ByteArray).data.toList = s.data.toList.drop (n + 1) from rfl, show (⟨#[47]⟩ : ByteArray).data.toList = [47] from rfl, trim_at, from_drop] at HT
    obtain ⟨j, hj⟩ : ∃ j, Tag.fromP s.data.toList n = j := ⟨_, rfl⟩
    rw [hj] at HT ⊢
    obtain ⟨Y, hY⟩ : ∃ Y : ByteArray, (⟨(s.data.toList.drop (n + 1)).toArray⟩ : ByteArray) = Y := ⟨_, rfl⟩
    obtain ⟨X, hX⟩ : ∃ X : ByteArray, (⟨(s.data.toList.drop j).toArray⟩ : ByteArray) = X := ⟨_, rfl⟩
    rw [hY] at HC HT
    rw [hX] at HT
    have hXl : X.data.toList = s.data.toList.drop j := by rw [← hX]
    have hXs : X.size = s.size - j := by rw [size_eq, hXl, List.length_drop, hsl]
    have hXe : X.toList.isEmpty = decide (s.size ≤ j) := by
      rw [ByteArray.toList_eq, hXl, Bool.eq_iff_iff]
      simp [hsl]
    by_cases hjl : j < s.size
    · have hx0 : 0 < X.size := by omega
      have hx0I : (0 : Int) < (X.size : Int) := by omega
      obtain ⟨c, hc⟩ : ∃ c, X[0]'hx0 = c := ⟨_, rfl⟩
      have hB := get_of X 0 hx0
      rw [hc, hXl, U8.B_drop, Nat.add_zero] at hB
      have hc256 := c.toNat_lt
      have HLt := cletter_any c.toNat (by omega)
      rw [decide_eq_false (by omega)] at hXe
      rw [decide_eq_true (by omega), Bool.true_and, ← hB]
      have HC := hid HC
      have HT := hid HT
      have HLt := hid HLt
      generalize letterN c.toNat = r at *
      clear hB hXl hXs hX hY hj h60 hsl hlen
      go_enter Tryz.func29, Tryz.ntmps29
      go_wp2_with fail
      refine (HC.out _).mono ?_
      rintro e w1 ⟨rfl, rfl⟩
      go_wp2_with fail
      refine (HT.out _).mono ?_
      rintro e w2 ⟨rfl, rfl⟩
      go_wp2_with fail
      refine (HLt.out _).mono ?_
      rintro e w3 ⟨rfl, rfl⟩
      go_wp2
      go_ret
      exact ⟨rfl, rfl⟩
    · rw [decide_eq_true (by omega)] at hXe
      rw [decide_eq_false (by omega), Bool.false_and]
      have HC := hid HC
      have HT := hid HT
      clear hXl hXs hX hY hj h60 hsl hlen
      go_enter Tryz.func29, Tryz.ntmps29
      go_wp2_with fail
      refine (HC.out _).mono ?_
      rintro e w1 ⟨rfl, rfl⟩
      go_wp2_with fail
      refine (HT.out _).mono ?_
      rintro e w2 ⟨rfl, rfl⟩
      go_wp2
      go_ret
      exact ⟨rfl, rfl⟩
  · rw [if_neg h60, decide_eq_false h60] at HC
    rw [begB_other (fun e => h60 (by
      have h2 := List.getElem?_eq_getElem (show n < s.data.toList.length by omega)
      have h3 := U8.B_eq h2
      rw [e] at h3
      rw [h2]; congr 1; exact UInt8.toNat_inj.1 h3.symm))]
    obtain ⟨Y, hY⟩ : ∃ Y : ByteArray, (⟨(s.data.toList.drop n).toArray⟩ : ByteArray) = Y := ⟨_, rfl⟩
    rw [hY] at HC
    have HT := fun W => Tryz.strings_TrimPrefix Y ⟨#[47]⟩ W
    have HC := hid HC
    have HT := hid HT
    clear hY h60 hsl hlen
    go_enter Tryz.func29, Tryz.ntmps29
    go_wp2_with fail
    refine (HC.out _).mono ?_
    rintro e w1 ⟨rfl, rfl⟩
    go_wp2_with fail
    refine (HT.out _).mono ?_
    rintro e w2 ⟨rfl, rfl⟩
    go_wp2
    go_ret
    exact ⟨rfl, rfl⟩
end Go.Proofs.YtgldgdopabmefaaGreatDoor
namespace Go.Proofs.YtgldgdopabmefaaGreatDoor
open Go.RowKit Go.Lib
set_option maxRecDepth 100000
set_option linter.unusedVariables false

theorem isA_kept {w w' : World} {ad : Option Addr} {n : Nat} {ls : List Tag.At} (h : IsA w ad n ls) (hk : ∀ x, ad = some x → w'.heap[x.block]? = w.heap[x.block]?) : IsA w' ad n ls := by
  refine ⟨h.1, h.2.elim .inl fun ⟨b, off, e, hat⟩ => .inr ⟨b, off, e, fun i l hi => ?_⟩⟩
  obtain ⟨h1, h2⟩ := hat i l hi
  have hb := hk _ e
  exact ⟨(World.cell?_of_block (a := ⟨b, off + i * 2, none⟩) hb).trans h1, (World.cell?_of_block (a := ⟨b, off + i * 2 + 1, none⟩) hb).trans h2⟩
theorem isEnd_at {l : List UInt8} {i : Nat} (h : i + 1 < l.length) : decide (l[i + 1]? = some 47) = Tag.isEnd l i := by
  unfold Tag.isEnd
  rw [U8.B_eq (List.getElem?_eq_getElem h), List.getElem?_eq_getElem h, Bool.eq_iff_iff]
  simp
  rw [← UInt8.toNat_inj]
  rfl
theorem fromP_end (l : List UInt8) (i : Nat) : Tag.fromP l i = if Tag.isEnd l i = true then i + 1 + 1 else i + 1 := by
  unfold Tag.fromP Tag.isEnd
  by_cases h : U8.B l (i + 1) = 47
  · rw [if_pos h, if_pos (by simpa using h)]
  · rw [if_neg h, if_neg (by simpa using h)]
set_option maxHeartbeats 2000000 in
theorem tread_no (s : ByteArray) (i : Int) (w : World) (hs : s.size ≤ 400000) (hi : -9223372036854775808 ≤ i ∧ i ≤ 9223372036854775807) (hb : begI s.data.toList i = false) :
    Calls Tryz.prog 30 #[.string s, .int .i64 i] w fun e w' => e = .returned (.tuple #[tokV 0 [] none 0 0 false [], .int .i64 i, .bool false]) ∧ Below w.heap.size w w' := by
  have HB := fun W => cbegins_any s i W (by omega) hi
  simp only [hb] at HB
  have HB := hid HB
  clear hb
  go_enter Tryz.func30, Tryz.ntmps30
  go_wp2_with fail
  refine (HB.out _).mono ?_
  rintro e w1 ⟨rfl, rfl⟩
  go_wp2
  go_returns
  exact ⟨rfl, (Below.refl _ _).alloc (Nat.le_refl _) _⟩
/-- The token out of the run over its attributes. -/
def readR (ie : Bool) (nm : List UInt8) : Option (List Tag.At × Nat × Bool) → Option (Tag.Tok × Nat)
  | none => none
  | some (atts, a, sf) => some ({ kind := if ie = true then 3 else 2, name := nm, atts := if ie = true then [] else atts, self := !ie && sf }, a + 1)
theorem read_eq (l : List UInt8) (i : Nat) : Tag.readP l i = readR (Tag.isEnd l i) (lowL (Tag.cutP l (Tag.fromP l i) (Tag.nameEnd l i))) (Tag.runs l (Tag.nameEnd l i) []) := by
  unfold Tag.readP
  cases Tag.runs l (Tag.nameEnd l i) [] <;> rfl
set_option maxHeartbeats 4000000 in
theorem tread_yesn (s : ByteArray) (i : Nat) (w : World) (hE0 : EntW w) (hs : s.size ≤ 400000) (hb : Tag.begB s.data.toList i = true) :
    Calls Tryz.prog 30 #[.string s, .int .i64 i] w fun e w' => (TagE s.data.toList i s.size e w' ∧ NewE w.heap.size e w') ∧ Below w.heap.size w w' := by
  have hsl := size_list s
  obtain ⟨h1, h2, h3, h4⟩ := Tag.beg_lt hb
  have hfr := fromP_end s.data.toList i
  have HB := fun W => cbegins_any s i W (by omega) (by omega)
  simp only [begI_nat, hb] at HB
  obtain ⟨ie, hie⟩ : ∃ ie, Tag.isEnd s.data.toList i = ie := ⟨_, rfl⟩
  have hpre := isEnd_at h1
  rw [hie] at hpre hfr
  obtain ⟨f, hf⟩ : ∃ f, Tag.fromP s.data.toList i = f := ⟨_, rfl⟩
  rw [hf] at hfr h3
  have HP := fun W R (h : Rd W R s (i + 1)) => passes_any ⟨#[47]⟩ ie R (i + 1) s W (by omega) (by omega) h (by rw [show (⟨#[47]⟩ : ByteArray).data.toList = [47] from rfl, pre_at, hpre])
  unfold Passed at HP
  rw [show (⟨#[47]⟩ : ByteArray).size = 1 from rfl, ← hfr] at HP
  obtain ⟨n, hn⟩ : ∃ n, Tag.skip (Tag.wdB false) s.data.toList f = n := ⟨_, rfl⟩
  have n2 := Tag.skip_le (Tag.wdB false) s.data.toList f (by omega)
  have n1 := Tag.skip_ge (Tag.wdB false) s.data.toList f
  rw [hn] at n1 n2
  have HT := fun W R B (h : Rd W R s f) (hB : W.cell? ⟨B, 0, none⟩ = some (.string ⟨#[47, 62]⟩)) (hne : B ≠ R) => take_until ⟨#[47, 62]⟩ B R f s W (by omega) (by omega) h hB hne
  unfold Took at HT
  simp only [show untilB (⟨#[47, 62]⟩ : ByteArray).data.toList = Tag.wdB false from funext until_name, hn] at HT
  have HL := fun W => clower_any (s.extract f n) W (by rw [cut_size s f n (by omega) n1]; omega)
  simp only [cut_list] at HL
  obtain ⟨nm, hnm⟩ : ∃ nm, lowL (Tag.cutP s.data.toList f n) = nm := ⟨_, rfl⟩
  rw [hnm] at HL
  obtain ⟨N, hN⟩ : ∃ N, bs nm = N := ⟨_, rfl⟩
  have HL : Hid (∀ W, Calls Tryz.prog 24 #[.string (s.extract f n)] W fun e w' => e = .returned (.string N) ∧ Below W.heap.size W w') := hid (by rw [← hN]; exact HL)
  have HA := fun W R (h : Rd W R s n) (hb0 : Below w.heap.size w W) (hR0 : w.heap.size ≤ R) => attributes_any w hE0 R n s W hs (by omega) h hb0 hR0
  obtain ⟨X, hX⟩ : ∃ X, Tag.runs s.data.toList n [] = X := ⟨_, rfl⟩
  rw [hX] at HA
  have HA := hid HA
  have HXX := hid hX
  clear hX
  have hread := read_eq s.data.toList i
  rw [show Tag.nameEnd s.data.toList i = n by unfold Tag.nameEnd; rw [hf, hn], hf, hie, hnm, HXX.out] at hread
  have HRD := hid hread
  have HB := hid HB
  have HP := hid HP
  have HT := hid HT
  have HN := hid hN
  have HZ := hid hsl
  have hR1 : BlkW ((w.alloc (.cells #[.int .u8 0, .string ⟨#[]⟩, .slice none 0 0, .bool false, .string ⟨#[]⟩] 24)).alloc (.cells #[.string s, .int .i64 ((i : Int) + 1)] 80)) (w.heap.size + 1) #[.string s, .int .i64 ((i : Int) + 1)] 80 := by
    have := BlkW.new (w.alloc (.cells #[.int .u8 0, .string ⟨#[]⟩, .slice none 0 0, .bool false, .string ⟨#[]⟩] 24)) #[.string s, .int .i64 ((i : Int) + 1)] 80
    rwa [show (w.alloc (.cells #[.int .u8 0, .string ⟨#[]⟩, .slice none 0 0, .bool false, .string ⟨#[]⟩] 24)).heap.size = w.heap.size + 1 by simp] at this
  have hH1 := (BlkW.new w #[.int .u8 0, .string ⟨#[]⟩, .slice none 0 0, .bool false, .string ⟨#[]⟩] 24).alloc (.cells #[.string s, .int .i64 ((i : Int) + 1)] 80)
  have hB1 := ((Below.refl w.heap.size w).alloc (Nat.le_refl _) (.cells #[.int .u8 0, .string ⟨#[]⟩, .slice none 0 0, .bool false, .string ⟨#[]⟩] 24)).alloc (by simp) (.cells #[.string s, .int .i64 ((i : Int) + 1)] 80)
  have HR1 := hid hR1
  have HH1 := hid hH1
  have HB1 := hid hB1
  obtain ⟨H, hH⟩ : ∃ H, w.heap.size = H := ⟨_, rfl⟩
  have HHW := hid hH
  have hi9 : (i : Int) + 1 ≤ 1000000 := by omega
  clear hb h1 h2 h3 h4 hfr hie hpre hf hn n1 n2 hnm HXX hread hN hsl hR1 hH1 hB1 hH
  go_enter Tryz.func30, Tryz.ntmps30
  go_wp2_with fail
  refine (HB.out _).mono ?_
  rintro e w1 ⟨rfl, rfl⟩
  go_wp2_with fail
  have HLE := hid (Nat.le_of_eq HHW.out)
  rw [HHW.out] at HR1 HH1 ⊢
  obtain ⟨W1, hW1⟩ : ∃ W1, ((w.alloc (.cells #[.int .u8 0, .string ⟨#[]⟩, .slice none 0 0, .bool false, .string ⟨#[]⟩] 24)).alloc (.cells #[.string s, .int .i64 ((i : Int) + 1)] 80)) = W1 := ⟨_, rfl⟩
  rw [hW1] at HR1 HH1 HB1 ⊢
  clear hW1
  have HR1 : Hid (Rd W1 (H + 1) s (i + 1)) := HR1
  refine (HP.out _ _ HR1.out).mono ?_
  rintro e w2 ⟨rfl, hR2, g2⟩
  have HR2 : Hid (Rd w2 (H + 1) s f) := hid hR2
  have HH2 := hid (blk_gr HH1.out g2 (by omega))
  have HB2 : Hid (Below w.heap.size w w2) := hid (HB1.out.grown g2 HB1.out.size (fun k hk => by cases hk; have := HLE.out; omega))
  clear hR2 g2 HR1 HH1 HB1 HP
  go_wp2_with fail
  refine (until_any ⟨#[47, 62]⟩ _).mono ?_
  rintro e w3 ⟨rfl, rfl⟩
  have HR3 : Hid (Rd (w2.alloc (.cells #[.string ⟨#[47, 62]⟩] 9)) (H + 1) s f) := hid (BlkW.alloc HR2.out _)
  have HH3 := hid (HH2.out.alloc (.cells #[.string ⟨#[47, 62]⟩] 9))
  have HB3 := hid (HB2.out.alloc HB2.out.size (.cells #[.string ⟨#[47, 62]⟩] 9))
  have HC3 : Hid ((w2.alloc (.cells #[.string ⟨#[47, 62]⟩] 9)).cell? ⟨w2.heap.size, 0, none⟩ = some (.string ⟨#[47, 62]⟩)) := hid ((BlkW.new w2 #[.string ⟨#[47, 62]⟩] 9).cell 0)
  have HN3 : Hid (w2.heap.size ≠ H + 1) := hid (by have := BlkW.lt HR2.out; omega)
  clear HR2 HH2 HB2
  go_wp2_with fail
  refine (HT.out _ _ _ HR3.out HC3.out HN3.out).mono ?_
  rintro e w4 ⟨rfl, hR4, g4⟩
  have HR4 : Hid (Rd w4 (H + 1) s n) := hid hR4
  have HH4 := hid (blk_gr HH3.out g4 (by omega))
  have HB4 : Hid (Below w.heap.size w w4) := hid (HB3.out.grown g4 HB3.out.size (fun k hk => by cases hk; have := HLE.out; omega))
  clear hR4 g4 HR3 HH3 HB3 HC3 HN3 HT
  go_wp2_with fail
  refine (HL.out _).mono ?_
  rintro e w5 ⟨rfl, b5⟩
  have HR5 : Hid (Rd w5 (H + 1) s n) := hid (BlkW.below HR4.out b5 (BlkW.lt HR4.out))
  have HH5 := hid (HH4.out.below b5 HH4.out.lt)
  have HB5 := hid (HB4.out.trans (b5.mono HB4.out.size))
  clear b5 HR4 HH4 HB4 HL
  go_wp2_with fail
  refine (HA.out _ _ HR5.out HB5.out (by have := HLE.out; omega)).mono ?_
  rintro e w6 hA6
  have HH5S := hid (show H < w5.heap.size from HH5.out.lt)
  unfold AttrsE at hA6
  cases X with
  | none =>
    obtain ⟨rfl, g6⟩ := hA6
    have HH6 := blk_gr HH5.out g6 (by omega)
    have HB6 : Below w.heap.size w w6 := HB5.out.grown g6 HB5.out.size (fun k hk => by cases hk; have := HLE.out; omega)
    obtain ⟨W7, hW7, z0, z1, z2, z3, z4, hb7, _⟩ := tok_store HH6 HB6 HLE.out (.int .u8 0) (.string ⟨#[]⟩) (.slice none 0 0) (.bool false) (.string ⟨#[]⟩)
    have r0 := HH6.cell 0
    have r1 := HH6.cell 1
    have r2 := HH6.cell 2
    have r3 := HH6.cell 3
    have r4 := HH6.cell 4
    have f0 := HH6.free 0
    have f1 := HH6.free 1
    have f2 := HH6.free 2
    have f3 := HH6.free 3
    have f4 := HH6.free 4
    simp only [List.getElem?_toArray, List.getElem?_cons_zero, List.getElem?_cons_succ] at r0 r1 r2 r3 r4
    have HW7 := hid hW7
    have HB7 := hid hb7
    clear hW7 hb7 HH6 HB6 g6 HR5 HH5 HB5 HA
    go_wp2
    rw [HW7.out]
    refine bodyPost_ret (v := .tuple #[.agg #[.int .u8 0, .string ⟨#[]⟩, .slice none 0 0, .bool false, .string ⟨#[]⟩], .int .i64 s.size, .bool false]) (by simp [results, Tryz.results30, go_sem, z0, z1, z2, z3, z4]) rfl ?_
    unfold TagE
    rw [HRD.out]
    exact ⟨⟨rfl, newE_none⟩, HB7.out⟩
  | some x =>
    obtain ⟨atts, m, sf⟩ := x
    obtain ⟨ad, cp, rfl, hIs, hR6, g6, hal, hbk, htb⟩ := hA6
    have HH6 := blk_gr HH5.out g6 (by omega)
    have HB6 : Below w.heap.size w w6 := HB5.out.grown g6 HB5.out.size (fun k hk => by cases hk; have := HLE.out; omega)
    obtain ⟨c0, c1, _⟩ := rd_at _ _ _ _ hR6
    have r0 := HH6.cell 0
    have r1 := HH6.cell 1
    have r2 := HH6.cell 2
    have r3 := HH6.cell 3
    have r4 := HH6.cell 4
    have f0 := HH6.free 0
    have f1 := HH6.free 1
    have f2 := HH6.free 2
    have f3 := HH6.free 3
    have f4 := HH6.free 4
    simp only [List.getElem?_toArray, List.getElem?_cons_zero, List.getElem?_cons_succ] at r0 r1 r2 r3 r4
    cases ie with
    | true =>
      obtain ⟨W7, hW7, z0, z1, z2, z3, z4, hb7, hk7⟩ := tok_store HH6 HB6 HLE.out (.int .u8 3) (.string N) (.slice none 0 0) (.bool false) (.string ⟨#[]⟩)
      have HW7 := hid hW7
      have HB7 := hid hb7
      clear hW7 hb7 HB6 g6 HR5 HH5 HB5 HA hIs hbk htb hk7 HH6
      go_wp2
      go_region
      all_goals
        rw [HW7.out]
        go_wp2
        refine bodyPost_ret (v := .tuple #[.agg #[.int .u8 3, .string N, .slice none 0 0, .bool false, .string ⟨#[]⟩], .int .i64 ((m + 1 : Nat) : Int), .bool true]) (by simp [results, Tryz.results30, go_sem, z0, z1, z2, z3, z4]) rfl ?_
        unfold TagE
        rw [HRD.out, ← HN.out]
        exact ⟨⟨⟨none, 0, 0, rfl, ⟨rfl, .inl rfl⟩, Nat.zero_le _⟩, newE_none⟩, HB7.out.drew⟩
    | false =>
      obtain ⟨W7, hW7, z0, z1, z2, z3, z4, hb7, hk7⟩ := tok_store HH6 HB6 HLE.out (.int .u8 2) (.string N) (.slice ad atts.length cp) (.bool sf) (.string ⟨#[]⟩)
      have HW7 := hid hW7
      have HB7 := hid hb7
      have IS7 := hid (isA_kept hIs (w' := W7) (fun x hx => hk7 x.block (by have := hbk x hx; have := HH5S.out; omega)))
      have HNB := hid (show NewB w.heap.size W7 ad from fun x hx => ⟨by have := hbk x hx; have := HH5S.out; have := HLE.out; omega, by rw [hk7 x.block (by have := hbk x hx; have := HH5S.out; omega)]; exact htb x hx⟩)
      have HAL := hid (show atts.length ≤ s.data.toList.length by rw [HZ.out]; exact hal)
      clear hW7 hb7 HB6 g6 HR5 HH5 HB5 HA hIs hbk htb hk7 HH6
      go_wp2
      go_region
      all_goals
        rw [HW7.out]
        go_wp2
        refine bodyPost_ret (v := .tuple #[.agg #[.int .u8 2, .string N, .slice ad atts.length cp, .bool sf, .string ⟨#[]⟩], .int .i64 ((m + 1 : Nat) : Int), .bool true]) (by simp [results, Tryz.results30, go_sem, z0, z1, z2, z3, z4]) rfl ?_
        unfold TagE
        rw [HRD.out, ← HN.out]
        exact ⟨⟨⟨ad, atts.length, cp, rfl, IS7.out, HAL.out⟩, newE_slice HNB.out⟩, HB7.out.drew⟩
theorem tread_yes (s : ByteArray) (i : Nat) (w : World) (hE0 : EntW w) (hs : s.size ≤ 400000) (hb : Tag.begB s.data.toList i = true) :
    Calls Tryz.prog 30 #[.string s, .int .i64 i] w fun e w' => TagE s.data.toList i s.size e w' ∧ Below w.heap.size w w' :=
  (tread_yesn s i w hE0 hs hb).mono fun e w' ⟨h1, h2⟩ => ⟨h1.1, h2⟩
end Go.Proofs.YtgldgdopabmefaaGreatDoor
namespace Go.Proofs.YtgldgdopabmefaaGreatDoor
open Go.RowKit Go.Lib
set_option maxRecDepth 100000
set_option linter.unusedVariables false

theorem tread_any (s : ByteArray) (i : Int) (w : World) (hE0 : EntW w) (hs : s.size ≤ 400000) (hi : -9223372036854775808 ≤ i ∧ i ≤ 9223372036854775807) :
    Calls Tryz.prog 30 #[.string s, .int .i64 i] w fun e w' => ReadE s.data.toList i s.size e w' ∧ Below w.heap.size w w' := by
  cases hb : begI s.data.toList i with
  | false => exact (tread_no s i w hs hi hb).mono fun e w' ⟨h1, h2⟩ => ⟨readE_no hb h1, h2⟩
  | true =>
    obtain ⟨n, rfl, hn⟩ := begI_cases hb
    exact (tread_yes s n w hE0 hs hn).mono fun e w' ⟨h1, h2⟩ => ⟨readE_yes hn h1, h2⟩
theorem tread_new (s : ByteArray) (i : Int) (w : World) (hE0 : EntW w) (hs : s.size ≤ 400000) (hi : -9223372036854775808 ≤ i ∧ i ≤ 9223372036854775807) :
    Calls Tryz.prog 30 #[.string s, .int .i64 i] w fun e w' => (ReadE s.data.toList i s.size e w' ∧ NewE w.heap.size e w') ∧ Below w.heap.size w w' := by
  cases hb : begI s.data.toList i with
  | false => exact (tread_no s i w hs hi hb).mono fun e w' ⟨h1, h2⟩ => ⟨⟨readE_no hb h1, by rw [h1]; exact newE_none⟩, h2⟩
  | true =>
    obtain ⟨n, rfl, hn⟩ := begI_cases hb
    exact (tread_yesn s n w hE0 hs hn).mono fun e w' ⟨h1, h2⟩ => ⟨⟨readE_yes hn h1.1, h1.2⟩, h2⟩
end Go.Proofs.YtgldgdopabmefaaGreatDoor
