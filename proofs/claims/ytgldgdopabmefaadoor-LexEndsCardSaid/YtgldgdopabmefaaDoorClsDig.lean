/- Laws that every walk uses: worlds, byte strings as lists, slices of bytes, what range tells of a string. Laws that every walk uses; a slice of bytes as a text. Plain: what a byte is. What walks over the library's Builder and Cut share. Walks: package class, digits. -/
import Derived.Test.YtgldgdopabmefaaDoorProg
import Derived.Test.YtgldgdopabmefaaDoorTxt
import Derived.Test.YtgldgdopabmefaaDoorShelf
import Derived.WalkKit
import Derived.WalkLawsBesides
import Derived.Deep.QuietTactic
import Derived.BigQuiet
import Derived.Deep.DeepFit
import Derived.Deep.DeepMust
import Derived.Lib.Hide
import Derived.Lib.LaidU8
import Derived.Lib.OthersKept
import Derived.BigCall
import Derived.Laws.AppendOwn
import Derived.Laws.IdiomStrings
import Derived.Laws.BytesArg
namespace Go.Proofs.YtgldgdopabmefaaDoor
open Go.RowKit Go.Lib
set_option maxRecDepth 100000
set_option linter.unusedVariables false

theorem ret_bool' {a b : Bool} (h : a = b) : Ending.returned (.bool a) = .returned (.bool b) := by rw [h]
theorem bel_drewN {B : Nat} {a w : World} (h : Below B a w) (n : Nat) : Below B a (w.drewN n) := h.trans ⟨rfl, rfl, rfl, Nat.le_refl _, fun _ _ => rfl⟩
theorem get_of (s : ByteArray) (i : Nat) (h : i < s.size) : (s[i]'h).toNat = U8.B s.data.toList i := by
  rw [U8.B_eq (c := s[i]'h)]
  rw [List.getElem?_eq_getElem (by simpa using h)]
  rfl
theorem size_list (s : ByteArray) : s.data.toList.length = s.size := (size_eq s).symm
theorem extract_list (s : ByteArray) (k : Nat) : (s.extract 0 k).data.toList = s.data.toList.take k := by
  rw [extract_data, List.drop_zero, Nat.sub_zero]
theorem size_extract0 (s : ByteArray) (k : Nat) (h : k ≤ s.size) : (s.extract 0 k).size = k := by
  rw [size_eq, extract_list, List.length_take, ← size_eq]; omega
theorem get!_B (s : ByteArray) (i : Nat) : (s.get! i).toNat = U8.B s.data.toList i := by
  obtain ⟨⟨l⟩⟩ := s
  show ((⟨l⟩ : Array UInt8)[i]!).toNat = _
  simp [U8.B, List.getD, List.getElem!_eq_getElem?_getD]
  rfl
theorem decode_dec (s : ByteArray) (pos : Nat) : Utf8.decode s pos = U8.dec (s.data.toList.drop pos) := by
  rw [decode_at, U8.dec, U8.B_drop, U8.B_drop, U8.B_drop, U8.B_drop, List.length_drop, size_list, get!_B, get!_B, get!_B, get!_B]
  rfl
theorem extract_drop (s : ByteArray) (k : Nat) : (s.extract k s.size).data.toList = s.data.toList.drop k := by
  rw [extract_data, List.take_of_length_le]
  rw [List.length_drop, size_list]; exact Nat.le_refl _
/-- What the iterator tells next. -/
theorem next_any (w : World) (k : Nat) (s : ByteArray) (pos : Nat) (hk : w.heap[k]? = some (.stringIter s pos)) (h : pos < s.size) :
    ∃ r wd : Nat, U8.dec (s.data.toList.drop pos) = (r, wd) ∧ 1 ≤ wd ∧ pos + wd ≤ s.size ∧ r ≤ 1114111 ∧
      ∀ ty, (Instr.next (.pointer (some ⟨k, 0, none⟩)) true ty).run Tryd.prog w = .ok (.tuple #[.bool true, .int .i64 pos, .int .i32 r]) (w.iterAt k s (pos + wd)) := by
  have hne := U8.drop_ne (l := s.data.toList) (pos := pos) (by rw [size_list]; exact h)
  have hw := U8.dec_width _ hne
  rw [List.length_drop, size_list] at hw
  have hx : ∀ ty, (Instr.next (.pointer (some ⟨k, 0, none⟩)) true ty).run Tryd.prog w = .ok (.tuple #[.bool true, .int .i64 pos, .int .i32 (U8.dec (s.data.toList.drop pos)).1]) (w.iterAt k s (pos + (U8.dec (s.data.toList.drop pos)).2)) := fun ty => by
    rw [run_next_any_at w k s pos ty hk h, decode_dec]
  obtain ⟨q, hq⟩ : ∃ q, U8.dec (s.data.toList.drop pos) = q := ⟨_, rfl⟩
  rw [hq] at hw hx
  exact ⟨q.1, q.2, hq, hw.1, by omega, hw.2.2, hx⟩
/-- From here on lie these bytes. -/
def BytesAt (w : World) (b off : Nat) (l : List UInt8) : Prop := ∀ i, i < l.length → w.cell? ⟨b, off + i, none⟩ = some (.int .u8 (U8.B l i))
theorem BytesAt.mono {w w' : World} {b off : Nat} {l : List UInt8} (h : BytesAt w b off l) (hb : ∀ o, w'.cell? ⟨b, o, none⟩ = w.cell? ⟨b, o, none⟩) : BytesAt w' b off l :=
  fun i hi => (hb _).trans (h i hi)
theorem BytesAt.drop {w : World} {b off : Nat} {l : List UInt8} (h : BytesAt w b off l) (k : Nat) : BytesAt w b (off + k) (l.drop k) := by
  intro i hi
  rw [U8.B_drop, Nat.add_assoc]
  exact h (k + i) (by simp at hi; omega)
theorem BytesAt.take {w : World} {b off : Nat} {l : List UInt8} (h : BytesAt w b off l) (k : Nat) : BytesAt w b off (l.take k) := by
  intro i hi
  simp at hi
  rw [U8.B_take _ _ _ (by omega)]
  exact h i (by omega)
/-- A slice of bytes, nil or empty or from somewhere on. -/
def IsB (w : World) (a : Option Addr) (len : Nat) (l : List UInt8) : Prop :=
  l.length = len ∧ (len = 0 ∨ ∃ b off, a = some ⟨b, off, none⟩ ∧ BytesAt w b off l)
theorem addr_add (b off j : Nat) : (⟨b, off, none⟩ : Addr).add j = ⟨b, off + j, none⟩ := by unfold Addr.add; split <;> simp_all
theorem bom_iff (l : List UInt8) : hasPrefix l [239, 187, 191] = true ↔ 3 ≤ l.length ∧ U8.B l 0 = 239 ∧ U8.B l 1 = 187 ∧ U8.B l 2 = 191 := by
  unfold hasPrefix
  rw [List.isPrefixOf_iff_prefix, List.prefix_iff_eq_take]
  constructor
  · intro h
    have hl := congrArg List.length h
    simp at hl
    have h0 := congrArg (fun x => U8.B x 0) h
    have h1 := congrArg (fun x => U8.B x 1) h
    have h2 := congrArg (fun x => U8.B x 2) h
    simp only [List.length_cons, List.length_nil] at h0 h1 h2
    rw [U8.B_take _ _ _ (by omega)] at h0 h1 h2
    exact ⟨by omega, h0.symm, h1.symm, h2.symm⟩
  · rintro ⟨h, h0, h1, h2⟩
    show _ = l.take 3
    rw [U8.take_three l h, h0, h1, h2]
    rfl
theorem trim_yes {l : List UInt8} (h : 3 ≤ l.length ∧ U8.B l 0 = 239 ∧ U8.B l 1 = 187 ∧ U8.B l 2 = 191) : trimPrefix l [239, 187, 191] = l.drop 3 := by
  rw [trimPrefix, if_pos ((bom_iff l).2 h)]; rfl
theorem trim_no {l : List UInt8} (h : ¬ (3 ≤ l.length ∧ U8.B l 0 = 239 ∧ U8.B l 1 = 187 ∧ U8.B l 2 = 191)) : trimPrefix l [239, 187, 191] = l := by
  rw [trimPrefix, if_neg (fun x => h ((bom_iff l).1 x))]
theorem own_below {w w' : World} {base : Nat} {e : TypeId} {size : Nat} {v : Value} {n : Nat} {xs : List Value} (h : w.ownsRow base e size v n xs) (hb : Below w.heap.size w w') : w'.ownsRow base e size v n xs :=
  h.kept (row := none) ⟨hb.os, hb.tape, hb.output, hb.size, fun k hk _ => hb.block k hk⟩ (Classical.em _)
theorem own_ge {w : World} {base : Nat} {e : TypeId} {size : Nat} {v : Value} {n : Nat} {xs : List Value} (h : w.ownsRow base e size v n xs) : ∀ k, v.ownBlock = some k → base ≤ k := by
  intro k hk
  obtain ⟨_, ⟨rfl, h0⟩ | ⟨g, cap, cur, rfl, hb, _⟩⟩ := h
  · simp [Value.ownBlock] at hk
  · simp [Value.ownBlock] at hk; omega
end Go.Proofs.YtgldgdopabmefaaDoor
namespace Go.Proofs.YtgldgdopabmefaaDoor
open Go.RowKit Go.Lib
set_option maxRecDepth 100000
set_option linter.unusedVariables false

theorem conv_bytes {w : World} {a : Option Addr} {len : Nat} {l : List UInt8} (h : IsB w a len l) (cap : Nat) :
    (convert 51 9 (.slice a len cap)).run Tryd.prog w = .ok (.string ⟨l.toArray⟩) w := by
  obtain ⟨hl, h0 | ⟨b, off, rfl, hat⟩⟩ := h
  · subst h0
    obtain rfl : l = [] := List.length_eq_zero_iff.1 hl
    cases a with
    | none => exact run_convert_bytes_nil w _ _ Tryd.underlying51 Tryd.underlying5 0 cap _ Tryd.underlying9
    | some x => exact run_convert_bytes_back w _ _ _ x cap [] Tryd.underlying51 Tryd.underlying5 Tryd.underlying9 (fun j hj => absurd hj (by simp))
  · subst hl
    refine run_convert_bytes_back w _ _ _ ⟨b, off, none⟩ cap l Tryd.underlying51 Tryd.underlying5 Tryd.underlying9 (fun j hj => ?_)
    rw [addr_add, hat j hj, U8.B_eq (List.getElem?_eq_getElem hj)]
end Go.Proofs.YtgldgdopabmefaaDoor
namespace Go.Proofs.YtgldgdopabmefaaDoor
open Go.RowKit Go.Lib
set_option maxRecDepth 100000
set_option linter.unusedVariables false
def letterN (c : Nat) : Bool := decide ((97 ≤ c ∧ c ≤ 122) ∨ (65 ≤ c ∧ c ≤ 90))
def digitN (c : Nat) : Bool := decide (48 ≤ c ∧ c ≤ 57)
def hexN (c : Nat) : Int := if 48 ≤ c ∧ c ≤ 57 then c - 48 else if 97 ≤ c ∧ c ≤ 102 then c - 97 + 10 else if 65 ≤ c ∧ c ≤ 70 then c - 65 + 10 else -1
def spaceN (c : Nat) : Bool := decide (c = 9 ∨ c = 10 ∨ c = 12 ∨ c = 13 ∨ c = 32)
def blankR (r : Int) : Bool := decide (r = 9 ∨ r = 10 ∨ r = 12 ∨ r = 13 ∨ r = 32 ∨ r = 160 ∨ r = 5760 ∨ (8192 ≤ r ∧ r ≤ 8202) ∨ r = 8239 ∨ r = 8287 ∨ r = 12288)
end Go.Proofs.YtgldgdopabmefaaDoor
namespace Go.Proofs.YtgldgdopabmefaaDoor
open Go.RowKit Go.Lib
set_option maxRecDepth 100000
set_option linter.unusedVariables false

/-- A variable of the library's own holds some number. -/
def MaxCell (w : World) : Prop := ∃ m, w.cell? ⟨0, 0, none⟩ = some (.int .i64 m)
theorem max_below {w w' : World} (h : MaxCell w) (hb : Below w.heap.size w w') : MaxCell w' := by
  obtain ⟨m, hm⟩ := h
  exact ⟨m, (hb.cell (p := ⟨0, 0, none⟩) (World.block_lt_of_cell? _ _ hm)).trans hm⟩
theorem ebuilder_below {T e : TypeId} {B b : Nat} {p : Value} {bs : List Value} {W W' : World} (h : BuilderAtF T e B b p bs W) (hb : Below W.heap.size W W') : BuilderAtF T e B b p bs W' := by
  obtain ⟨hB, v, hv, hown, hne⟩ := h
  have hlt : b < W.heap.size := (Array.getElem?_eq_some_iff.1 hv).1
  exact ⟨hB, v, (hb.block b hlt).trans hv, hown.kept (row := none) ⟨hb.os, hb.tape, hb.output, hb.size, fun k hk _ => hb.block k hk⟩ (Classical.em _), hne⟩
theorem ebuilder_in {T e : TypeId} {B b : Nat} {bs : List Value} {W W' : World} (h : IsBuilderF T e B b bs W) (hb : Below W.heap.size W W') : IsBuilderF T e B b bs W' :=
  h.elim (fun x => .inl (ebuilder_below x hb)) (fun x => .inr (ebuilder_below x hb))

theorem bytes_beq (x y : ByteArray) : (x == y) = (x.data == y.data) := rfl
theorem bytes_ne {x y : ByteArray} (h : x ≠ y) : (x == y) = false := by
  rw [bytes_beq]
  exact beq_eq_false_iff_ne.2 fun e => h (ByteArray.ext e)
theorem bytes_eq {x y : ByteArray} (h : x = y) : (x == y) = true := by
  rw [bytes_beq, h]; simp
end Go.Proofs.YtgldgdopabmefaaDoor
namespace Go.Proofs.YtgldgdopabmefaaDoor
open Go.RowKit Go.Lib
set_option maxRecDepth 100000
set_option linter.unusedVariables false

theorem cdigit_any (c : Nat) (hc : c < 256) (w : World) :
    Calls Tryd.prog 73 #[.int .u8 c] w fun e w' => e = .returned (.bool (digitN c)) ∧ w = w' := by
  rcases (show c < 48 ∨ 57 < c ∨ (48 ≤ c ∧ c ≤ 57) by omega) with h | h | ⟨h, h2⟩
  · have e : digitN c = false := by simp only [digitN]; exact decide_eq_false (by omega)
    rw [e]; clear e
    go_enter Tryd.func73, Tryd.ntmps73
    go_wp2
    go_ret
    first | exact ⟨rfl, rfl⟩ | exact ⟨by simp; omega, rfl⟩
  · have e : digitN c = false := by simp only [digitN]; exact decide_eq_false (by omega)
    rw [e]; clear e
    have h2 : 48 ≤ c := by omega
    go_enter Tryd.func73, Tryd.ntmps73
    go_wp2
    go_ret
    first | exact ⟨rfl, rfl⟩ | exact ⟨by simp; omega, rfl⟩
  · have e : digitN c = true := by simp only [digitN]; exact decide_eq_true (by omega)
    rw [e]; clear e
    go_enter Tryd.func73, Tryd.ntmps73
    go_wp2
    go_ret
    first | exact ⟨rfl, rfl⟩ | exact ⟨by simp; omega, rfl⟩
end Go.Proofs.YtgldgdopabmefaaDoor
