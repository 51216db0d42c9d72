/- Laws that every walk uses: worlds, byte strings as lists, slices of bytes, what range tells of a string. -/
import Derived.Test.YtmgbjkekfejnfaaProg
import Derived.Test.YtmgbjkekfejnfaaTxt
import Derived.WalkKit
import Derived.WalkLawsBesides
import Derived.Deep.QuietTactic
import Derived.BigQuiet
import Derived.Deep.DeepFit
import Derived.Deep.DeepMust
import Derived.Lib.Hide
import Derived.Lib.LaidU8
import Derived.Lib.OthersKept
import Derived.BigCall
import Derived.Laws.AppendOwn
import Derived.Laws.IdiomStrings
import Derived.Laws.BytesArg
namespace Go.Proofs.Ytmgbjkekfejnfaa
open Go.RowKit Go.Lib
set_option maxRecDepth 100000
set_option linter.unusedVariables false

theorem ret_bool' {a b : Bool} (h : a = b) : Ending.returned (.bool a) = .returned (.bool b) := by rw [h]
theorem bel_drewN {B : Nat} {a w : World} (h : Below B a w) (n : Nat) : Below B a (w.drewN n) := h.trans ⟨rfl, rfl, rfl, Nat.le_refl _, fun _ _ => rfl⟩
theorem get_of (s : ByteArray) (i : Nat) (h : i < s.size) : (s[i]'h).toNat = U8.B s.data.toList i := by
  rw [U8.B_eq (c := s[i]'h)]
  rw [List.getElem?_eq_getElem (by simpa using h)]
  rfl
theorem size_list (s : ByteArray) : s.data.toList.length = s.size := (size_eq s).symm
theorem extract_list (s : ByteArray) (k : Nat) : (s.extract 0 k).data.toList = s.data.toList.take k := by
  rw [extract_data, List.drop_zero, Nat.sub_zero]
theorem size_extract0 (s : ByteArray) (k : Nat) (h : k ≤ s.size) : (s.extract 0 k).size = k := by
  rw [size_eq, extract_list, List.length_take, ← size_eq]; omega
theorem get!_B (s : ByteArray) (i : Nat) : (s.get! i).toNat = U8.B s.data.toList i := by
  obtain ⟨⟨l⟩⟩ := s
  show ((⟨l⟩ : Array UInt8)[i]!).toNat = _
  simp [U8.B, List.getD, List.getElem!_eq_getElem?_getD]
  rfl
theorem decode_dec (s : ByteArray) (pos : Nat) : Utf8.decode s pos = U8.dec (s.data.toList.drop pos) := by
  rw [decode_at, U8.dec, U8.B_drop, U8.B_drop, U8.B_drop, U8.B_drop, List.length_drop, size_list, get!_B, get!_B, get!_B, get!_B]
  rfl
theorem extract_drop (s : ByteArray) (k : Nat) : (s.extract k s.size).data.toList = s.data.toList.drop k := by
  rw [extract_data, List.take_of_length_le]
  rw [List.length_drop, size_list]; exact Nat.le_refl _
/-- What the iterator tells next. -/
theorem next_any (w : World) (k : Nat) (s : ByteArray) (pos : Nat) (hk : w.heap[k]? = some (.stringIter s pos)) (h : pos < s.size) :
    ∃ r wd : Nat, U8.dec (s.data.toList.drop pos) = (r, wd) ∧ 1 ≤ wd ∧ pos + wd ≤ s.size ∧ r ≤ 1114111 ∧
      ∀ ty, (Instr.next (.pointer (some ⟨k, 0, none⟩)) true ty).run Try.prog w = .ok (.tuple #[.bool true, .int .i64 pos, .int .i32 r]) (w.iterAt k s (pos + wd)) := by
  have hne := U8.drop_ne (l := s.data.toList) (pos := pos) (by rw [size_list]; exact h)
  have hw := U8.dec_width _ hne
  rw [List.length_drop, size_list] at hw
  have hx : ∀ ty, (Instr.next (.pointer (some ⟨k, 0, none⟩)) true ty).run Try.prog w = .ok (.tuple #[.bool true, .int .i64 pos, .int .i32 (U8.dec (s.data.toList.drop pos)).1]) (w.iterAt k s (pos + (U8.dec (s.data.toList.drop pos)).2)) := fun ty => by
    rw [run_next_any_at w k s pos ty hk h, decode_dec]
  obtain ⟨q, hq⟩ : ∃ q, U8.dec (s.data.toList.drop pos) = q := ⟨_, rfl⟩
  rw [hq] at hw hx
  exact ⟨q.1, q.2, hq, hw.1, by omega, hw.2.2, hx⟩
/-- From here on lie these bytes. -/
def BytesAt (w : World) (b off : Nat) (l : List UInt8) : Prop := ∀ i, i < l.length → w.cell? ⟨b, off + i, none⟩ = some (.int .u8 (U8.B l i))
theorem BytesAt.mono {w w' : World} {b off : Nat} {l : List UInt8} (h : BytesAt w b off l) (hb : ∀ o, w'.cell? ⟨b, o, none⟩ = w.cell? ⟨b, o, none⟩) : BytesAt w' b off l :=
  fun i hi => (hb _).trans (h i hi)
theorem BytesAt.drop {w : World} {b off : Nat} {l : List UInt8} (h : BytesAt w b off l) (k : Nat) : BytesAt w b (off + k) (l.drop k) := by
  intro i hi
  rw [U8.B_drop, Nat.add_assoc]
  exact h (k + i) (by simp at hi; omega)
theorem BytesAt.take {w : World} {b off : Nat} {l : List UInt8} (h : BytesAt w b off l) (k : Nat) : BytesAt w b off (l.take k) := by
  intro i hi
  simp at hi
  rw [U8.B_take _ _ _ (by omega)]
  exact h i (by omega)
/-- A slice of bytes, nil or empty or from somewhere on. -/
def IsB (w : World) (a : Option Addr) (len : Nat) (l : List UInt8) : Prop :=
  l.length = len ∧ (len = 0 ∨ ∃ b off, a = some ⟨b, off, none⟩ ∧ BytesAt w b off l)
theorem addr_add (b off j : Nat) : (⟨b, off, none⟩ : Addr).add j = ⟨b, off + j, none⟩ := by unfold Addr.add; split <;> simp_all
theorem bom_iff (l : List UInt8) : hasPrefix l [239, 187, 191] = true ↔ 3 ≤ l.length ∧ U8.B l 0 = 239 ∧ U8.B l 1 = 187 ∧ U8.B l 2 = 191 := by
  unfold hasPrefix
  rw [List.isPrefixOf_iff_prefix, List.prefix_iff_eq_take]
  constructor
  · intro h
    have hl := congrArg List.length h
    simp at hl
    have h0 := congrArg (fun x => U8.B x 0) h
    have h1 := congrArg (fun x => U8.B x 1) h
    have h2 := congrArg (fun x => U8.B x 2) h
    simp only [List.length_cons, List.length_nil] at h0 h1 h2
    rw [U8.B_take _ _ _ (by omega)] at h0 h1 h2
    exact ⟨by omega, h0.symm, h1.symm, h2.symm⟩
  · rintro ⟨h, h0, h1, h2⟩
    show _ = l.take 3
    rw [U8.take_three l h, h0, h1, h2]
    rfl
theorem trim_yes {l : List UInt8} (h : 3 ≤ l.length ∧ U8.B l 0 = 239 ∧ U8.B l 1 = 187 ∧ U8.B l 2 = 191) : trimPrefix l [239, 187, 191] = l.drop 3 := by
  rw [trimPrefix, if_pos ((bom_iff l).2 h)]; rfl
theorem trim_no {l : List UInt8} (h : ¬ (3 ≤ l.length ∧ U8.B l 0 = 239 ∧ U8.B l 1 = 187 ∧ U8.B l 2 = 191)) : trimPrefix l [239, 187, 191] = l := by
  rw [trimPrefix, if_neg (fun x => h ((bom_iff l).1 x))]
theorem own_below {w w' : World} {base : Nat} {e : TypeId} {size : Nat} {v : Value} {n : Nat} {xs : List Value} (h : w.ownsRow base e size v n xs) (hb : Below w.heap.size w w') : w'.ownsRow base e size v n xs :=
  h.kept (row := none) ⟨hb.os, hb.tape, hb.output, hb.size, fun k hk _ => hb.block k hk⟩ (Classical.em _)
theorem own_ge {w : World} {base : Nat} {e : TypeId} {size : Nat} {v : Value} {n : Nat} {xs : List Value} (h : w.ownsRow base e size v n xs) : ∀ k, v.ownBlock = some k → base ≤ k := by
  intro k hk
  obtain ⟨_, ⟨rfl, h0⟩ | ⟨g, cap, cur, rfl, hb, _⟩⟩ := h
  · simp [Value.ownBlock] at hk
  · simp [Value.ownBlock] at hk; omega
end Go.Proofs.Ytmgbjkekfejnfaa
