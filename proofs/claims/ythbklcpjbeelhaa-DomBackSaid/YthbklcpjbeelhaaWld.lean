/- Plain Lean: what holds at each round of the loop that makes a text of bytes. Nothing of a program stands here. Laws that every walk uses: worlds, byte strings as lists, slices of bytes, what range tells of a string. What holds above a world. -/
import Derived.Test.YthbklcpjbeelhaaDec
import Derived.Test.YthbklcpjbeelhaaProg
import Derived.WalkKit
import Derived.WalkLawsBesides
import Derived.Deep.QuietTactic
import Derived.BigQuiet
import Derived.Deep.DeepFit
import Derived.Deep.DeepMust
import Derived.Lib.Hide
import Derived.Lib.LaidU8
import Derived.Lib.OthersKept
import Derived.BigCall
import Derived.Laws.AppendOwn
import Derived.Laws.IdiomStrings
import Derived.Laws.BytesArg
namespace Go.Proofs.Ythbklcpjbeelhaa.U8
open Go.Lib

/-- At place pos, what is broken ending at k, acc has been told. -/
def TInv (l : List UInt8) (pos k : Nat) (acc : List UInt8) : Prop :=
  pos ≤ l.length ∧ acc.length ≤ 3 * pos ∧ k ≤ l.length + 3 ∧
  ((k ≤ pos ∧ acc ++ plain (l.drop pos) = plain l) ∨ (pos < k ∧ k ≤ l.length ∧ acc ++ plain (l.drop k) = plain l ∧ ∀ j, pos ≤ j → j < k → 128 ≤ B l j ∧ B l j ≤ 191))

theorem TInv.start (l : List UInt8) : TInv l 0 0 [] := ⟨by omega, by simp, by omega, .inl ⟨by omega, by simp⟩⟩
theorem TInv.le {l : List UInt8} {pos k : Nat} {acc : List UInt8} (h : TInv l pos k acc) : pos ≤ l.length ∧ acc.length ≤ 3 * pos ∧ k ≤ l.length + 3 := ⟨h.1, h.2.1, h.2.2.1⟩
theorem TInv.done {l : List UInt8} {pos k : Nat} {acc : List UInt8} (h : TInv l pos k acc) (hp : ¬ pos < l.length) : acc = plain l := by
  obtain ⟨h1, _, _, h2 | h2⟩ := h
  · rw [← h2.2, List.drop_of_length_le (by omega), plain_nil, List.append_nil]
  · omega
theorem drop_ne {l : List UInt8} {pos : Nat} (h : pos < l.length) : l.drop pos ≠ [] := by
  intro e
  have := congrArg List.length e
  simp at this; omega
theorem TInv.skip {l : List UInt8} {pos k : Nat} {acc : List UInt8} (h : TInv l pos k acc) (hk : pos < k) (hp : pos < l.length) : dec (l.drop pos) = (65533, 1) ∧ TInv l (pos + 1) k acc := by
  obtain ⟨h1, h3, h4, h2 | ⟨_, g2, g3, g4⟩⟩ := h
  · omega
  · refine ⟨dec_cont _ (by rw [B_drop]; exact g4 pos (by omega) hk), by omega, by omega, h4, ?_⟩
    by_cases hk2 : pos + 1 < k
    · exact .inr ⟨hk2, g2, g3, fun j j1 j2 => g4 j (by omega) j2⟩
    · obtain rfl : k = pos + 1 := by omega
      exact .inl ⟨Nat.le_refl _, g3⟩
/-- A character that is none, or is U+FFFD. -/
theorem TInv.bad {l : List UInt8} {pos k : Nat} {acc : List UInt8} (h : TInv l pos k acc) (hk : ¬ pos < k) (hp : pos < l.length) (hr : (dec (l.drop pos)).1 = 0 ∨ (dec (l.drop pos)).1 = 65533) :
    TInv l (pos + (dec (l.drop pos)).2) (pos + piece (l.drop pos)) (acc ++ encodeRune 65533) := by
  obtain ⟨h1, h3, h4, ⟨_, h2⟩ | h2⟩ := h
  case inr => omega
  have hne := drop_ne hp
  have hl := front_le _ hne
  have hpl := piece_le _ hne
  have hlen : (l.drop pos).length = l.length - pos := by simp
  have eb : encodeRune 65533 = U8.bad := by decide
  have ebl : U8.bad.length = 3 := rfl
  rw [eb]
  rw [plain_step _ hne, List.drop_drop, ← List.append_assoc] at h2
  cases hw : (front (l.drop pos)).2 with
  | false =>
    have hd := dec_broken _ hw
    have hso : stepOut (l.drop pos) = U8.bad := by unfold stepOut; rw [if_neg (by simp [hw])]
    rw [hso] at h2
    rw [hd, piece_broken _ hne hw]
    refine ⟨by simp only; omega, by simp [ebl]; omega, by omega, ?_⟩
    by_cases h5 : (front (l.drop pos)).1 = 1
    · rw [h5] at h2 ⊢
      exact .inl ⟨Nat.le_refl _, h2⟩
    · refine .inr ⟨by simp only; omega, by omega, h2, fun j j1 j2 => ?_⟩
      have := front_tail (l.drop pos) (j - pos) (by simp only at j1; omega) (by omega)
      rw [B_drop, show pos + (j - pos) = j by simp only at j1; omega] at this
      exact this
  | true =>
    obtain ⟨r, e1, e2, e3, _⟩ := dec_whole _ hne hw
    rw [e1] at hr ⊢
    simp only at hr ⊢
    have hso : stepOut (l.drop pos) = U8.bad := by
      unfold stepOut
      rcases hr with hr | hr
      · rw [if_neg (by rw [e3.1 hr]; simp)]
      · obtain ⟨f1, f2⟩ := dec_fffd _ hne hw (by rw [e1]; exact hr)
        split
        · rw [f1, f2]
        · rfl
    rw [hso] at h2
    have hpf : piece (l.drop pos) ≤ (front (l.drop pos)).1 := by
      rcases hr with hr | hr
      · rw [piece_zero _ (e3.1 hr)]; omega
      · obtain ⟨f1, _⟩ := dec_fffd _ hne hw (by rw [e1]; exact hr)
        omega
    exact ⟨by omega, by simp [ebl]; omega, by omega, .inl ⟨by omega, h2⟩⟩
/-- Another character. -/
theorem TInv.good {l : List UInt8} {pos k : Nat} {acc : List UInt8} (h : TInv l pos k acc) (hk : ¬ pos < k) (hp : pos < l.length) (h0 : (dec (l.drop pos)).1 ≠ 0) (hr : (dec (l.drop pos)).1 ≠ 65533) :
    TInv l (pos + (dec (l.drop pos)).2) k (acc ++ encodeRune (dec (l.drop pos)).1) := by
  obtain ⟨h1, h3, h4, ⟨_, h2⟩ | h2⟩ := h
  case inr => omega
  have hne := drop_ne hp
  have hl := front_le _ hne
  have hlen : (l.drop pos).length = l.length - pos := by simp
  cases hw : (front (l.drop pos)).2 with
  | false => exact absurd (by rw [dec_broken _ hw]) hr
  | true =>
    obtain ⟨r, e1, e2, e3, _⟩ := dec_whole _ hne hw
    rw [e1] at h0 ⊢
    simp only at h0 ⊢
    have hb0 : B (l.drop pos) 0 ≠ 0 := fun e => h0 (e3.2 e)
    have hso : stepOut (l.drop pos) = encodeRune r := by rw [stepOut, if_pos ⟨hw, hb0⟩, e2]
    rw [plain_step _ hne, List.drop_drop, ← List.append_assoc, hso] at h2
    have hlr : (encodeRune r).length = (front (l.drop pos)).1 := by rw [e2]; simp; omega
    exact ⟨by omega, by simp [hlr]; omega, by omega, .inl ⟨by omega, h2⟩⟩
theorem dec_width (l : List UInt8) (h : l ≠ []) : 1 ≤ (dec l).2 ∧ (dec l).2 ≤ l.length ∧ (dec l).1 ≤ 1114111 := by
  have hl := front_le l h
  cases hw : (front l).2 with
  | false => rw [dec_broken l hw]; exact ⟨Nat.le_refl _, by simp only; omega, by simp only; omega⟩
  | true =>
    obtain ⟨r, e1, _, _, e4⟩ := dec_whole l h hw
    rw [e1]; exact ⟨hl.1, hl.2.1, e4⟩

/-! ### is it a text: what holds at each round -/
def RInv (l : List UInt8) (pos : Nat) : Prop := pos ≤ l.length ∧ right l = right (l.drop pos)
theorem RInv.start (l : List UInt8) : RInv l 0 := ⟨by omega, by simp⟩
theorem RInv.done {l : List UInt8} {pos : Nat} (h : RInv l pos) (hp : ¬ pos < l.length) : right l = true := by
  rw [h.2, List.drop_of_length_le (by omega), right_nil]
theorem RInv.zero {l : List UInt8} {pos : Nat} (h : RInv l pos) (hp : pos < l.length) (h0 : (dec (l.drop pos)).1 = 0) : right l = false := by
  have hne := drop_ne hp
  rw [h.2, right_step _ hne]
  cases hw : (front (l.drop pos)).2 with
  | false => rw [dec_broken _ hw] at h0; simp at h0
  | true =>
    obtain ⟨r, e1, e2, e3, _⟩ := dec_whole _ hne hw
    rw [e1] at h0
    simp [e3.1 h0]
theorem hasPrefix_bad (l : List UInt8) : hasPrefix l bad = true ↔ l.take 3 = bad := by
  unfold hasPrefix
  rw [List.isPrefixOf_iff_prefix, List.prefix_iff_eq_take]
  exact ⟨fun h => h.symm, fun h => h.symm⟩
theorem RInv.broken {l : List UInt8} {pos : Nat} (h : RInv l pos) (hp : pos < l.length) (h0 : (dec (l.drop pos)).1 = 65533) (hh : hasPrefix (l.drop pos) bad = false) : right l = false := by
  have hne := drop_ne hp
  rw [h.2, right_step _ hne]
  cases hw : (front (l.drop pos)).2 with
  | false => rfl
  | true =>
    obtain ⟨_, f2⟩ := dec_fffd _ hne hw h0
    rw [(hasPrefix_bad _).2 f2] at hh
    cases hh
theorem RInv.whole {l : List UInt8} {pos : Nat} (h : RInv l pos) (hp : pos < l.length) (h0 : (dec (l.drop pos)).1 ≠ 0) (hh : (dec (l.drop pos)).1 = 65533 → hasPrefix (l.drop pos) bad = true) : RInv l (pos + (dec (l.drop pos)).2) := by
  have hne := drop_ne hp
  have hl := front_le _ hne
  have hlen : (l.drop pos).length = l.length - pos := by simp
  have hw : (front (l.drop pos)).2 = true := by
    cases hw : (front (l.drop pos)).2 with
    | true => rfl
    | false =>
      have := (hasPrefix_bad _).1 (hh (by rw [dec_broken _ hw]))
      have e : l.drop pos = bad ++ (l.drop pos).drop 3 := by rw [← this, List.take_append_drop]
      rw [e, bad_front] at hw
      cases hw
  obtain ⟨r, e1, e2, e3, _⟩ := dec_whole _ hne hw
  rw [e1] at h0 ⊢
  refine ⟨by simp only; omega, ?_⟩
  rw [h.2, right_step _ hne, hw, List.drop_drop]
  have : B (l.drop pos) 0 ≠ 0 := fun e => h0 (e3.2 e)
  simp [this]
end Go.Proofs.Ythbklcpjbeelhaa.U8
namespace Go.Proofs.Ythbklcpjbeelhaa
open Go.RowKit Go.Lib
set_option maxRecDepth 100000
set_option linter.unusedVariables false

theorem ret_bool' {a b : Bool} (h : a = b) : Ending.returned (.bool a) = .returned (.bool b) := by rw [h]
theorem bel_drewN {B : Nat} {a w : World} (h : Below B a w) (n : Nat) : Below B a (w.drewN n) := h.trans ⟨rfl, rfl, rfl, Nat.le_refl _, fun _ _ => rfl⟩
theorem get_of (s : ByteArray) (i : Nat) (h : i < s.size) : (s[i]'h).toNat = U8.B s.data.toList i := by
  rw [U8.B_eq (c := s[i]'h)]
  rw [List.getElem?_eq_getElem (by simpa using h)]
  rfl
theorem size_list (s : ByteArray) : s.data.toList.length = s.size := (size_eq s).symm
theorem extract_list (s : ByteArray) (k : Nat) : (s.extract 0 k).data.toList = s.data.toList.take k := by
  rw [extract_data, List.drop_zero, Nat.sub_zero]
theorem size_extract0 (s : ByteArray) (k : Nat) (h : k ≤ s.size) : (s.extract 0 k).size = k := by
  rw [size_eq, extract_list, List.length_take, ← size_eq]; omega
theorem get!_B (s : ByteArray) (i : Nat) : (s.get! i).toNat = U8.B s.data.toList i := by
  obtain ⟨⟨l⟩⟩ := s
  show ((⟨l⟩ : Array UInt8)[i]!).toNat = _
  simp [U8.B, List.getD, List.getElem!_eq_getElem?_getD]
  rfl
theorem decode_dec (s : ByteArray) (pos : Nat) : Utf8.decode s pos = U8.dec (s.data.toList.drop pos) := by
  rw [decode_at, U8.dec, U8.B_drop, U8.B_drop, U8.B_drop, U8.B_drop, List.length_drop, size_list, get!_B, get!_B, get!_B, get!_B]
  rfl
theorem extract_drop (s : ByteArray) (k : Nat) : (s.extract k s.size).data.toList = s.data.toList.drop k := by
  rw [extract_data, List.take_of_length_le]
  rw [List.length_drop, size_list]; exact Nat.le_refl _
/-- What the iterator tells next. -/
theorem next_any (w : World) (k : Nat) (s : ByteArray) (pos : Nat) (hk : w.heap[k]? = some (.stringIter s pos)) (h : pos < s.size) :
    ∃ r wd : Nat, U8.dec (s.data.toList.drop pos) = (r, wd) ∧ 1 ≤ wd ∧ pos + wd ≤ s.size ∧ r ≤ 1114111 ∧
      ∀ ty, (Instr.next (.pointer (some ⟨k, 0, none⟩)) true ty).run Try.prog w = .ok (.tuple #[.bool true, .int .i64 pos, .int .i32 r]) (w.iterAt k s (pos + wd)) := by
  have hne := U8.drop_ne (l := s.data.toList) (pos := pos) (by rw [size_list]; exact h)
  have hw := U8.dec_width _ hne
  rw [List.length_drop, size_list] at hw
  have hx : ∀ ty, (Instr.next (.pointer (some ⟨k, 0, none⟩)) true ty).run Try.prog w = .ok (.tuple #[.bool true, .int .i64 pos, .int .i32 (U8.dec (s.data.toList.drop pos)).1]) (w.iterAt k s (pos + (U8.dec (s.data.toList.drop pos)).2)) := fun ty => by
    rw [run_next_any_at w k s pos ty hk h, decode_dec]
  obtain ⟨q, hq⟩ : ∃ q, U8.dec (s.data.toList.drop pos) = q := ⟨_, rfl⟩
  rw [hq] at hw hx
  exact ⟨q.1, q.2, hq, hw.1, by omega, hw.2.2, hx⟩
/-- From here on lie these bytes. -/
def BytesAt (w : World) (b off : Nat) (l : List UInt8) : Prop := ∀ i, i < l.length → w.cell? ⟨b, off + i, none⟩ = some (.int .u8 (U8.B l i))
theorem BytesAt.mono {w w' : World} {b off : Nat} {l : List UInt8} (h : BytesAt w b off l) (hb : ∀ o, w'.cell? ⟨b, o, none⟩ = w.cell? ⟨b, o, none⟩) : BytesAt w' b off l :=
  fun i hi => (hb _).trans (h i hi)
theorem BytesAt.drop {w : World} {b off : Nat} {l : List UInt8} (h : BytesAt w b off l) (k : Nat) : BytesAt w b (off + k) (l.drop k) := by
  intro i hi
  rw [U8.B_drop, Nat.add_assoc]
  exact h (k + i) (by simp at hi; omega)
theorem BytesAt.take {w : World} {b off : Nat} {l : List UInt8} (h : BytesAt w b off l) (k : Nat) : BytesAt w b off (l.take k) := by
  intro i hi
  simp at hi
  rw [U8.B_take _ _ _ (by omega)]
  exact h i (by omega)
/-- A slice of bytes, nil or empty or from somewhere on. -/
def IsB (w : World) (a : Option Addr) (len : Nat) (l : List UInt8) : Prop :=
  l.length = len ∧ (len = 0 ∨ ∃ b off, a = some ⟨b, off, none⟩ ∧ BytesAt w b off l)
theorem addr_add (b off j : Nat) : (⟨b, off, none⟩ : Addr).add j = ⟨b, off + j, none⟩ := by unfold Addr.add; split <;> simp_all
theorem bom_iff (l : List UInt8) : hasPrefix l [239, 187, 191] = true ↔ 3 ≤ l.length ∧ U8.B l 0 = 239 ∧ U8.B l 1 = 187 ∧ U8.B l 2 = 191 := by
  unfold hasPrefix
  rw [List.isPrefixOf_iff_prefix, List.prefix_iff_eq_take]
  constructor
  · intro h
    have hl := congrArg List.length h
    simp at hl
    have h0 := congrArg (fun x => U8.B x 0) h
    have h1 := congrArg (fun x => U8.B x 1) h
    have h2 := congrArg (fun x => U8.B x 2) h
    simp only [List.length_cons, List.length_nil] at h0 h1 h2
    rw [U8.B_take _ _ _ (by omega)] at h0 h1 h2
    exact ⟨by omega, h0.symm, h1.symm, h2.symm⟩
  · rintro ⟨h, h0, h1, h2⟩
    show _ = l.take 3
    rw [U8.take_three l h, h0, h1, h2]
    rfl
theorem trim_yes {l : List UInt8} (h : 3 ≤ l.length ∧ U8.B l 0 = 239 ∧ U8.B l 1 = 187 ∧ U8.B l 2 = 191) : trimPrefix l [239, 187, 191] = l.drop 3 := by
  rw [trimPrefix, if_pos ((bom_iff l).2 h)]; rfl
theorem trim_no {l : List UInt8} (h : ¬ (3 ≤ l.length ∧ U8.B l 0 = 239 ∧ U8.B l 1 = 187 ∧ U8.B l 2 = 191)) : trimPrefix l [239, 187, 191] = l := by
  rw [trimPrefix, if_neg (fun x => h ((bom_iff l).1 x))]
theorem own_below {w w' : World} {base : Nat} {e : TypeId} {size : Nat} {v : Value} {n : Nat} {xs : List Value} (h : w.ownsRow base e size v n xs) (hb : Below w.heap.size w w') : w'.ownsRow base e size v n xs :=
  h.kept (row := none) ⟨hb.os, hb.tape, hb.output, hb.size, fun k hk _ => hb.block k hk⟩ (Classical.em _)
theorem own_ge {w : World} {base : Nat} {e : TypeId} {size : Nat} {v : Value} {n : Nat} {xs : List Value} (h : w.ownsRow base e size v n xs) : ∀ k, v.ownBlock = some k → base ≤ k := by
  intro k hk
  obtain ⟨_, ⟨rfl, h0⟩ | ⟨g, cap, cur, rfl, hb, _⟩⟩ := h
  · simp [Value.ownBlock] at hk
  · simp [Value.ownBlock] at hk; omega
end Go.Proofs.Ythbklcpjbeelhaa
namespace Go.Proofs.Ythbklcpjbeelhaa
open Go.RowKit Go.Lib

/-- What holds of a world's variables, still holds above it. -/
def KeepsW (EW : World → Prop) : Prop := ∀ (w w' : World), EW w → Below w.heap.size w w' → EW w'
theorem cell_up {w w' : World} {a : Addr} {v : Value} (h : w.cell? a = some v) (hb : Below w.heap.size w w') : w'.cell? a = some v := (hb.cell (World.block_lt_of_cell? _ _ h)).trans h
end Go.Proofs.Ythbklcpjbeelhaa
