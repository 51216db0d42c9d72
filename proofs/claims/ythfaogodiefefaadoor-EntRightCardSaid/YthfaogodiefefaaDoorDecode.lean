/- Walks: package ent, Decode. -/
import Derived.Test.YthfaogodiefefaaDoorReference
import Derived.Deep.LoopGhost
namespace Go.Proofs.YthfaogodiefefaaDoor
open Go.RowKit Go.Lib Ent
set_option maxRecDepth 100000
set_option linter.unusedVariables false

/-- A variable of the library's own holds some number. -/
def MaxCell (w : World) : Prop := ∃ m, w.cell? ⟨1, 0, none⟩ = some (.int .i64 m)
theorem max_below {w w' : World} (h : MaxCell w) (hb : Below w.heap.size w w') : MaxCell w' := by
  obtain ⟨m, hm⟩ := h
  exact ⟨m, (hb.cell (p := ⟨1, 0, none⟩) (World.block_lt_of_cell? _ _ hm)).trans hm⟩
def EntW (w : World) : Prop := CtlTab w ∧ MaxCell w
theorem ent_below {w w' : World} (h : EntW w) (hb : Below w.heap.size w w') : EntW w' := ⟨ctl_below h.1 hb, max_below h.2 hb⟩
theorem cut_any (s : ByteArray) (w : World) (hs : s.size ≤ 4000000) (hm : MaxCell w) :
    Calls Tryd.prog 31 #[.string s, .string ⟨#[38]⟩] w fun e w' => e = .returned (.tuple #[.string ⟨(cut s.data.toList [38]).1.toArray⟩, .string ⟨(cut s.data.toList [38]).2.1.toArray⟩, .bool (cut s.data.toList [38]).2.2]) ∧ Below w.heap.size w w' := by
  obtain ⟨m, hm⟩ := hm
  refine (Tryd.strings_Cut s ⟨#[38]⟩ m w (by omega) hm).mono ?_
  rintro e w' ⟨rfl, n, rfl⟩
  exact ⟨rfl, bel_drewN (Below.refl _ _) n⟩
theorem ebuilder_below {T e : TypeId} {B b : Nat} {p : Value} {bs : List Value} {W W' : World} (h : BuilderAtF T e B b p bs W) (hb : Below W.heap.size W W') : BuilderAtF T e B b p bs W' := by
  obtain ⟨hB, v, hv, hown, hne⟩ := h
  have hlt : b < W.heap.size := (Array.getElem?_eq_some_iff.1 hv).1
  exact ⟨hB, v, (hb.block b hlt).trans hv, hown.kept (row := none) ⟨hb.os, hb.tape, hb.output, hb.size, fun k hk _ => hb.block k hk⟩ (Classical.em _), hne⟩
theorem ebuilder_in {T e : TypeId} {B b : Nat} {bs : List Value} {W W' : World} (h : IsBuilderF T e B b bs W) (hb : Below W.heap.size W W') : IsBuilderF T e B b bs W' :=
  h.elim (fun x => .inl (ebuilder_below x hb)) (fun x => .inr (ebuilder_below x hb))

/-- What is written, and what is left: up to the next '&', and behind it. -/
def DecI (attr : Bool) (L acc p q : List UInt8) (m : Bool) : Prop := acc ++ (p ++ if m = true then Ent.decode attr (38 :: q) else []) = Ent.decode attr L
/-- Cut at the first '&'. -/
theorem dec_cut (attr : Bool) (L acc l : List UInt8) (h : acc ++ Ent.decode attr l = Ent.decode attr L) :
    DecI attr L acc (cut l [38]).1 (cut l [38]).2.1 (cut l [38]).2.2 ∧ (cut l [38]).1.length ≤ l.length ∧ (cut l [38]).2.1.length ≤ l.length ∧ ((cut l [38]).2.2 = true → (cut l [38]).2.1.length + 1 ≤ l.length) := by
  rcases cut_amp l with ⟨p, q, h1, h2, h3⟩ | ⟨h1, h2⟩
  · rw [h1]
    refine ⟨?_, ?_⟩
    · unfold DecI
      rw [← h, h2, Ent.decode_append attr p _ h3, if_pos rfl]
    · rw [h2]
      simp
      omega
  · rw [h1]
    refine ⟨?_, by simp⟩
    unfold DecI
    have := Ent.decode_append attr l [] h2
    rw [List.append_nil, Ent.decode_nil] at this
    rw [← h, this]
    simp
theorem dec_step {attr : Bool} {L acc p q : List UInt8} (h : DecI attr L acc p q true) : (acc ++ p ++ (refer attr q).1) ++ Ent.decode attr (q.drop (refer attr q).2) = Ent.decode attr L := by
  unfold DecI at h
  rw [if_pos rfl, Ent.decode_amp] at h
  rw [← h]
  simp only [List.append_assoc]
theorem dec_len {attr : Bool} {L acc p q : List UInt8} {m : Bool} (h : DecI attr L acc p q m) : acc.length + p.length ≤ 7 * L.length := by
  have h1 := Ent.decode_le attr L
  unfold DecI at h
  rw [← h] at h1
  simp only [List.length_append] at h1
  omega
theorem strCells_eq (s : ByteArray) : strCells s = byteCells s.data.toList := rfl
theorem ref_bytes (l : List UInt8) : (⟨l.toArray⟩ : ByteArray).data.toList = l := rfl

set_option maxHeartbeats 2000000 in
theorem decode_any (s : ByteArray) (attr : Bool) (w : World) (hs : s.size ≤ 500000) (hT : EntW w) :
    Calls Tryd.prog 15 #[.string s, .bool attr] w fun e w' => e = .returned (.string ⟨(Ent.decode attr s.data.toList).toArray⟩) ∧ Below w.heap.size w w' := by
  have HT := hid hT
  have hsl := size_list s
  obtain ⟨L, hL⟩ : ∃ L, s.data.toList = L := ⟨_, rfl⟩
  have HC := hid (fun w hm => cut_any s w (by omega) hm)
  rw [hL] at HC hsl
  have h0 := dec_cut attr L [] L rfl
  rw [hL]
  obtain ⟨p0, q0, m0, hc0⟩ : ∃ p q m, cut L [38] = (p, q, m) := ⟨_, _, _, rfl⟩
  rw [hc0] at HC h0
  simp only at HC h0
  have H0 := hid h0
  clear hT hc0 h0 hL
  go_enter Tryd.func15, Tryd.ntmps15
  go_wp2_with fail
  refine (Tryd.Builder_Grow_fresh w.heap.size w.heap.size s.size _ (Nat.le_refl _) (heap_alloc_new w _) (by simp) (by omega)).mono ?_
  rintro e W1 ⟨rfl, hBA, hb1⟩
  have hbel := ((Below.refl w.heap.size w).alloc (Nat.le_refl _) (.cells #[.pointer none, .slice none 0 0] 50)).trans hb1
  have hIs : IsBuilderF 50 5 w.heap.size w.heap.size (byteCells []) W1 := IsBuilderF.of (.inr hBA)
  clear hb1 hBA
  go_wp2_with fail
  refine (HC.out _ (ent_below HT.out hbel).2).mono ?_
  rintro e W2 ⟨rfl, hb2⟩
  have HB := hid (hbel.trans (hb2.mono hbel.size))
  have HI := hid (ebuilder_in hIs hb2)
  clear hbel hIs hb2
  go_wp2
  go_loopg [6, 7, 8] (s.size + 1) (fun g pv qv mv wr => ∃ (acc p q : List UInt8) (m : Bool), pv = .string ⟨p.toArray⟩ ∧ qv = .string ⟨q.toArray⟩ ∧ mv = .bool m ∧ Hid (DecI attr L acc p q m) ∧ q.length ≤ s.size ∧ (m = true → q.length + 1 ≤ g) ∧ IsBuilderF 50 5 w.heap.size w.heap.size (byteCells acc) wr ∧ Below w.heap.size w wr)
  case atStart => exact ⟨[], p0, q0, m0, rfl, rfl, rfl, hid H0.out.1, by have := H0.out.2.2.1; omega, fun _ => by have := H0.out.2.2.1; omega, HI.out, HB.out⟩
  case round =>
    obtain ⟨acc, p, q, m, rfl, rfl, rfl, hD, hq, hg, hI, hbw⟩ := hrel
    have hlen := dec_len hD.out
    have hszr := hbw.size
    obtain ⟨P, hP⟩ : ∃ P : ByteArray, P = ⟨p.toArray⟩ := ⟨_, rfl⟩
    have hPs : P.size = p.length := by rw [hP]; simp [ByteArray.size]
    have hPl : P.data.toList = p := by rw [hP]
    cases m with
    | true =>
      replace hg := hg rfl
      obtain ⟨R, hR⟩ : ∃ R : ByteArray, R = ⟨q.toArray⟩ := ⟨_, rfl⟩
      have hRs : R.size = q.length := by rw [hR]; simp [ByteArray.size]
      have hRl : R.data.toList = q := by rw [hR]
      rw [← hP, ← hR]
      have HRf := reference_any R attr wr (by omega) (ent_below HT.out hbw).1
      rw [hRl] at HRf
      have hst := dec_step hD.out
      have hrl := refer_le attr q
      obtain ⟨i, n, hin⟩ : ∃ i n, refer attr q = (i, n) := ⟨_, _, rfl⟩
      rw [hin] at HRf hst hrl
      simp only at HRf hst hrl
      obtain ⟨hr1, hr2, _⟩ := hrl
      obtain ⟨I, hI0⟩ : ∃ I : ByteArray, I = ⟨i.toArray⟩ := ⟨_, rfl⟩
      have hIs : I.size = i.length := by rw [hI0]; simp [ByteArray.size]
      have hIl : I.data.toList = i := by rw [hI0]
      rw [← hI0] at HRf
      have hnR : n ≤ R.size := by omega
      have hxl : (R.extract n R.size).data.toList = q.drop n := by rw [extract_drop, hRl]
      have HCt := fun w hm => cut_any (R.extract n R.size) w (by rw [size_eq, hxl, List.length_drop]; omega) hm
      rw [hxl] at HCt
      have hdc := dec_cut attr L (acc ++ p ++ i) (q.drop n) hst
      rw [List.length_drop] at hdc
      obtain ⟨p', q', m', hc'⟩ : ∃ x y z, cut (q.drop n) [38] = (x, y, z) := ⟨_, _, _, rfl⟩
      rw [hc'] at HCt hdc
      simp only at HCt hdc
      have HRf := hid HRf
      have HCt := hid HCt
      have Hdc := hid hdc
      have hs1 : (byteCells acc).length + P.size ≤ 140737488355328 := by rw [byteCells_length]; omega
      have hs2 : (byteCells acc ++ strCells P).length + I.size ≤ 140737488355328 := by rw [List.length_append, byteCells_length, strCells_length]; omega
      have hbc : byteCells acc ++ strCells P ++ strCells I = byteCells (acc ++ p ++ i) := by rw [strCells_eq, strCells_eq, hPl, hIl, byteCells_append, byteCells_append]
      clear hP hPs hPl hR hRs hRl hin hI0 hIs hIl hxl hst hc' hdc hlen hD hr1 hr2
      go_wp2_with fail
      refine HRf.out.mono ?_
      rintro e w1 ⟨rfl, b1⟩
      have hI1 := ebuilder_in hI b1
      have hb1 := hbw.trans (b1.mono hszr)
      clear hI b1 hbw
      go_wp2_with fail
      refine (Tryd.Builder_WriteString_k w.heap.size w.heap.size (byteCells acc) P w1 hI1 hs1 hb1.size).mono ?_
      rintro e w2 ⟨rfl, hI2, b2, _⟩
      have hb2 := hb1.trans b2
      clear hI1 b2 hb1
      go_wp2_with fail
      refine (Tryd.Builder_WriteString_k w.heap.size w.heap.size _ I w2 (.inr hI2) hs2 hb2.size).mono ?_
      rintro e w3 ⟨rfl, hI3, b3, _⟩
      rw [hbc] at hI3
      have hb3 := hb2.trans b3
      clear hI2 b3 hb2
      go_wp2_with fail
      refine (HCt.out _ (ent_below HT.out hb3).2).mono ?_
      rintro e w4 ⟨rfl, b4⟩
      have HI4 := hid (ebuilder_below hI3 b4)
      have HB4 := hid (hb3.trans (b4.mono hb3.size))
      clear hI3 b4 hb3
      go_wp2
      go_roundg (gk - 1)
      case measure => omega
      case rel => exact ⟨acc ++ p ++ i, p', q', m', rfl, rfl, rfl, hid Hdc.out.1, by have := Hdc.out.2.2.1; omega, fun h => by have := Hdc.out.2.2.2 h; omega, .inr HI4.out, HB4.out⟩
    | false =>
      rw [← hP]
      have hs1 : (byteCells acc).length + P.size ≤ 140737488355328 := by rw [byteCells_length]; omega
      have hbc : byteCells acc ++ strCells P = byteCells (acc ++ p) := by rw [strCells_eq, hPl, byteCells_append]
      have HE := hid (show acc ++ p = Ent.decode attr L by have := hD.out; unfold DecI at this; simpa using this)
      clear hP hPs hPl hlen hD hg
      go_wp2_with fail
      refine (Tryd.Builder_WriteString_k w.heap.size w.heap.size (byteCells acc) P wr hI hs1 hszr).mono ?_
      rintro e w2 ⟨rfl, hI2, b2, _⟩
      rw [hbc] at hI2
      have hb2 := hbw.trans b2
      clear hI b2 hbw
      go_wp2_with fail
      refine (Tryd.Builder_String_any_k w.heap.size w.heap.size (acc ++ p) w2 (.inr hI2) hb2.size).mono ?_
      rintro e w3 ⟨rfl, _, b3, _⟩
      have hb3 := hid (hb2.trans b3)
      clear hI2 b3 hb2
      go_wp2
      go_ret
      exact ⟨congrArg (fun x : List UInt8 => Ending.returned (.string ⟨x.toArray⟩)) HE.out, hb3.out⟩
end Go.Proofs.YthfaogodiefefaaDoor
