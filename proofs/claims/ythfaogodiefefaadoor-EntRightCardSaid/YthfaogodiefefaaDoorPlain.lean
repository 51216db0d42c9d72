/- Walks over the reference of layer 1: plain, Text, Right. -/
import Derived.Test.YthfaogodiefefaaDoorOwn
import Derived.Test.YthfaogodiefefaaDoorFront
namespace Go.Proofs.YthfaogodiefefaaDoor
open Go.RowKit Go.Lib
set_option maxRecDepth 100000
set_option linter.unusedVariables false

/-- What holds at each round of plain: what is left, what has been told. -/
def PInv (l left acc : List UInt8) : Prop := acc ++ U8.plain left = U8.plain l ∧ acc.length + 3 * left.length ≤ 3 * l.length
theorem PInv.step {l left acc : List UInt8} (h : PInv l left acc) (hn : left ≠ []) : PInv l (left.drop (U8.front left).1) (acc ++ U8.stepOut left) := by
  obtain ⟨h1, h2⟩ := h
  have h3 := U8.stepOut_le left hn
  have h4 := U8.front_le left hn
  rw [U8.plain_step left hn, ← List.append_assoc] at h1
  refine ⟨h1, ?_⟩
  simp
  omega
def lenOf (v : Value) : Nat := match v with
  | .slice _ n _ => n
  | _ => 0

theorem own_below {w w' : World} {base : Nat} {e : TypeId} {size : Nat} {v : Value} {n : Nat} {xs : List Value} (h : w.ownsRow base e size v n xs) (hb : Below w.heap.size w w') : w'.ownsRow base e size v n xs :=
  h.kept (row := none) ⟨hb.os, hb.tape, hb.output, hb.size, fun k hk _ => hb.block k hk⟩ (Classical.em _)
theorem own_ge {w : World} {base : Nat} {e : TypeId} {size : Nat} {v : Value} {n : Nat} {xs : List Value} (h : w.ownsRow base e size v n xs) : ∀ k, v.ownBlock = some k → base ≤ k := by
  intro k hk
  obtain ⟨_, ⟨rfl, h0⟩ | ⟨g, cap, cur, rfl, hb, _⟩⟩ := h
  · simp [Value.ownBlock] at hk
  · simp [Value.ownBlock] at hk; omega
theorem front_bel (b off cap : Nat) (l : List UInt8) (h : l ≠ []) (hc : l.length ≤ cap) (hcap : cap ≤ 9223372036854775807) (w : World) (hat : BytesAt w b off l) :
    Calls Tryd.prog 53 #[.slice (some ⟨b, off, none⟩) l.length cap] w fun e w' => e = .returned (.tuple #[.int .i64 (U8.front l).1, .bool (U8.front l).2]) ∧ Below w.heap.size w w' :=
  (front_any b off cap l h hc hcap w hat).mono fun _ _ ⟨h1, k, h2⟩ => ⟨h1, h2 ▸ bel_drewN (Below.refl _ _) k⟩
theorem bytesAt_below {w w' : World} {B b off : Nat} {l : List UInt8} (h : BytesAt w b off l) (hb : Below B w w') (hB : b < B) : BytesAt w' b off l :=
  h.mono fun o => hb.cell (p := ⟨b, o, none⟩) hB

theorem new_bytes (w : World) (new : List UInt8) (C : Array Value) (fr : Nat × Nat) (hC : C = (byteCells new).toArray) : ∀ j, j < new.length → (w.alloc (.cells C 5 fr)).cell? ((⟨w.heap.size, 0, none⟩ : Addr).add j) = some (.int .u8 (U8.B new j)) := by
  intro j hj
  subst hC
  rw [addr_add, Nat.zero_add, World.cell?_alloc_mark, List.getElem?_toArray, byteCells_get, List.getElem?_eq_getElem hj, U8.B_eq (List.getElem?_eq_getElem hj)]
  rfl

set_option maxHeartbeats 1000000 in
theorem plain_any (a : Option Addr) (len cap : Nat) (l : List UInt8) (w : World) (h : IsB w a len l) (hlc : len ≤ cap) (hcap : cap ≤ 9223372036854775807) (hs : len ≤ 4294967296) :
    Calls Tryd.prog 40 #[.slice a len cap] w fun e w' => e = .returned (.string ⟨(U8.plain l).toArray⟩) ∧ Below w.heap.size w w' := by
  obtain ⟨hll, hor⟩ := h
  have HOR : Hid (l ≠ [] → ∃ blk off, a = some ⟨blk, off, none⟩ ∧ blk < w.heap.size ∧ BytesAt w blk off l) := hid fun hne => by
    have hpos : 0 < l.length := by cases l with
      | nil => exact absurd rfl hne
      | cons a r => simp
    rcases hor with h0 | ⟨blk, off, e1, hat⟩
    · omega
    · refine ⟨blk, off, e1, ?_, hat⟩
      have := hat 0 hpos
      rcases Nat.lt_or_ge blk w.heap.size with h' | h'
      · exact h'
      · simp [World.cell?, Array.getElem?_eq_none h'] at this
  clear hor
  subst hll
  go_enter Tryd.func40, Tryd.ntmps40
  go_wp2
  go_loopw [0, 3] (fun b v wr => ∃ (a' : Option Addr) (c : Nat) (left acc : List UInt8), b = .slice a' left.length c ∧ Hid (left ≠ [] → ∃ blk off, a' = some ⟨blk, off, none⟩ ∧ blk < w.heap.size ∧ BytesAt w blk off left) ∧ left.length ≤ c ∧ c ≤ 9223372036854775807 ∧ wr.ownsRow w.heap.size 5 1 v acc.length (byteCells acc) ∧ Below w.heap.size w wr ∧ Hid (PInv l left acc)) (fun b _ _ => lenOf b)
  case atStart =>
    exact ⟨a, cap, l, [], rfl, HOR, hlc, hcap, World.ownsRow_nil _ _ _ _, Below.refl _ _, hid ⟨by simp, by simp⟩⟩
  case round =>
    obtain ⟨a', c, left, acc, rfl, hA, hnc, hc, hown, hbw, hP⟩ := hrel
    by_cases hne : left = []
    · subst hne
      have hcv := conv_own hown
      have hX : acc = U8.plain l := by have := hP.out.1; rwa [U8.plain_nil, List.append_nil] at this
      have HX := hid hX
      clear hX hA
      go_wp2
      go_ret
      exact ⟨congrArg (fun x : List UInt8 => Ending.returned (.string ⟨x.toArray⟩)) HX.out, hbw⟩
    · have hpos : 0 < left.length := by cases left with
        | nil => exact absurd rfl hne
        | cons a r => simp
      have hP2 := hP.out.step hne
      have hacc := hP.out.2
      obtain ⟨blk, off, rfl, hbk, hat⟩ := hA.out hne
      have hatr := bytesAt_below hat hbw hbk
      have c0 : wr.cell? ⟨blk, off, none⟩ = some (.int .u8 (U8.B left 0 : Nat)) := hatr 0 hpos
      have hF := front_bel blk off c left hne hnc hc wr hatr
      have hfl := U8.front_le left hne
      obtain ⟨f, hf⟩ : ∃ f, U8.front left = f := ⟨_, rfl⟩
      obtain ⟨p, q⟩ := f
      rw [hf] at hF hfl hP2
      dsimp only at hF hfl hP2
      obtain ⟨hp1, hp2, hp4⟩ := hfl
      obtain ⟨b0, hb0⟩ : ∃ b0, U8.B left 0 = b0 := ⟨_, rfl⟩
      rw [hb0] at c0
      have HF := hid hF; have HAT := hid hatr; have HP2 := hid hP2; have Hf := hid hf; have HB0 := hid hb0; have HATw := hid hat
      have hszr := hbw.size
      clear hF hatr hP2 hf hb0 hat hA
      go_wp2_with fail
      refine HF.out.mono ?_
      rintro e W1 ⟨rfl, hb1⟩
      have hbkr : blk < wr.heap.size := by omega
      have c1 : W1.cell? ⟨blk, off, none⟩ = some (.int .u8 (b0 : Nat)) := (hb1.cell (p := ⟨blk, off, none⟩) hbkr).trans c0
      have hown1 := own_below hown hb1
      have hbw1 := hbw.trans (hb1.mono hszr)
      have hat1 := hid (bytesAt_below HAT.out hb1 hbkr)
      have hsz1 := hbw1.size
      clear c0 hown hbw hb1 hbkr
      have hpI : (p : Int) ≤ (c : Int) := by omega
      by_cases hcase : q = true ∧ b0 ≠ 0
      · obtain ⟨rfl, hb0n⟩ := hcase
        have t0 : ((b0 : Int) != 0) = true := by rw [bne_iff_ne]; omega
        have hso : U8.stepOut left = left.take p := by unfold U8.stepOut; rw [Hf.out, HB0.out, if_pos ⟨rfl, hb0n⟩]
        have htl : (left.take p).length = p := by simp; omega
        have hln : (acc ++ left.take p).length = acc.length + p := by rw [List.length_append, htl]
        have HP3 := HP2.out
        rw [hso] at HP3
        replace HP3 := hid HP3
        have HTL := hid htl; have HLN := hid hln
        clear hso htl hln HP2
        have hnews : ∀ j, j < (left.take p).length → W1.cell? ((⟨blk, off, none⟩ : Addr).add j) = some (.int .u8 (U8.B (left.take p) j)) := fun j hj => by rw [addr_add]; exact (BytesAt.take hat1.out p) j hj
        replace hnews := hid hnews
        have hdl : (left.drop p).length = left.length - p := List.length_drop
        have HDL := hid hdl
        clear hdl
        have hlp : (p : Int) ≤ (left.length : Int) := by omega
        rcases Nat.lt_or_ge p c with hpc | hpc
        · have hpc' : (p : Int) < (c : Int) := by omega
          go_wp2_with (at_builtin; refine append_bytes rfl _ _ rfl w.heap.size _ acc rfl hown1 ⟨blk, off, none⟩ p c (left.take p) rfl HTL.out hnews.out (by omega) hsz1 ?_)
          intro v' w' hown2 hgr
          have hown3 : w'.ownsRow w.heap.size 5 1 v' (acc ++ left.take p).length (byteCells (acc ++ left.take p)) := by rw [HLN.out]; exact hown2
          have hbw3 := hbw1.grown hgr hsz1 (own_ge hown1)
          clear hown2 hgr hown1 hbw1
          go_wp2
          go_roundw
          case rel => exact ⟨some ⟨blk, off + p, none⟩, c - p, left.drop p, acc ++ left.take p, by rw [HDL.out], hid fun _ => ⟨blk, off + p, rfl, hbk, HATw.out.drop p⟩, by rw [HDL.out]; omega, by omega, hown3, hbw3, HP3⟩
          case measure => simp [lenOf]; omega
        · obtain ⟨d, hd⟩ : ∃ d, d = c := ⟨_, rfl⟩
          have hdc : p = d := by omega
          rw [← hd]
          rw [← hd] at hc hnc hpI hpc
          clear hd
          subst hdc
          go_wp2_with (at_builtin; refine append_bytes rfl _ _ rfl w.heap.size _ acc rfl hown1 ⟨blk, off, none⟩ p p (left.take p) rfl HTL.out hnews.out (by omega) hsz1 ?_)
          intro v' w' hown2 hgr
          have hown3 : w'.ownsRow w.heap.size 5 1 v' (acc ++ left.take p).length (byteCells (acc ++ left.take p)) := by rw [HLN.out]; exact hown2
          have hbw3 := hbw1.grown hgr hsz1 (own_ge hown1)
          clear hown2 hgr hown1 hbw1
          go_wp2
          go_roundw
          case rel => exact ⟨some ⟨blk, off, none⟩, 0, left.drop p, acc ++ left.take p, by rw [HDL.out, show left.length - p = 0 by omega], hid fun h => absurd (List.drop_of_length_le (by omega)) h, by rw [HDL.out]; omega, by omega, hown3, hbw3, HP3⟩
          case measure => simp [lenOf]; omega
      · have hso : U8.stepOut left = U8.bad := by unfold U8.stepOut; rw [Hf.out, HB0.out, if_neg hcase]
        have HP3 := HP2.out
        rw [hso] at HP3
        replace HP3 := hid HP3
        have hdl : (left.drop p).length = left.length - p := List.length_drop
        have HDL := hid hdl
        have hlp : (p : Int) ≤ (left.length : Int) := by omega
        have hln : (acc ++ U8.bad).length = acc.length + 3 := by rw [List.length_append]; rfl
        have HLN := hid hln
        clear hso HP2 hdl hln
        rcases (show q = false ∨ (q = true ∧ b0 = 0) by cases q <;> simp_all) with rfl | ⟨rfl, hb00⟩
        all_goals
          rcases Nat.lt_or_ge p c with hpc | hpc
          · have hpc' : (p : Int) < (c : Int) := by omega
            go_wp2_with (at_builtin; refine append_bytes rfl _ _ rfl w.heap.size _ acc rfl (hown1.alloc _) ⟨W1.heap.size, 0, none⟩ 3 3 U8.bad rfl rfl (new_bytes W1 U8.bad _ (0, 0) rfl) (by omega) (by simp; omega) ?_)
            intro v' w' hown2 hgr
            have hown3 : w'.ownsRow w.heap.size 5 1 v' (acc ++ U8.bad).length (byteCells (acc ++ U8.bad)) := by rw [HLN.out]; exact hown2
            have hbw3 := (hbw1.alloc hsz1 _).grown hgr (by simp; omega) (own_ge (hown1.alloc (.cells #[] 0)))
            clear hown2 hgr hown1 hbw1
            go_wp2
            go_roundw
            case rel => exact ⟨some ⟨blk, off + p, none⟩, c - p, left.drop p, acc ++ U8.bad, by rw [HDL.out], hid fun _ => ⟨blk, off + p, rfl, hbk, HATw.out.drop p⟩, by rw [HDL.out]; omega, by omega, hown3, hbw3, HP3⟩
            case measure => simp [lenOf]; omega
          · obtain ⟨d, hd⟩ : ∃ d, d = c := ⟨_, rfl⟩
            have hdc : p = d := by omega
            rw [← hd]
            rw [← hd] at hc hnc hpI hpc
            clear hd
            subst hdc
            go_wp2_with (at_builtin; refine append_bytes rfl _ _ rfl w.heap.size _ acc rfl (hown1.alloc _) ⟨W1.heap.size, 0, none⟩ 3 3 U8.bad rfl rfl (new_bytes W1 U8.bad _ (0, 0) rfl) (by omega) (by simp; omega) ?_)
            intro v' w' hown2 hgr
            have hown3 : w'.ownsRow w.heap.size 5 1 v' (acc ++ U8.bad).length (byteCells (acc ++ U8.bad)) := by rw [HLN.out]; exact hown2
            have hbw3 := (hbw1.alloc hsz1 _).grown hgr (by simp; omega) (own_ge (hown1.alloc (.cells #[] 0)))
            clear hown2 hgr hown1 hbw1
            go_wp2
            go_roundw
            case rel => exact ⟨some ⟨blk, off, none⟩, 0, left.drop p, acc ++ U8.bad, by rw [HDL.out, show left.length - p = 0 by omega], hid fun h => absurd (List.drop_of_length_le (by omega)) h, by rw [HDL.out]; omega, by omega, hown3, hbw3, HP3⟩
            case measure => simp [lenOf]; omega
end Go.Proofs.YthfaogodiefefaaDoor
