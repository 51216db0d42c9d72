/- What holds above a world. What the program's Text of layer 8 is known to tell, as a premise for what stands on it. What the program's Next and All of layer 9 are known to tell, as premises for what stands on them. Walks: 'known' of the statements of layer 9, over what the program's Next and All are known to tell (LexNC, LexAC). EW: what the program's variables hold. Walks: what the statements of several layers share: two lists of tokens that are alike are found to be so. What holds in a function that hands out tokens one by one, kept in a variable of its own (package lex); Next at a place, in the mode of data. -/
import Derived.Test.YtgldgdopabmefaaGreatDoorGnd
import Derived.Test.YtgldgdopabmefaaGreatDoorRawTag
import Derived.Test.YtgldgdopabmefaaGreatDoorLoopJ
import Derived.Test.YtgldgdopabmefaaGreatDoorRefRaw
import Derived.Test.YtgldgdopabmefaaGreatDoorTagV
import Derived.Deep.LoopGhost
import Derived.Deep.RegionHeld3
namespace Go.Proofs.YtgldgdopabmefaaGreatDoor
open Go.RowKit Go.Lib

/-- What holds of a world's variables, still holds above it. -/
def KeepsW (EW : World → Prop) : Prop := ∀ (w w' : World), EW w → Below w.heap.size w w' → EW w'
theorem cell_up {w w' : World} {a : Addr} {v : Value} (h : w.cell? a = some v) (hb : Below w.heap.size w w') : w'.cell? a = some v := (hb.cell (World.block_lt_of_cell? _ _ h)).trans h
end Go.Proofs.YtgldgdopabmefaaGreatDoor
namespace Go.Proofs.YtgldgdopabmefaaGreatDoor
open Go.RowKit Go.Lib
set_option maxRecDepth 100000
set_option linter.unusedVariables false

/-- What the program's Text is known to tell. -/
def RawC (EW : World → Prop) : Prop := ∀ (s name : ByteArray) (i : Int) (m : Nat) (w : World), EW w → s.size ≤ 400000 → name.size ≤ 400000 → m < 256 → (-9223372036854775808 ≤ i ∧ i ≤ 9223372036854775807) →
  Calls Tryz.prog 12 #[.string s, .int .i64 i, .string name, .int .u8 m] w fun e w' => e = .returned (rawV s.data.toList i (Raw.smallN name.data.toList) m) ∧ Below w.heap.size w w'
end Go.Proofs.YtgldgdopabmefaaGreatDoor
namespace Go.Proofs.YtgldgdopabmefaaGreatDoor
open Go.RowKit Go.Lib
set_option maxRecDepth 100000
set_option linter.unusedVariables false

def LexNC (EW : World → Prop) : Prop := ∀ (s name : ByteArray) (i : Int) (m : Nat) (cd : Bool) (w : World), EW w → s.size ≤ 300000 → name.size ≤ 300000 → m < 256 → (-9223372036854775808 ≤ i ∧ i ≤ 9223372036854775807) →
  Calls Tryz.prog 5 #[.string s, .int .i64 i, .int .u8 m, .string name, .bool cd] w fun e w' => LexE (nextI s.data.toList (Raw.smallN name.data.toList) m cd i) s.size e w' ∧ Below w.heap.size w w'
def LexAC (EW : World → Prop) : Prop := ∀ (s : ByteArray) (w : World), EW w → s.size ≤ 300000 →
  Calls Tryz.prog 10 #[.string s] w fun e w' => AllE s.data.toList s.size e w' ∧ Below w.heap.size w w'
end Go.Proofs.YtgldgdopabmefaaGreatDoor
namespace Go.Proofs.YtgldgdopabmefaaGreatDoor
open Go.RowKit Go.Lib
set_option maxRecDepth 100000
set_option linter.unusedVariables false

theorem isT_at {w : World} {a : Option Addr} {n m : Nat} {ts : List Lex.T} (h : IsT w a n m ts) (hn : n ≠ 0) : ∃ b off, a = some ⟨b, off, none⟩ ∧ ∀ (i : Nat) t, ts[i]? = some t → w.cell? ⟨b, off + i * 5, none⟩ = some (.int .u8 t.kind) ∧ w.cell? ⟨b, off + i * 5 + 1, none⟩ = some (.string (bs t.name)) ∧ w.cell? ⟨b, off + i * 5 + 4, none⟩ = some (.string (bs t.text)) := by
  obtain ⟨rs, h1, h2, h3 | ⟨b, off, e, hat⟩, h4⟩ := h
  · exact absurd h3 hn
  refine ⟨b, off, e, fun i t ht => ?_⟩
  have hi : i < rs.length := by have := (List.getElem?_eq_some_iff.1 ht).1; omega
  obtain ⟨r, hr⟩ : ∃ r, rs[i]? = some r := ⟨_, List.getElem?_eq_getElem hi⟩
  obtain ⟨f1, f2, _, f4, _⟩ := h4 i r t hr ht
  have c0 := hat i r hr 0 (by omega)
  have c1 := hat i r hr 1 (by omega)
  have c4 := hat i r hr 4 (by omega)
  simp only [tokRow, Nat.add_zero, List.getElem?_cons_zero, List.getElem?_cons_succ, f1, f2, f4] at c0 c1 c4
  exact ⟨c0, c1, c4⟩
theorem k9_all : Lex.allAt [97, 32, 60, 32, 98, 60, 47, 120, 62, 60, 33, 45, 45, 99, 45, 45, 62, 38, 108, 116, 59, 60] 0 = [⟨1, [], [], false, [97, 32, 60, 32, 98]⟩, ⟨3, [120], [], false, []⟩, ⟨4, [], [], false, [99]⟩, ⟨1, [], [], false, [60, 60]⟩] := by kernel_rfl
theorem k9_next : Lex.next [120, 60, 47, 116, 105, 116, 108, 101, 62] (Raw.smallN [116, 105, 116, 108, 101]) 1 false 1 = (⟨3, [116, 105, 116, 108, 101], [], false, []⟩, 9) := by kernel_rfl
theorem kl_one {EW : World → Prop} (HA : LexAC EW) (w : World) (hW : EW w) : Calls Tryz.prog 10 #[.string ⟨#[97, 32, 60, 32, 98, 60, 47, 120, 62, 60, 33, 45, 45, 99, 45, 45, 62, 38, 108, 116, 59, 60]⟩] w fun e w' => (∃ b off c, e = .returned (.slice (some ⟨b, off, none⟩) 4 c) ∧ w'.cell? ⟨b, off + 4, none⟩ = some (.string ⟨#[97, 32, 60, 32, 98]⟩) ∧ w'.cell? ⟨b, off + 5 + 1, none⟩ = some (.string ⟨#[120]⟩) ∧ w'.cell? ⟨b, off + 10 + 4, none⟩ = some (.string ⟨#[99]⟩) ∧ w'.cell? ⟨b, off + 15 + 4, none⟩ = some (.string ⟨#[60, 60]⟩)) ∧ Below w.heap.size w w' :=
  (HA ⟨#[97, 32, 60, 32, 98, 60, 47, 120, 62, 60, 33, 45, 45, 99, 45, 45, 62, 38, 108, 116, 59, 60]⟩ w hW (by decide)).mono fun e w' ⟨h1, h2⟩ => ⟨by
    obtain ⟨a, cap, e1, hT, _⟩ := h1
    rw [show (⟨#[97, 32, 60, 32, 98, 60, 47, 120, 62, 60, 33, 45, 45, 99, 45, 45, 62, 38, 108, 116, 59, 60]⟩ : ByteArray).data.toList = [97, 32, 60, 32, 98, 60, 47, 120, 62, 60, 33, 45, 45, 99, 45, 45, 62, 38, 108, 116, 59, 60] from rfl, k9_all] at e1 hT
    obtain ⟨b, off, rfl, hat⟩ := isT_at hT (by decide)
    exact ⟨b, off, cap, e1, (hat 0 _ rfl).2.2, (hat 1 _ rfl).2.1, (hat 2 _ rfl).2.2, (hat 3 _ rfl).2.2⟩, h2⟩
theorem kl_two {EW : World → Prop} (HN : LexNC EW) (w : World) (hW : EW w) : Calls Tryz.prog 5 #[.string ⟨#[120, 60, 47, 116, 105, 116, 108, 101, 62]⟩, .int .i64 1, .int .u8 1, .string ⟨#[116, 105, 116, 108, 101]⟩, .bool false] w fun e w' => (∃ n a k c sf t, e = .returned (.tuple #[.agg #[.int .u8 3, .string n, .slice a k c, .bool sf, .string t], .int .i64 9])) ∧ Below w.heap.size w w' :=
  (HN ⟨#[120, 60, 47, 116, 105, 116, 108, 101, 62]⟩ ⟨#[116, 105, 116, 108, 101]⟩ 1 1 false w hW (by decide) (by decide) (by decide) (by decide)).mono fun e w' ⟨h1, h2⟩ => ⟨by
    have hx : nextI (⟨#[120, 60, 47, 116, 105, 116, 108, 101, 62]⟩ : ByteArray).data.toList (Raw.smallN (⟨#[116, 105, 116, 108, 101]⟩ : ByteArray).data.toList) 1 false 1 = (⟨3, [116, 105, 116, 108, 101], [], false, []⟩, 9) := k9_next
    rw [hx] at h1
    obtain ⟨a, k, c, e1, _⟩ := h1
    exact ⟨_, a, k, c, _, _, e1⟩, h2⟩
set_option maxHeartbeats 4000000 in
theorem known9_any {EW : World → Prop} (HN : LexNC EW) (HA : LexAC EW) (HB : KeepsW EW) (w : World) (hT : EW w) : Calls Tryz.prog 7 #[] w fun e w' => e = .returned (.bool true) ∧ Below w.heap.size w w' := by
  have HT := hid hT
  have K1 := hid (kl_one HA)
  have K2 := hid (kl_two HN)
  have HBB := hid HB
  clear hT HN HA HB
  go_enter Tryz.func7, Tryz.ntmps7
  go_wp2_with fail
  refine (K1.out _ HT.out).mono ?_
  rintro e w1 ⟨⟨b, off, c, rfl, c0, c1, c2, c3⟩, b1⟩
  have HT1 := hid (HBB.out _ _ HT.out b1)
  have C0 := hid c0
  have C1 := hid c1
  have C2 := hid c2
  have C3 := hid c3
  clear c0 c1 c2 c3
  go_wp2_with fail
  refine (K2.out _ HT1.out).mono ?_
  rintro e w2 ⟨⟨nm, a, k, cc, sf, tx, rfl⟩, b2⟩
  have b3 := b2.alloc b2.size (.cells #[.int .u8 3, .string nm, .slice a k cc, .bool sf, .string tx] 24)
  have B3 := hid (b1.trans (b3.mono b1.size))
  have k0 := cell_up C0.out b3
  have k1 := cell_up C1.out b3
  have k2 := cell_up C2.out b3
  have k3 := cell_up C3.out b3
  have y0 := (BlkW.new w2 #[.int .u8 3, .string nm, .slice a k cc, .bool sf, .string tx] 24).cell 0
  simp only [List.getElem?_toArray, List.getElem?_cons_zero] at y0
  clear b1 b2 b3
  go_wp2
  go_ret
  exact ⟨ret_bool' (by simp), B3.out⟩
end Go.Proofs.YtgldgdopabmefaaGreatDoor
namespace Go.Proofs.YtgldgdopabmefaaGreatDoor
open Go.RowKit Go.Lib
set_option maxRecDepth 100000
set_option linter.unusedVariables false

set_option maxHeartbeats 4000000 in
theorem sameToks_any (m n c1 c2 : Nat) (ts : List Lex.T) (a1 a2 : Option Addr) (w : World) (h : IsT w a1 n m ts) (g : IsT w a2 n m ts) (hm : m ≤ 4294967296) (hn : n ≤ 4294967296) :
    Calls Tryz.prog 9 #[.slice a1 n c1, .slice a2 n c2] w fun e w' => e = .returned (.bool true) ∧ Below w.heap.size w w' := by
  have HH := hid h
  have HG := hid g
  have d0 : ((n : Int) != (n : Int)) = false := by simp
  clear h g
  go_enter Tryz.func9, Tryz.ntmps9
  go_wp2
  go_loopg [5] n (fun g iv wr => ∃ k : Nat, k + g = n ∧ iv = .int .i64 k ∧ Hid (Below w.heap.size w wr))
  case atStart => exact ⟨0, by omega, rfl, hid (Below.refl _ _)⟩
  case round =>
    obtain ⟨k, hk, rfl, hB⟩ := hrel
    by_cases hlt : k < n
    · have d1 : decide (k < n) = true := decide_eq_true hlt
      have hltI : (k : Int) < (n : Int) := by omega
      obtain ⟨rs, l1, l2, z0 | ⟨b1, o1, rfl, hat⟩, hf⟩ := HH.out.below hB.out
      · omega
      obtain ⟨rs', l1', l2', z0 | ⟨b2, o2, rfl, hau⟩, hf'⟩ := HG.out.below hB.out
      · omega
      obtain ⟨t, ht⟩ : ∃ t, ts[k]? = some t := ⟨_, List.getElem?_eq_getElem (by omega)⟩
      obtain ⟨r, hr⟩ : ∃ r, rs[k]? = some r := ⟨_, List.getElem?_eq_getElem (by omega)⟩
      obtain ⟨r', hr'⟩ : ∃ r', rs'[k]? = some r' := ⟨_, List.getElem?_eq_getElem (by omega)⟩
      obtain ⟨f1, f2, f3, f4, f5, f6, _⟩ := hf k r t hr ht
      obtain ⟨g1, g2, g3, g4, g5, g6, _⟩ := hf' k r' t hr' ht
      have S := fun W (hW : Below wr.heap.size wr W) => sameTok_any t.kind t.name t.self t.text t.atts r.ad r.n r.c r'.ad r'.n r'.c W (f5.below hW) (g5.below hW) (by omega) (by omega)
      unfold tokV at S
      have hx := hat k r hr
      have hy := hau k r' hr'
      have x0 := hx 0 (by omega)
      have x1 := hx 1 (by omega)
      have x2 := hx 2 (by omega)
      have x3 := hx 3 (by omega)
      have x4 := hx 4 (by omega)
      have y0 := hy 0 (by omega)
      have y1 := hy 1 (by omega)
      have y2 := hy 2 (by omega)
      have y3 := hy 3 (by omega)
      have y4 := hy 4 (by omega)
      simp only [tokRow, Nat.add_zero, List.getElem?_cons_zero, List.getElem?_cons_succ, f1, f2, f3, f4, g1, g2, g3, g4] at x0 x1 x2 x3 x4 y0 y1 y2 y3 y4
      generalize bs t.name = NM at *
      generalize bs t.text = TX at *
      generalize t.kind = K at *
      generalize t.self = sf at *
      generalize r.ad = ad1 at *
      generalize r.n = n1 at *
      generalize r.c = cc1 at *
      generalize r'.ad = ad2 at *
      generalize r'.n = n2 at *
      generalize r'.c = cc2 at *
      have S := hid S
      have cx0 : ∀ W, Below wr.heap.size wr W → W.cell? ⟨b1, o1 + k * 5, none⟩ = some (.int .u8 K) := fun W hW => cell_up x0 hW
      have cx1 : ∀ W, Below wr.heap.size wr W → W.cell? ⟨b1, o1 + k * 5 + 1, none⟩ = some (.string NM) := fun W hW => cell_up x1 hW
      have cx2 : ∀ W, Below wr.heap.size wr W → W.cell? ⟨b1, o1 + k * 5 + 2, none⟩ = some (.slice ad1 n1 cc1) := fun W hW => cell_up x2 hW
      have cx3 : ∀ W, Below wr.heap.size wr W → W.cell? ⟨b1, o1 + k * 5 + 3, none⟩ = some (.bool sf) := fun W hW => cell_up x3 hW
      have cx4 : ∀ W, Below wr.heap.size wr W → W.cell? ⟨b1, o1 + k * 5 + 4, none⟩ = some (.string TX) := fun W hW => cell_up x4 hW
      have cy0 : ∀ W, Below wr.heap.size wr W → W.cell? ⟨b2, o2 + k * 5, none⟩ = some (.int .u8 K) := fun W hW => cell_up y0 hW
      have cy1 : ∀ W, Below wr.heap.size wr W → W.cell? ⟨b2, o2 + k * 5 + 1, none⟩ = some (.string NM) := fun W hW => cell_up y1 hW
      have cy2 : ∀ W, Below wr.heap.size wr W → W.cell? ⟨b2, o2 + k * 5 + 2, none⟩ = some (.slice ad2 n2 cc2) := fun W hW => cell_up y2 hW
      have cy3 : ∀ W, Below wr.heap.size wr W → W.cell? ⟨b2, o2 + k * 5 + 3, none⟩ = some (.bool sf) := fun W hW => cell_up y3 hW
      have cy4 : ∀ W, Below wr.heap.size wr W → W.cell? ⟨b2, o2 + k * 5 + 4, none⟩ = some (.string TX) := fun W hW => cell_up y4 hW
      have e0 : Below wr.heap.size wr wr := Below.refl _ _
      clear hat hau hf hf' hr hr' ht hx hy x0 x1 x2 x3 x4 y0 y1 y2 y3 y4 f1 f2 f3 f4 f5 f6 g1 g2 g3 g4 g5 g6 l1 l2 l1' l2'
      go_wp2
      go_region_held3 (fun w' => w'.cell? ⟨b1, o1 + k * 5, none⟩ = some (.int .u8 K) ∧ w'.cell? ⟨b1, o1 + k * 5 + 1, none⟩ = some (.string NM) ∧ w'.cell? ⟨b1, o1 + k * 5 + 2, none⟩ = some (.slice ad1 n1 cc1) ∧ w'.cell? ⟨b1, o1 + k * 5 + 3, none⟩ = some (.bool sf) ∧ w'.cell? ⟨b1, o1 + k * 5 + 4, none⟩ = some (.string TX) ∧ w'.cell? ⟨b2, o2 + k * 5, none⟩ = some (.int .u8 K) ∧ w'.cell? ⟨b2, o2 + k * 5 + 1, none⟩ = some (.string NM) ∧ w'.cell? ⟨b2, o2 + k * 5 + 2, none⟩ = some (.slice ad2 n2 cc2) ∧ w'.cell? ⟨b2, o2 + k * 5 + 3, none⟩ = some (.bool sf) ∧ w'.cell? ⟨b2, o2 + k * 5 + 4, none⟩ = some (.string TX) ∧ Below wr.heap.size wr w')
        (first | exact ⟨cx0 _ e1, cx1 _ e1, cx2 _ e1, cx3 _ e1, cx4 _ e1, cy0 _ e1, cy1 _ e1, cy2 _ e1, cy3 _ e1, cy4 _ e1, e1⟩ | exact ⟨cx0 _ e0.drew, cx1 _ e0.drew, cx2 _ e0.drew, cx3 _ e0.drew, cx4 _ e0.drew, cy0 _ e0.drew, cy1 _ e0.drew, cy2 _ e0.drew, cy3 _ e0.drew, cy4 _ e0.drew, e0.drew⟩ | exact ⟨cx0 _ e0, cx1 _ e0, cx2 _ e0, cx3 _ e0, cx4 _ e0, cy0 _ e0, cy1 _ e0, cy2 _ e0, cy3 _ e0, cy4 _ e0, e0⟩)
        (first
          | (go_at_call 8; with_reducible refine (S.out _ e0.drew).mono ?_; rintro e' w3 ⟨rfl, b3⟩; have e1 := e0.drew.trans (b3.mono e0.drew.size)))
      have HN := hid (hB.out.trans (e1.mono hB.out.size))
      clear cx0 cx1 cx2 cx3 cx4 cy0 cy1 cy2 cy3 cy4 e0 e1 b3
      go_wp2
      go_roundg (n - (k + 1))
      case measure => omega
      case rel => exact ⟨k + 1, by omega, by go_num, HN⟩
    · have d1 : decide (k < n) = false := decide_eq_false hlt
      have hltI : ¬ (k : Int) < (n : Int) := by omega
      go_wp2
      go_ret
      exact ⟨rfl, hB.out⟩
end Go.Proofs.YtgldgdopabmefaaGreatDoor
namespace Go.Proofs.YtgldgdopabmefaaGreatDoor
open Go.RowKit Go.Lib
set_option maxRecDepth 100000
set_option linter.unusedVariables false

theorem fg_set {w wr : World} {B : Nat} (h : w.grownBy wr (some B)) (p : Addr) (v : Value) (hp : p.block = B ∨ w.heap.size ≤ p.block) : w.grownBy (wr.setCell p v) (some B) :=
  ⟨h.os, h.tape, h.output, Nat.le_trans h.size (by simp), fun k hk hne => by
    rw [Below.heap_setCell _ _ _ _ (fun e => by
      rcases hp with hp | hp
      · exact hne (by rw [e, hp])
      · omega)]
    exact h.block k hk hne⟩
theorem OwnT.old {w : World} {base m : Nat} {v : Value} {ts : List Lex.T} (h : OwnT w base m v ts) : ∀ g, v.ownBlock = some g → g < w.heap.size := by
  obtain ⟨rs, h1, _, _⟩ := h
  intro g hg
  obtain ⟨cs, hc⟩ := own_tblock h1 g hg
  exact (Array.getElem?_eq_some_iff.1 hc).1
/-- Five cells stored. -/
theorem blk_five {W : World} {H : Nat} {c0 c1 c2 c3 c4 : Value} {T : TypeId} (h : BlkW W H #[c0, c1, c2, c3, c4] T) (a0 a1 a2 a3 a4 : Value) :
    BlkW (((((W.setCell ⟨H, 0, none⟩ a0).setCell ⟨H, 1, none⟩ a1).setCell ⟨H, 2, none⟩ a2).setCell ⟨H, 3, none⟩ a3).setCell ⟨H, 4, none⟩ a4) H #[a0, a1, a2, a3, a4] T := ((((h.set_ 0 a0).set_ 1 a1).set_ 2 a2).set_ 3 a3).set_ 4 a4
theorem heap_five (W : World) (H : Nat) (a0 a1 a2 a3 a4 : Value) (b : Nat) (hb : b ≠ H) :
    (((((W.setCell ⟨H, 0, none⟩ a0).setCell ⟨H, 1, none⟩ a1).setCell ⟨H, 2, none⟩ a2).setCell ⟨H, 3, none⟩ a3).setCell ⟨H, 4, none⟩ a4).heap[b]? = W.heap[b]? := by
  rw [Below.heap_setCell _ _ _ _ hb, Below.heap_setCell _ _ _ _ hb, Below.heap_setCell _ _ _ _ hb, Below.heap_setCell _ _ _ _ hb, Below.heap_setCell _ _ _ _ hb]
theorem gr_five (W : World) (H : Nat) (a0 a1 a2 a3 a4 : Value) :
    W.grownBy (((((W.setCell ⟨H, 0, none⟩ a0).setCell ⟨H, 1, none⟩ a1).setCell ⟨H, 2, none⟩ a2).setCell ⟨H, 3, none⟩ a3).setCell ⟨H, 4, none⟩ a4) (some H) :=
  fg_set (fg_set (fg_set (fg_set (fg_set (World.grownBy.refl W (some H)) ⟨H, 0, none⟩ a0 (.inl rfl)) ⟨H, 1, none⟩ a1 (.inl rfl)) ⟨H, 2, none⟩ a2 (.inl rfl)) ⟨H, 3, none⟩ a3 (.inl rfl)) ⟨H, 4, none⟩ a4 (.inl rfl)
/-- The cells of a token. -/
abbrev tokC (t : Lex.T) (a : Option Addr) (c x : Nat) : Array Value := #[.int .u8 t.kind, .string (bs t.name), .slice a c x, .bool t.self, .string (bs t.text)]
/-- The token at k is at hand, in block tv. -/
structure TokI (w : World) (r : Loop) (s : ByteArray) (k tv : Nat) (X : Lex.T × Nat) (ts : List Lex.T) (v : Value) (a : Option Addr) (c x : Nat) (W : World) : Prop where
  j : LoopJ w r s.size s ts v W
  tok : BlkW W tv (tokC X.1 a c x) 24
  isA : IsA W a c X.1.atts
  le : c ≤ s.size
  typ : TypB W a
  own : v.ownBlock ≠ some tv
  hX : Lex.next s.data.toList [60, 47] 0 false k = X
  hk : k ≤ s.size
  len : ts.length ≤ k
  all : ts ++ Lex.allAt s.data.toList k = Lex.allAt s.data.toList 0
/-- Behind a round: the list has the token; the rest stands. -/
structure TokH (w : World) (r : Loop) (s : ByteArray) (tv : Nat) (X : Lex.T × Nat) (ts : List Lex.T) (v : Value) (a : Option Addr) (c x : Nat) (W : World) : Prop where
  j : LoopJ w r s.size s ts v W
  tok : BlkW W tv (tokC X.1 a c x) 24
  own : v.ownBlock ≠ some tv
theorem TokI.behind {w W W' : World} {r : Loop} {s : ByteArray} {k tv : Nat} {X : Lex.T × Nat} {ts : List Lex.T} {v : Value} {a : Option Addr} {c x : Nat} (h : TokI w r s k tv X ts v a c x W) (hR : Rounded w r s.size s ts X.1 v W (.returned (.bool true)) W') (htv : w.heap.size + 4 ≤ tv) :
    ∃ v', TokH w r s tv X (ts ++ [X.1]) v' a c x W' := by
  obtain ⟨_, v', hJ, hv, hk, _⟩ := hR
  have hl := h.tok.lt
  refine ⟨v', hJ, blk_of_heap h.tok (hk tv h.tok.lt (by omega) (by omega) h.own), ?_⟩
  rcases hv with hv | ⟨g, hv, hg⟩
  · rw [hv]; exact h.own
  · rw [hv]
    intro e
    have := Option.some.inj e
    omega
/-- The next token told, stored in its variable. -/
theorem TokH.on {w W W5 : World} {r : Loop} {s : ByteArray} {tv k : Nat} {X : Lex.T × Nat} {ts : List Lex.T} {v : Value} {a : Option Addr} {c x : Nat} {e : Ending} (h : TokH w r s tv X (ts ++ [X.1]) v a c x W) (htv : w.heap.size + 4 ≤ tv)
    (hX : Lex.next s.data.toList [60, 47] 0 false k = X) (hk : k ≤ s.size) (h6 : X.1.kind ≠ 6) (hlen : ts.length ≤ k) (hall : ts ++ Lex.allAt s.data.toList k = Lex.allAt s.data.toList 0)
    (hE : LexE (Lex.next s.data.toList [60, 47] 0 false X.2) s.size e W5) (hb : Below W.heap.size W W5) :
    ∃ Y a' c' x' W6, e = .returned (.tuple #[tokV Y.1.kind Y.1.name a' c' x' Y.1.self Y.1.text, .int .i64 Y.2]) ∧
      (((((W5.setCell ⟨tv, 0, none⟩ (.int .u8 Y.1.kind)).setCell ⟨tv, 1, none⟩ (.string (bs Y.1.name))).setCell ⟨tv, 2, none⟩ (.slice a' c' x')).setCell ⟨tv, 3, none⟩ (.bool Y.1.self)).setCell ⟨tv, 4, none⟩ (.string (bs Y.1.text))) = W6 ∧
      TokI w r s X.2 tv Y (ts ++ [X.1]) v a' c' x' W6 ∧ (X.2 ≤ Y.2 ∧ Y.2 ≤ s.size ∧ (Y.1.kind ≠ 6 → X.2 < Y.2)) ∧ X.2 ≤ s.size ∧ BlkW W5 tv (tokC X.1 a c x) 24 := by
  have hsl := size_list s
  have hg := Lex.next_grow s.data.toList [60, 47] 0 false s.data.toList.length k (by omega)
  have hgo := @Lex.allAt_go s.data.toList k
  rw [hX] at hg hgo
  rcases hg with hg | ⟨g1, g2, _⟩
  · rw [hg] at h6
    exact absurd rfl h6
  obtain ⟨Y, hY⟩ : ∃ Y, Lex.next s.data.toList [60, 47] 0 false X.2 = Y := ⟨_, rfl⟩
  have hg2 := Lex.next_grow s.data.toList [60, 47] 0 false s.data.toList.length X.2 (by omega)
  rw [hY] at hE hg2
  obtain ⟨a', c', x', he, hI, hc, hT⟩ := hE
  have T5 := h.tok.below hb h.tok.lt
  have J5 := h.j.later hb
  obtain ⟨W6, hW6⟩ : ∃ W6, (((((W5.setCell ⟨tv, 0, none⟩ (.int .u8 Y.1.kind)).setCell ⟨tv, 1, none⟩ (.string (bs Y.1.name))).setCell ⟨tv, 2, none⟩ (.slice a' c' x')).setCell ⟨tv, 3, none⟩ (.bool Y.1.self)).setCell ⟨tv, 4, none⟩ (.string (bs Y.1.text))) = W6 := ⟨_, rfl⟩
  have T6 := blk_five T5 (.int .u8 Y.1.kind) (.string (bs Y.1.name)) (.slice a' c' x') (.bool Y.1.self) (.string (bs Y.1.text))
  have gr := gr_five W5 tv (.int .u8 Y.1.kind) (.string (bs Y.1.name)) (.slice a' c' x') (.bool Y.1.self) (.string (bs Y.1.text))
  have hh := heap_five W5 tv (.int .u8 Y.1.kind) (.string (bs Y.1.name)) (.slice a' c' x') (.bool Y.1.self) (.string (bs Y.1.text))
  rw [hW6] at T6 gr hh
  have J6 := J5.keep gr h.own T5 tok_ne_attr htv
  have hle : X.2 ≤ Y.2 ∧ Y.2 ≤ s.size ∧ (Y.1.kind ≠ 6 → X.2 < Y.2) := by
    rcases hg2 with h3 | ⟨h3, h4, h5⟩
    · rw [h3]
      exact ⟨by show X.2 ≤ s.data.toList.length; omega, by show s.data.toList.length ≤ s.size; omega, fun e => absurd rfl e⟩
    · exact ⟨by omega, by omega, fun _ => h3⟩
  refine ⟨Y, a', c', x', W6, he, hW6, ⟨J6, T6, isA_kept' hI fun p hp => hh _ (hT.ne T5 tok_ne_attr p hp), hc, hT.heap fun p hp => hh _ (hT.ne T5 tok_ne_attr p hp), h.own, hY, by omega, ?_, ?_⟩, hle, by omega, T5⟩
  · rw [List.length_append, List.length_singleton]
    omega
  · rw [← hall, hgo h6, List.append_assoc]
    rfl
/-- What is still to come, read off the place and the token: for the loop's measure. -/
def toksM (len tv : Nat) (p : Value) (W : World) : Nat :=
  2 * (len - (match p with | .int _ z => z.toNat | _ => 0)) + (match W.cell? ⟨tv, 0, none⟩ with | some (.int _ z) => if z = 6 then 0 else 1 | _ => 0)
theorem toksM_eq {w W : World} {r : Loop} {s : ByteArray} {k tv : Nat} {X : Lex.T × Nat} {ts : List Lex.T} {v : Value} {a : Option Addr} {c x : Nat} (h : TokI w r s k tv X ts v a c x W) : toksM s.size tv (.int .i64 X.2) W = 2 * (s.size - X.2) + (if X.1.kind = 6 then 0 else 1) := by
  have h2 : W.cell? ⟨tv, 0, none⟩ = some (.int .u8 X.1.kind) := h.tok.cell 0
  unfold toksM
  simp only [h2]
  congr 1
  by_cases h6 : X.1.kind = 6
  · rw [if_pos h6, if_pos (by omega)]
  · rw [if_neg h6, if_neg (by omega)]
/-- Next at a place, in the mode of data. -/
theorem lnext_at {EW : World → Prop} (HN : LexNC EW) (s : ByteArray) (k : Nat) (w : World) (hT : EW w) (ws : s.size ≤ 300000) (hk : k ≤ 300000) :
    Calls Tryz.prog 5 #[.string s, .int .i64 k, .int .u8 0, .string ⟨#[]⟩, .bool false] w fun e w' => LexE (Lex.next s.data.toList [60, 47] 0 false k) s.size e w' ∧ Below w.heap.size w w' := by
  have H1 := HN s ⟨#[]⟩ k 0 false w hT (by omega) (by decide) (by decide) (by omega)
  have hx : nextI s.data.toList (Raw.smallN (⟨#[]⟩ : ByteArray).data.toList) 0 false (k : Int) = Lex.next s.data.toList [60, 47] 0 false k := by
    unfold nextI
    rw [if_neg (by omega)]
    rfl
  rw [hx] at H1
  exact H1
end Go.Proofs.YtgldgdopabmefaaGreatDoor
