/- Walks over the program's package dom: a line of what is printed. Walks over the program's package dom: nodes, line by line. Nodes that came in: each space is a byte. -/
import Derived.Test.YthbklcpjbeelhaaPrB
import Derived.Test.YthbklcpjbeelhaaOwnM
import Derived.Test.YthbklcpjbeelhaaRefDomP
import Derived.Test.YthbklcpjbeelhaaNodeArg
import Derived.Deep.LoopGhost
import Derived.IntWalk
import Derived.Deep.RegionHeld3
namespace Go.Proofs.Ythbklcpjbeelhaa
open Go.RowKit Go.Lib
set_option maxRecDepth 100000
set_option linter.unusedVariables false

/-- The blanks ahead of what stands so deep. -/
def frontN : Nat → List UInt8
  | 0 => []
  | n + 1 => frontN n ++ [32, 32]
theorem frontN_len : ∀ n, (frontN n).length = 2 * n
  | 0 => rfl
  | n + 1 => by
    show (frontN n ++ [32, 32]).length = _
    rw [List.length_append, frontN_len n]
    simp only [List.length_cons, List.length_nil]
    omega
theorem Wrote.blk {w w' : World} {B b c : Nat} {m : Value} {l : List UInt8} {cs : Array Value} {T : TypeId} (h : Wrote w w' B b m l) (hB : BlkW w c cs T) (hc : c ≠ b) (hT : T ≠ 5) : BlkW w' c cs T := by
  obtain ⟨p, v, h1, h2, h3⟩ := h
  exact h3.blk hB hc hT
set_option maxHeartbeats 4000000 in
theorem pline_any {B b : Nat} {m p v : Value} {l : List UInt8} (n : Nat) (parts : List (List UInt8)) (k pb : Nat) (w : World) (h : BuildP w B b m l p v) (hB : B ≤ w.heap.size) (hp : BlkW w pb (strsL parts).toArray 9) (hk : parts.length = k)
    (hn : n ≤ 1000000000) (hk2 : k ≤ 1000000000) (hlen : l.length + 2 * n + parts.flatten.length + 1 ≤ 140737488355328) :
    Calls Try.prog 67 #[.pointer (some ⟨b, 0, none⟩), .int .i64 n, .slice (some ⟨pb, 0, none⟩) k k] w fun e w' => e = .returned (.tuple #[]) ∧ Wrote w w' B b m (l ++ frontN n ++ parts.flatten ++ [10]) := by
  have hpb : pb ≠ b := blk_ne hp h.blk (by decide)
  have HP := hid hp
  have HB := hid hB
  have HK := hid hk
  have HLEN := hid hlen
  have H0 := hid (show Wrote w w B b m (l ++ frontN 0) from ⟨p, v, by show BuildP w B b m (l ++ []) p v; rw [List.append_nil]; exact h, Below.refl _ _, KeptU.refl _ _⟩)
  have hs2 : bs [32, 32] = ⟨#[32, 32]⟩ := rfl
  have HPW := hid fun (l2 s : List UInt8) (W : World) (hW : Wrote w W B b m l2) (hl : l2.length + s.length ≤ 140737488355328) => (by
    obtain ⟨p2, v2, q1, q2, q3⟩ := hW
    exact (pws_any s W q1 (Nat.le_trans hB q2.size) hl).mono fun e w' ⟨r1, r2⟩ => (show (∃ x, e = Ending.returned x) ∧ Wrote w w' B b m (l2 ++ s) from ⟨r1, r2.after q2 q3⟩))
  have HPB := hid fun (l2 : List UInt8) (W : World) (hW : Wrote w W B b m l2) (hl : l2.length + 1 ≤ 140737488355328) => (by
    obtain ⟨p2, v2, q1, q2, q3⟩ := hW
    exact (pwb_any 10 W q1 (Nat.le_trans hB q2.size) hl).mono fun e w' ⟨r1, r2⟩ => (show (∃ x, e = Ending.returned x) ∧ Wrote w w' B b m (l2 ++ [10]) from ⟨r1, r2.after q2 q3⟩))
  clear h hB hp hk hlen
  go_enter Try.func67, Try.ntmps67
  go_wp2
  go_loopg [9] n (fun gg iv wr => ∃ (j : Nat), j + gg = n ∧ iv = .int .i64 j ∧ Hid (Wrote w wr B b m (l ++ frontN j)))
  case atStart => exact ⟨0, by omega, rfl, H0⟩
  case round =>
    obtain ⟨j, hj, rfl, hI⟩ := hrel
    by_cases hlt : j < n
    · have d1 : decide (j < n) = true := decide_eq_true hlt
      have hltI : (j : Int) < (n : Int) := by omega
      have HW := hid (HPW.out _ [32, 32] wr hI.out (by have := HLEN.out; rw [List.length_append, frontN_len]; simp only [List.length_cons, List.length_nil]; omega))
      rw [hs2] at HW
      clear hI
      go_wp2_with fail
      refine (HW.out).mono ?_
      rintro e w2 ⟨⟨x, rfl⟩, hw2⟩
      have HI := hid (show Wrote w w2 B b m (l ++ frontN (j + 1)) from by
        show Wrote w w2 B b m (l ++ (frontN j ++ [32, 32]))
        rw [← List.append_assoc]
        exact hw2)
      clear hw2
      go_wp2
      go_roundg (n - (j + 1))
      case measure => omega
      case rel => exact ⟨j + 1, by omega, by go_num, HI⟩
    · have d1 : decide (j < n) = false := decide_eq_false hlt
      have hltI : ¬ (j : Int) < (n : Int) := by omega
      obtain rfl : j = n := by omega
      have HW1 := hid hI.out
      clear hI
      go_wp2
      go_loopg [18] k (fun gg iv wr => ∃ (i : Nat), i + gg = k ∧ iv = .int .i64 i ∧ Hid (Wrote w wr B b m (l ++ frontN j ++ (parts.take i).flatten)))
      case atStart => exact ⟨0, by omega, rfl, hid (by rw [List.take_zero, List.flatten_nil, List.append_nil]; exact HW1.out)⟩
      case round =>
        obtain ⟨i, hi, rfl, hI⟩ := hrel
        by_cases hlt2 : i < k
        · have d2 : decide (i < k) = true := decide_eq_true hlt2
          have hltI2 : (i : Int) < (k : Int) := by omega
          obtain ⟨x, hx⟩ : ∃ x, parts[i]? = some x := ⟨_, List.getElem?_eq_getElem (by have := HK.out; omega)⟩
          have cp := (hI.out.blk HP.out hpb (by decide)).cell i
          rw [List.getElem?_toArray, strsL_get, hx] at cp
          have hfl : (parts.take (i + 1)).flatten = (parts.take i).flatten ++ x := by
            rw [List.take_add_one, hx]
            simp
          have hfle : (parts.take i).flatten.length + x.length ≤ parts.flatten.length := by
            have h1 : ((parts.take (i + 1)).flatten ++ (parts.drop (i + 1)).flatten) = parts.flatten := by rw [← List.flatten_append, List.take_append_drop]
            have h2 := congrArg List.length h1
            rw [List.length_append, hfl, List.length_append] at h2
            omega
          have HW := hid (HPW.out _ x wr hI.out (by have := HLEN.out; rw [List.length_append, List.length_append, frontN_len]; omega))
          have HFL := hid hfl
          have i1 : (0 : Int) ≤ (i : Int) := by omega
          have i3 : ((i : Int)).toNat = i := by omega
          obtain ⟨X, hX⟩ : ∃ X : ByteArray, ⟨x.toArray⟩ = X := ⟨_, rfl⟩
          have hX2 : bs x = X := hX
          simp only [Option.map_some] at cp
          rw [hX] at cp
          rw [hX2] at HW
          clear hI hx hfl hfle hX hX2
          go_wp2_with fail
          refine (HW.out).mono ?_
          rintro e w2 ⟨⟨y, rfl⟩, hw2⟩
          have HI := hid (show Wrote w w2 B b m (l ++ frontN j ++ (parts.take (i + 1)).flatten) from by
            rw [HFL.out, ← List.append_assoc]
            exact hw2)
          clear hw2
          go_wp2
          go_roundg (k - (i + 1))
          case measure => omega
          case rel => exact ⟨i + 1, by omega, by go_num, HI⟩
        · have d2 : decide (i < k) = false := decide_eq_false hlt2
          have hltI2 : ¬ (i : Int) < (k : Int) := by omega
          have hI2 := hI.out
          rw [List.take_of_length_le (by have := HK.out; omega)] at hI2
          have HW := hid (HPB.out _ wr hI2 (by have := HLEN.out; rw [List.length_append, List.length_append, frontN_len]; omega))
          rw [show ((10 : UInt8).toNat : Nat) = 10 from rfl] at HW
          clear hI hI2
          go_wp2_with fail
          refine (HW.out).mono ?_
          rintro e w2 ⟨⟨y, rfl⟩, hw2⟩
          have HR := hid hw2
          clear hw2
          go_wp2
          refine bodyPost_end (v := .tuple #[]) (by simp [results, Try.results67, go_sem]) rfl ?_
          exact ⟨rfl, HR.out⟩
end Go.Proofs.Ythbklcpjbeelhaa
namespace Go.Proofs.Ythbklcpjbeelhaa
open Go.RowKit Go.Lib
set_option maxRecDepth 100000
set_option linter.unusedVariables false

/-- The printer at work: since w0; block b is its own, block mb its map; l is written. -/
def StP (w0 w : World) (b mb : Nat) (l : List UInt8) : Prop := (∃ p v, BuildP w w0.heap.size b (.map (some mb)) l p v) ∧ IsG w mb ∧ Below w0.heap.size w0 w
theorem StP.wrote {w0 w w' : World} {b mb : Nat} {l l2 : List UInt8} (h : StP w0 w b mb l) (hW : Wrote w w' w0.heap.size b (.map (some mb)) l2) : StP w0 w' b mb l2 ∧ KeptU b w w' := by
  obtain ⟨⟨p, v, h1⟩, h2, h3⟩ := h
  obtain ⟨p', v', g1, g2, g3⟩ := hW
  refine ⟨⟨⟨p', v', g1⟩, ?_, h3.trans (g2.mono (Nat.le_refl _))⟩, g3⟩
  obtain ⟨es, clock, hb, F, q1, q2⟩ := h2
  refine ⟨es, clock, g3.same mb _ hb (fun e => ?_) (fun cs fr e => by cases e), F, q1, q2⟩
  have := h1.blk
  unfold BlkW at this
  rw [e, this] at hb
  cases hb
theorem StP.later {w0 w w' : World} {b mb : Nat} {l : List UInt8} (h : StP w0 w b mb l) (hb : Below w.heap.size w w') : StP w0 w' b mb l := by
  obtain ⟨⟨p, v, h1⟩, h2, h3⟩ := h
  exact ⟨⟨p, v, h1.below hb⟩, h2.keep (hb.block mb (World.ownsMap.lt h2)) hb.size, h3.trans (hb.mono h3.size)⟩
/-- Each space is a byte. -/
def spL : Nat → List Dom.N → Prop
  | 0, _ => True
  | d + 1, ns => ∀ x ∈ ns, x.space < 256 ∧ spL d x.kids
/-- What 'nodes' is known to tell. -/
def PNodesC (d : Nat) : Prop := ∀ (S : Nat → Prop) (ns : List Dom.N) (a : Option Addr) (n c deep b mb : Nat) (l : List UInt8) (w0 w : World), IsN S d w0 a n ns → spL d ns → StP w0 w b mb l → Dom.sumW d ns ≤ 100000 → 2 * deep + 2 * Dom.sumW d ns ≤ 300000 → l.length + (Dom.linesP d ns (frontN deep)).length ≤ 1000000000000 →
  Calls Try.prog 59 #[.pointer (some ⟨b, 0, none⟩), .slice a n c, .int .i64 deep] w fun e w' => e = .returned (.tuple #[]) ∧ StP w0 w' b mb (l ++ Dom.linesP d ns (frontN deep)) ∧ KeptU b w w'
set_option maxHeartbeats 4000000 in
theorem pnodes_zero : PNodesC 0 := by
  intro S ns a n c deep b mb l w0 w h hsp hS hw hF hl
  obtain ⟨rfl, rfl⟩ := h
  have hR : Dom.linesP 0 [] (frontN deep) = [] := rfl
  rw [hR, List.append_nil]
  have HS := hid hS
  clear hS hw hF hl hR
  go_enter Try.func59, Try.ntmps59
  go_wp2
  go_loopg [12] 0 (fun g iv wr => iv = .int .i64 0 ∧ wr = w)
  case atStart => exact ⟨rfl, rfl⟩
  case round =>
    obtain ⟨rfl, rfl⟩ := hrel
    go_wp2
    refine bodyPost_end (v := .tuple #[]) (by simp [results, Try.results59, go_sem]) rfl ?_
    exact ⟨rfl, HS.out, KeptU.refl _ _⟩
/-- A line, of parts that lie in a block just made. -/
theorem line_st {w0 w : World} {b mb pb k : Nat} {l : List UInt8} (n : Nat) (parts : List (List UInt8)) (h : StP w0 w b mb l) (hp : BlkW w pb (strsL parts).toArray 9) (hk : parts.length = k) (hn : n ≤ 1000000000) (hk2 : k ≤ 1000000000) (hlen : l.length + 2 * n + parts.flatten.length + 1 ≤ 140737488355328) (l2 : List UInt8) (hl2 : l ++ frontN n ++ parts.flatten ++ [10] = l2) :
    Calls Try.prog 67 #[.pointer (some ⟨b, 0, none⟩), .int .i64 n, .slice (some ⟨pb, 0, none⟩) k k] w fun e w' => e = .returned (.tuple #[]) ∧ StP w0 w' b mb l2 ∧ KeptU b w w' := by
  obtain ⟨⟨p, v, h1⟩, h2, h3⟩ := h
  refine (pline_any n parts k pb w h1 h3.size hp hk hn hk2 hlen).mono ?_
  rintro e w' ⟨rfl, hW⟩
  rw [hl2] at hW
  exact ⟨rfl, StP.wrote ⟨⟨p, v, h1⟩, h2, h3⟩ hW⟩
/-- How long a part of what is written is. -/
theorem take_lines {d : Nat} {ns : List Dom.N} {F : List UInt8} (k : Nat) {x : Dom.N} (hx : ns[k]? = some x) : ((ns.take k).flatMap (Dom.lineP (Dom.linesP d) F)).length + (Dom.lineP (Dom.linesP d) F x).length ≤ (Dom.linesP (d + 1) ns F).length ∧ (ns.take (k + 1)).flatMap (Dom.lineP (Dom.linesP d) F) = (ns.take k).flatMap (Dom.lineP (Dom.linesP d) F) ++ Dom.lineP (Dom.linesP d) F x := by
  have h1 : (ns.take (k + 1)).flatMap (Dom.lineP (Dom.linesP d) F) = (ns.take k).flatMap (Dom.lineP (Dom.linesP d) F) ++ Dom.lineP (Dom.linesP d) F x := by
    rw [List.take_add_one, hx]
    simp
  refine ⟨?_, h1⟩
  have h2 : (Dom.linesP (d + 1) ns F).length = ((ns.take (k + 1)).flatMap (Dom.lineP (Dom.linesP d) F)).length + ((ns.drop (k + 1)).flatMap (Dom.lineP (Dom.linesP d) F)).length := by
    rw [← List.length_append, ← List.flatMap_append, List.take_append_drop]
    rfl
  rw [h1, List.length_append] at h2
  omega
end Go.Proofs.Ythbklcpjbeelhaa
namespace Go.Proofs.Ythbklcpjbeelhaa
open Go.ChangeShapes Go.WideShapes Go.ChangeAt Go.RowKit Go.Lib
set_option linter.unusedVariables false
set_option maxRecDepth 100000
section
variable {H : Type} {enc : TypeId × Value → H}
theorem nodes_sp {W : World} : ∀ (n : Nat) {a : Option Addr} {len cap : Nat} {y : DataW H × List MemPlace}, DataW.trod enc Try.prog W 0 (fun _ => true) true n 30 [.slice a len cap] = some y →
    ∀ {S : Nat → Prop} {d : Nat} {ns : List Dom.N}, IsN S d W a len ns → spL d ns := by
  intro n
  induction n using Nat.strongRecOn with
  | ind n ih =>
    intro a len cap y h S d ns hN
    cases d with
    | zero => trivial
    | succ d =>
      intro x hx
      obtain ⟨i, hx⟩ := List.mem_iff_getElem?.1 hx
      have hi : i < len := by
        have := (List.getElem?_eq_some_iff.1 hx).1
        have := hN.len
        omega
      obtain ⟨b, off, rfl, _, hat⟩ := hN.2.resolve_left (by omega)
      obtain ⟨aa, an, ac, ka, kn, kc, X⟩ := hat i x hx
      rcases DataW.trod_slice Try.underlying30 h with ⟨hcs, _⟩ | ⟨a', len', cap', elems, rest, m, rfl, hcs, _, _, hl, hm, hlen, hel, _⟩
      · simp at hcs
      · simp at hcs
        obtain ⟨rfl, rfl, rfl⟩ := hcs
        have key := hel i hi
        rw [show Try.prog.cellsOf 32 = 6 by kernel_rfl, List.getElem?_eq_getElem (by omega)] at key
        obtain ⟨cs, h1, h2⟩ := Option.bind_eq_some_iff.1 key
        obtain ⟨v0, v1, v2, v3, v4, v5, y0, y1, y2, y3, y4, y5, k, rfl, rfl, t0, t1, t2, t3, t4, t5⟩ := open_six Try.underlying32 (by kernel_rfl) ⟨rfl, rfl, rfl, rfl, rfl, rfl⟩ ⟨by kernel_rfl, by kernel_rfl, by kernel_rfl, by kernel_rfl, by kernel_rfl, by kernel_rfl⟩ h2
        obtain ⟨_, _, hc⟩ := World.cells?_some h1
        obtain ⟨k1, rfl, w1⟩ := int_arg t1
        have c1 := hc 1 (by omega)
        have c5 := hc 5 (by omega)
        rw [add_plain, add_plain] at c1 c5
        have e1 := X.c1.symm.trans c1
        have e5 := X.c5.symm.trans c5
        simp at e1 e5
        subst e5
        exact ⟨by omega, ih k (by omega) t5 X.kids⟩
end
end Go.Proofs.Ythbklcpjbeelhaa
