/- Walks: what the statements of several layers share: are two lists of attributes alike. Laws: a block of memory that is known whole; an own row kept by a store elsewhere. Walks: what the statements of several layers share: two tokens that are alike are found to be so. What Next of layer 9 tells: a token as a value with a list in memory. -/
import Derived.Test.YtgldgdopabmefaaDoorAppT
import Derived.Test.YtgldgdopabmefaaDoorLexPl
import Derived.Deep.LoopGhost
import Derived.IntWalk
namespace Go.Proofs.YtgldgdopabmefaaDoor
open Go.RowKit Go.Lib
set_option maxRecDepth 100000
set_option linter.unusedVariables false

set_option maxHeartbeats 2000000 in
theorem sameAt_any (a1 : Option Addr) (n1 c1 : Nat) (ats : List (List UInt8 × List UInt8)) (a2 : Option Addr) (n2 c2 : Nat) (ats' : List (List UInt8 × List UInt8)) (w : World) (h : IsA w a1 n1 ats) (g : IsA w a2 n2 ats') (hs1 : n1 ≤ 4294967296) (hs2 : n2 ≤ 4294967296) :
    Calls Tryd.prog 14 #[.slice a1 n1 c1, .slice a2 n2 c2] w fun e w' => e = .returned (.bool (decide (ats = ats'))) ∧ Below w.heap.size w w' := by
  have HH := hid h
  have HG := hid g
  have hl1 := h.1
  have hl2 := g.1
  obtain ⟨c, hc⟩ : ∃ c, decide (ats = ats') = c := ⟨_, rfl⟩
  rw [hc]
  have HC := hid hc
  clear h g hc
  by_cases hne : n1 = n2
  · subst hne
    have HL1 := hid hl1
    have HL2 := hid hl2
    have d0 : ((n1 : Int) != (n1 : Int)) = false := by simp
    clear hl1 hl2
    go_enter Tryd.func14, Tryd.ntmps14
    go_wp2
    go_loopg [5] n1 (fun g iv wr => ∃ k : Nat, k + g = n1 ∧ iv = .int .i64 k ∧ Hid (ats.take k = ats'.take k) ∧ Below w.heap.size w wr)
    case atStart => exact ⟨0, by omega, rfl, hid rfl, Below.refl _ _⟩
    case round =>
      obtain ⟨k, hk, rfl, hI, hb⟩ := hrel
      by_cases hlt : k < n1
      · have d1 : decide (k < n1) = true := decide_eq_true hlt
        have hltI : (k : Int) < (n1 : Int) := by omega
        obtain ⟨_, z0 | ⟨b1, o1, rfl, hat⟩⟩ := HH.out.below hb
        · omega
        obtain ⟨_, z0 | ⟨b2, o2, rfl, hau⟩⟩ := HG.out.below hb
        · omega
        obtain ⟨⟨x, y⟩, hx⟩ : ∃ x, ats[k]? = some x := ⟨_, List.getElem?_eq_getElem (by have := HL1.out; omega)⟩
        obtain ⟨⟨x', y'⟩, hy⟩ : ∃ y, ats'[k]? = some y := ⟨_, List.getElem?_eq_getElem (by have := HL2.out; omega)⟩
        obtain ⟨e0, e1⟩ := hat k _ hx
        obtain ⟨f0, f1⟩ := hau k _ hy
        simp only at e0 e1 f0 f1
        by_cases he : x = x'
        · by_cases hf : y = y'
          · have HN := hid (take_more hI.out hx (by rw [he, hf]; exact hy))
            rw [← he] at f0
            rw [← hf] at f1
            generalize bs x = X at *
            generalize bs y = Y at *
            clear he hf hx hy hat hau hI
            go_wp2
            go_region
            go_wp2
            go_roundg (n1 - (k + 1))
            case measure => omega
            case rel => exact ⟨k + 1, by omega, by go_num, HN, bel_drewN hb 1⟩
          · have HR := hid (show c = false by rw [← HC.out, decide_eq_false (get_ne hx hy fun e => hf (congrArg Prod.snd e))])
            have t0 : ¬ (bs y).toList = (bs y').toList := fun e => hf (bs_inj e)
            rw [← he] at f0
            generalize bs x = X at *
            generalize bs y = Y at *
            generalize bs y' = Y' at *
            clear he hf hx hy hat hau hI
            go_wp2
            go_region
            go_wp2
            go_ret
            exact ⟨ret_bool' HR.out.symm, bel_drewN hb 1⟩
        · have HR := hid (show c = false by rw [← HC.out, decide_eq_false (get_ne hx hy fun e => he (congrArg Prod.fst e))])
          have t0 : ¬ (bs x).toList = (bs x').toList := fun e => he (bs_inj e)
          generalize bs x = X at *
          generalize bs x' = X' at *
          generalize bs y = Y at *
          generalize bs y' = Y' at *
          clear he hx hy hat hau hI
          go_wp2
          go_region
          go_wp2
          go_ret
          exact ⟨ret_bool' HR.out.symm, bel_drewN hb 1⟩
      · have d1 : decide (k < n1) = false := decide_eq_false hlt
        have hltI : ¬ (k : Int) < (n1 : Int) := by omega
        have HR := hid (show c = true by
          rw [← HC.out, decide_eq_true (take_all hI.out HL1.out HL2.out hlt)])
        clear hI
        go_wp2
        go_ret
        exact ⟨ret_bool' HR.out.symm, hb⟩
  · have d0 : ((n1 : Int) != (n2 : Int)) = true := by simp; omega
    have HR := hid (show c = false by rw [← HC.out]; exact decide_eq_false fun e => hne (by rw [← hl1, ← hl2, e]))
    clear hl1 hl2
    go_enter Tryd.func14, Tryd.ntmps14
    go_wp2
    go_ret
    exact ⟨ret_bool' HR.out.symm, Below.refl _ _⟩
end Go.Proofs.YtgldgdopabmefaaDoor
namespace Go.Proofs.YtgldgdopabmefaaDoor
open Go.RowKit Go.Lib
set_option maxRecDepth 100000
set_option linter.unusedVariables false

/-- A block that is known whole. -/
def BlkW (W : World) (g : Nat) (cs : Array Value) (t : TypeId) : Prop := W.heap[g]? = some (.cells cs t (0, 0))
theorem BlkW.lt {W : World} {g : Nat} {cs : Array Value} {t : TypeId} (h : BlkW W g cs t) : g < W.heap.size := by
  rcases Nat.lt_or_ge g W.heap.size with h1 | h1
  · exact h1
  · unfold BlkW at h; rw [Array.getElem?_eq_none h1] at h; cases h
theorem BlkW.cell {W : World} {g : Nat} {cs : Array Value} {t : TypeId} (h : BlkW W g cs t) (i : Nat) : W.cell? ⟨g, i, none⟩ = cs[i]? := by
  unfold BlkW at h
  simp [World.cell?, h]
theorem BlkW.free {W : World} {g : Nat} {cs : Array Value} {t : TypeId} (h : BlkW W g cs t) (i : Nat) : W.frozen? ⟨g, i, none⟩ = false := by
  unfold BlkW at h
  simp [World.frozen?, h]
theorem BlkW.new (W : World) (cs : Array Value) (t : TypeId) : BlkW (W.alloc (.cells cs t)) W.heap.size cs t := heap_alloc_new W _
theorem BlkW.alloc {W : World} {g : Nat} {cs : Array Value} {t : TypeId} (h : BlkW W g cs t) (o : Obj) : BlkW (W.alloc o) g cs t := (heap_alloc_old W o h.lt).trans h
theorem BlkW.grow {W W' : World} {g : Nat} {cs : Array Value} {t : TypeId} {row : Option Nat} (h : BlkW W g cs t) (hg : W.grownBy W' row) (hne : some g ≠ row) : BlkW W' g cs t := (hg.block g h.lt hne).trans h
theorem BlkW.below {W W' : World} {g B : Nat} {cs : Array Value} {t : TypeId} (h : BlkW W g cs t) (hb : Below B W W') (hB : g < B) : BlkW W' g cs t := (hb.block g hB).trans h
theorem BlkW.set_ {W : World} {g : Nat} {cs : Array Value} {t : TypeId} (h : BlkW W g cs t) (i : Nat) (u : Value) : BlkW (W.setCell ⟨g, i, none⟩ u) g (cs.setIfInBounds i u) t := by
  unfold BlkW at h ⊢
  simp [World.setCell, Array.getElem?_modify, h]
theorem BlkW.far {W : World} {g : Nat} {cs : Array Value} {t : TypeId} (h : BlkW W g cs t) (p : Addr) (u : Value) (hp : p.block ≠ g) : BlkW (W.setCell p u) g cs t := by
  unfold BlkW at h ⊢
  simp [World.setCell, Array.getElem?_modify, hp, h]
theorem grow_below {W W' : World} (h : W.grownBy W' none) : Below W.heap.size W W' := (Below.refl _ _).grown h (Nat.le_refl _) (fun k hk => by cases hk)
theorem own_far {w : World} {base : Nat} {e : TypeId} {size : Nat} {v : Value} {n : Nat} {xs : List Value} (h : w.ownsRow base e size v n xs) (p : Addr) (u : Value) (hp : p.block < base) : (w.setCell p u).ownsRow base e size v n xs := by
  obtain ⟨hl, ⟨rfl, h0⟩ | ⟨g, cap, cur, rfl, hb, hg, hn, hc, hcs, ht⟩⟩ := h
  · exact ⟨hl, .inl ⟨rfl, h0⟩⟩
  · have hne : p.block ≠ g := by omega
    exact ⟨hl, .inr ⟨g, cap, cur, rfl, hb, by simp [World.setCell, Array.getElem?_modify, hne, hg], hn, hc, hcs, ht⟩⟩
theorem IsA.grown {w w' : World} {a : Option Addr} {n B : Nat} {ls : List (List UInt8 × List UInt8)} {row : Option Nat} (h : IsA w a n ls) (hg : w.grownBy w' row) (hr : ∀ g, row = some g → B ≤ g) (hB : ∀ x, a = some x → x.block < B) : IsA w' a n ls := by
  refine ⟨h.1, h.2.elim .inl fun ⟨b, off, e, hat⟩ => .inr ⟨b, off, e, fun i l hi => ?_⟩⟩
  obtain ⟨h1, h2⟩ := hat i l hi
  have hlt := World.block_lt_of_cell? _ _ h1
  have hne : some b ≠ row := fun e2 => by have := hr b e2.symm; have := hB _ e; simp at this; omega
  exact ⟨(World.cell?_of_block (hg.block b hlt hne)).trans h1, (World.cell?_of_block (hg.block b hlt hne)).trans h2⟩
theorem own_block {w : World} {base : Nat} {e : TypeId} {size : Nat} {x : Addr} {n c m : Nat} {xs : List Value} (h : w.ownsRow base e size (.slice (some x) n c) m xs) : base ≤ x.block ∧ x.block < w.heap.size := by
  obtain ⟨_, ⟨h0, _⟩ | ⟨g, cap, cur, h0, hb, hg, _⟩⟩ := h
  · cases h0
  · injection h0 with h1
    cases h1
    refine ⟨hb, ?_⟩
    rcases Nat.lt_or_ge g w.heap.size with h2 | h2
    · exact h2
    · rw [Array.getElem?_eq_none h2] at hg; cases hg
theorem tok_store {w W : World} {H B : Nat} {a0 a1 a2 a3 a4 : Value} {T : TypeId} (h : BlkW W H #[a0, a1, a2, a3, a4] T) (hb : Below B w W) (hB : B ≤ H) (b0 b1 b2 b3 b4 : Value) :
    ∃ W', (((((W.setCell ⟨H, 0, none⟩ b0).setCell ⟨H, 1, none⟩ b1).setCell ⟨H, 2, none⟩ b2).setCell ⟨H, 3, none⟩ b3).setCell ⟨H, 4, none⟩ b4) = W' ∧
      W'.cell? ⟨H, 0, none⟩ = some b0 ∧ W'.cell? ⟨H, 1, none⟩ = some b1 ∧ W'.cell? ⟨H, 2, none⟩ = some b2 ∧ W'.cell? ⟨H, 3, none⟩ = some b3 ∧ W'.cell? ⟨H, 4, none⟩ = some b4 ∧ Below B w W' ∧ (∀ k, k ≠ H → W'.heap[k]? = W.heap[k]?) := by
  have h5 := ((((h.set_ 0 b0).set_ 1 b1).set_ 2 b2).set_ 3 b3).set_ 4 b4
  refine ⟨_, rfl, h5.cell 0, h5.cell 1, h5.cell 2, h5.cell 3, h5.cell 4, ((((hb.setCell hB b0).setCell hB b1).setCell hB b2).setCell hB b3).setCell hB b4, fun k hk => ?_⟩
  rw [Below.heap_setCell _ _ _ _ hk, Below.heap_setCell _ _ _ _ hk, Below.heap_setCell _ _ _ _ hk, Below.heap_setCell _ _ _ _ hk, Below.heap_setCell _ _ _ _ hk]
end Go.Proofs.YtgldgdopabmefaaDoor
namespace Go.Proofs.YtgldgdopabmefaaDoor
open Go.RowKit Go.Lib
set_option maxRecDepth 100000
set_option linter.unusedVariables false

/-- A token as a value. -/
def tokV (k : Nat) (n : List UInt8) (a : Option Addr) (l c : Nat) (cl : Bool) (t : List UInt8) : Value := .agg #[.int .u8 k, .string (bs n), .slice a l c, .bool cl, .string (bs t)]
set_option maxHeartbeats 4000000 in
theorem sameTok_any (k : Nat) (n : List UInt8) (cl : Bool) (t : List UInt8) (ats : List (List UInt8 × List UInt8)) (a1 : Option Addr) (l1 c1 : Nat) (a2 : Option Addr) (l2 c2 : Nat) (w : World) (h : IsA w a1 l1 ats) (g : IsA w a2 l2 ats) (hs1 : l1 ≤ 4294967296) (hs2 : l2 ≤ 4294967296) :
    Calls Tryd.prog 9 #[tokV k n a1 l1 c1 cl t, tokV k n a2 l2 c2 cl t] w fun e w' => e = .returned (.bool true) ∧ Below w.heap.size w w' := by
  have S := hid (fun W (hW : Below w.heap.size w W) => sameAt_any a1 l1 c1 ats a2 l2 c2 ats W (h.below hW) (g.below hW) hs1 hs2)
  rw [decide_eq_true rfl] at S
  unfold tokV
  clear h g
  generalize bs n = N at *
  generalize bs t = T at *
  have b0 := hid (((Below.refl w.heap.size w).alloc (Nat.le_refl _) (.cells #[.int .u8 k, .string N, .slice a1 l1 c1, .bool cl, .string T] 25)).alloc (by simp) (.cells #[.int .u8 k, .string N, .slice a2 l2 c2, .bool cl, .string T] 25))
  go_enter Tryd.func9, Tryd.ntmps9
  go_wp2_with fail
  refine (S.out _ b0.out).mono ?_
  rintro e w1 ⟨rfl, b1⟩
  have b2 := hid (b0.out.trans (b1.mono b0.out.size))
  clear b1
  go_wp2
  go_ret
  exact ⟨rfl, b2.out⟩
end Go.Proofs.YtgldgdopabmefaaDoor
namespace Go.Proofs.YtgldgdopabmefaaDoor
open Go.RowKit Go.Lib
set_option maxRecDepth 100000
set_option linter.unusedVariables false

/-- A token is told, its attributes in memory, and a place. -/
def LexE (x : Lex.T × Nat) (n : Nat) (e : Ending) (w' : World) : Prop :=
  ∃ a k c, e = .returned (.tuple #[tokV x.1.kind x.1.name a k c x.1.self x.1.text, .int .i64 x.2]) ∧ IsA w' a k x.1.atts ∧ k ≤ n ∧ TypB w' a
theorem lexE_plain {w' : World} {e : Ending} {K m n : Nat} {t : List UInt8} (h : e = .returned (.tuple #[.agg #[.int .u8 K, .string ⟨#[]⟩, .slice none 0 0, .bool false, .string (bs t)], .int .i64 m])) : LexE (Lex.ofText K t, m) n e w' :=
  ⟨none, 0, 0, h, ⟨rfl, .inl rfl⟩, Nat.zero_le _, fun x hx => by cases hx⟩
theorem lexE_last {w' : World} {e : Ending} {m n : Nat} (h : e = .returned (.tuple #[.agg #[.int .u8 6, .string ⟨#[]⟩, .slice none 0 0, .bool false, .string ⟨#[]⟩], .int .i64 m])) : LexE (Lex.last, m) n e w' :=
  ⟨none, 0, 0, h, ⟨rfl, .inl rfl⟩, Nat.zero_le _, fun x hx => by cases hx⟩
theorem isA_kept' {w w' : World} {ad : Option Addr} {n : Nat} {ls : List Tag.At} (h : IsA w ad n ls) (hk : ∀ x, ad = some x → w'.heap[x.block]? = w.heap[x.block]?) : IsA w' ad n ls := by
  refine ⟨h.1, h.2.elim .inl fun ⟨b, off, e, hat⟩ => .inr ⟨b, off, e, fun i l hi => ?_⟩⟩
  obtain ⟨h1, h2⟩ := hat i l hi
  have hb := hk _ e
  exact ⟨(World.cell?_of_block (a := ⟨b, off + i * 2, none⟩) hb).trans h1, (World.cell?_of_block (a := ⟨b, off + i * 2 + 1, none⟩) hb).trans h2⟩
/-- A list of pairs does not lie in a block of a token. -/
theorem isA_tok {w : World} {ad : Option Addr} {n H : Nat} {ls : List Tag.At} {k : Int} {x : ByteArray} {v : Value} {b : Bool} {y : ByteArray} {T : TypeId} (h : IsA w ad n ls) (hB : BlkW w H #[.int .u8 k, .string x, v, .bool b, .string y] T) (hv : ∀ z, v ≠ .string z) : n = 0 ∨ ∀ p, ad = some p → p.block ≠ H := by
  rcases h.2 with h0 | ⟨b', off, e, hat⟩
  · exact .inl h0
  by_cases hn : n = 0
  · exact .inl hn
  refine .inr fun p hp => ?_
  obtain rfl := Option.some.inj (e.symm.trans hp)
  show b' ≠ H
  intro hb
  subst hb
  obtain ⟨z, hz⟩ : ∃ z, ls[0]? = some z := ⟨_, List.getElem?_eq_getElem (by have := h.1; omega)⟩
  obtain ⟨c0, c1⟩ := hat 0 z hz
  rw [Nat.zero_mul, Nat.add_zero, hB.cell] at c0 c1
  match off, c0, c1 with
  | 0, c0, _ => simp at c0
  | 1, _, c1 => simp at c1; exact hv _ c1
  | 2, c0, _ => simp at c0; exact hv _ c0
  | 3, c0, _ => simp at c0
  | 4, _, c1 => simp at c1
  | off + 5, c0, _ => simp at c0
theorem isA_stay {w w' : World} {ad : Option Addr} {n H : Nat} {ls : List Tag.At} (h : IsA w ad n ls) (hne : n = 0 ∨ ∀ p, ad = some p → p.block ≠ H) (hk : ∀ k, k ≠ H → w'.heap[k]? = w.heap[k]?) : IsA w' ad n ls := by
  rcases hne with h0 | hne
  · exact ⟨h.1, .inl h0⟩
  · exact isA_kept' h fun x hx => hk x.block (hne x hx)
theorem tok_ne_attr : (25 : TypeId) ≠ 50 := by decide
theorem typ_stay {w w' : World} {ad : Option Addr} {H : Nat} {cs : Array Value} (h : TypB w ad) (hB : BlkW w H cs 25) (hk : ∀ k, k ≠ H → w'.heap[k]? = w.heap[k]?) : TypB w' ad :=
  h.heap fun x hx => hk x.block (h.ne hB tok_ne_attr x hx)
/-- The token at a place, whatever number that is. -/
def nextI (l small : List UInt8) (m : Nat) (cd : Bool) (i : Int) : Lex.T × Nat := if i < 0 then (Lex.last, l.length) else Lex.next l small m cd i.toNat
end Go.Proofs.YtgldgdopabmefaaDoor
