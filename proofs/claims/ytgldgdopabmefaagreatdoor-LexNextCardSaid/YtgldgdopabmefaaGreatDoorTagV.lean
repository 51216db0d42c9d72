/- Plain Lean: what package lex says, over lists of bytes: where markup begins next, the token at a place. Nothing of a program stands here. Walks: what the statements of several layers share: are two lists of attributes alike. Laws: a block of memory that is known whole; an own row kept by a store elsewhere. Walks: what the statements of several layers share: two tokens that are alike are found to be so. What Next of layer 9 tells: a token as a value with a list in memory. What package tag tells, in plain words, and how its lists lie in memory: nothing of a program's calls stands here. -/
import Derived.Test.YtgldgdopabmefaaGreatDoorTagPl
import Derived.Test.YtgldgdopabmefaaGreatDoorNotePl
import Derived.Test.YtgldgdopabmefaaGreatDoorRefRaw
import Derived.Test.YtgldgdopabmefaaGreatDoorRawTag
import Derived.Deep.LoopGhost
import Derived.IntWalk
namespace Go.Proofs.YtgldgdopabmefaaGreatDoor.Lex
open Go.Lib
set_option maxRecDepth 100000
set_option linter.unusedVariables false

/-- A token, all fields. -/
structure T where
  kind : Nat
  name : List UInt8
  atts : List Tag.At
  self : Bool
  text : List UInt8
def last : T := ⟨6, [], [], false, []⟩
def ofText (k : Nat) (t : List UInt8) : T := ⟨k, [], [], false, t⟩
def ofTag (t : Tag.Tok) : T := ⟨t.kind, t.name, t.atts, t.self, []⟩
/-! ### Where markup begins -/
def markB (l : List UInt8) (k : Nat) : Bool := Tag.begB l k || Note.begB (l.drop k)
def upF (l : List UInt8) : Nat → Nat → Nat
  | 0, k => k
  | n + 1, k => if markB l k = true then k else upF l n (k + 1)
def upM (l : List UInt8) (k : Nat) : Nat := upF l (l.length - k) k
theorem upM_end {l : List UInt8} {k : Nat} (h : l.length ≤ k) : upM l k = k := by
  unfold upM
  rw [show l.length - k = 0 by omega]
  rfl
theorem upM_yes {l : List UInt8} {k : Nat} (h : markB l k = true) : upM l k = k := by
  unfold upM
  cases l.length - k with
  | zero => rfl
  | succ n => unfold upF; rw [if_pos h]
theorem upM_no {l : List UInt8} {k : Nat} (h : markB l k = false) (hk : k < l.length) : upM l k = upM l (k + 1) := by
  unfold upM
  rw [show l.length - k = (l.length - (k + 1)) + 1 by omega]
  show (if markB l k = true then k else upF l (l.length - (k + 1)) (k + 1)) = _
  rw [if_neg (by rw [h]; decide)]
theorem upF_ge (l : List UInt8) : ∀ n k, k ≤ upF l n k ∧ upF l n k ≤ k + n
  | 0, k => ⟨Nat.le_refl _, Nat.le_refl _⟩
  | n + 1, k => by
    unfold upF
    split
    · exact ⟨Nat.le_refl _, by omega⟩
    · have := upF_ge l n (k + 1)
      exact ⟨by omega, by omega⟩
theorem upM_ge (l : List UInt8) (k : Nat) (h : k ≤ l.length) : k ≤ upM l k ∧ upM l k ≤ l.length := by
  have := upF_ge l (l.length - k) k
  unfold upM
  exact ⟨this.1, by omega⟩
/-! ### The token at a place -/
def rawM (mode : Nat) : Bool := decide (1 ≤ mode) && decide (mode ≤ 4)
def rawT (l small : List UInt8) (mode i : Nat) : List UInt8 := Raw.textOf mode ((l.drop i).take (Raw.far small mode (l.drop i)))
def rawE (l small : List UInt8) (mode i : Nat) : Nat := i + Raw.far small mode (l.drop i)
theorem rawE_le {l small : List UInt8} {mode i : Nat} (h : i ≤ l.length) : i ≤ rawE l small mode i ∧ rawE l small mode i ≤ l.length := by
  have := (Raw.far_form small mode (l.drop i)).1
  rw [List.length_drop] at this
  unfold rawE
  exact ⟨by omega, by omega⟩
/-- What begins at j, where it ends, and whether there is more to look for there. -/
def mark (l : List UInt8) (cd : Bool) (j : Nat) : T × Nat × Bool :=
  if Tag.begB l j = true then (match Tag.readP l j with
    | none => (last, l.length, false)
    | some (t, m) => (ofTag t, m, false))
  else if Note.begB (l.drop j) = true then (ofText (Note.first (l.drop j) cd).1 (Note.first (l.drop j) cd).2.1, j + (Note.first (l.drop j) cd).2.2, decide ((Note.first (l.drop j) cd).1 = 0))
  else (ofText 1 (Ent.decode false ((l.drop j).take (upM l (j + 1) - j))), upM l (j + 1), false)
theorem mark_more {l : List UInt8} {cd : Bool} {j : Nat} (h : (mark l cd j).2.2 = true) : j + 2 ≤ (mark l cd j).2.1 ∧ (mark l cd j).2.1 ≤ l.length := by
  unfold mark at h ⊢
  by_cases h1 : Tag.begB l j = true
  · rw [if_pos h1] at h
    cases hr : Tag.readP l j with
    | none => rw [hr] at h; cases h
    | some x => rw [hr] at h; cases h
  rw [if_neg h1] at h ⊢
  by_cases h2 : Note.begB (l.drop j) = true
  · rw [if_pos h2]
    obtain ⟨f1, f2, _, _⟩ := Note.first_form cd h2
    have f3 := Note.beg_two h2
    rw [List.length_drop] at f1 f3
    exact ⟨by show j + 2 ≤ j + _; omega, by show j + _ ≤ _; omega⟩
  · rw [if_neg h2] at h
    cases h
/-- Where it goes on behind a mode's text. -/
def from_ (l small : List UInt8) (mode i : Nat) : Nat := if rawM mode = true then rawE l small mode i else i
theorem from_le {l small : List UInt8} {mode i : Nat} (h : i ≤ l.length) : i ≤ from_ l small mode i ∧ from_ l small mode i ≤ l.length := by
  unfold from_
  split
  · exact rawE_le h
  · exact ⟨Nat.le_refl _, h⟩
def nextF (l small : List UInt8) (mode : Nat) (cd : Bool) : Nat → Nat → T × Nat
  | 0, _ => (last, l.length)
  | f + 1, i =>
    if l.length ≤ i then (last, l.length)
    else if rawM mode = true ∧ rawT l small mode i ≠ [] then (ofText 1 (rawT l small mode i), rawE l small mode i)
    else if l.length ≤ from_ l small mode i then (last, from_ l small mode i)
    else if (mark l cd (from_ l small mode i)).2.2 = true then nextF l small mode cd f (mark l cd (from_ l small mode i)).2.1
    else ((mark l cd (from_ l small mode i)).1, (mark l cd (from_ l small mode i)).2.1)
theorem nextF_fuel {l small : List UInt8} {mode : Nat} {cd : Bool} : ∀ (f g i : Nat), l.length < f + i → l.length < g + i → nextF l small mode cd f i = nextF l small mode cd g i
  | 0, 0, i, _, _ => rfl
  | 0, g + 1, i, h, _ => by
    unfold nextF
    rw [if_pos (by omega)]
  | f + 1, 0, i, _, h => by
    unfold nextF
    rw [if_pos (by omega)]
  | f + 1, g + 1, i, hf, hg => by
    unfold nextF
    by_cases h0 : l.length ≤ i
    · rw [if_pos h0, if_pos h0]
    rw [if_neg h0, if_neg h0]
    have hj := from_le (small := small) (mode := mode) (show i ≤ l.length by omega)
    by_cases hm : (mark l cd (from_ l small mode i)).2.2 = true
    · have h2 := mark_more hm
      rw [if_pos hm, if_pos hm, nextF_fuel f g _ (by omega) (by omega)]
    · rw [if_neg hm, if_neg hm]
def next (l small : List UInt8) (mode : Nat) (cd : Bool) (i : Nat) : T × Nat := nextF l small mode cd (l.length + 1) i
theorem next_eq (l small : List UInt8) (mode : Nat) (cd : Bool) (i : Nat) : next l small mode cd i =
    if l.length ≤ i then (last, l.length)
    else if rawM mode = true ∧ rawT l small mode i ≠ [] then (ofText 1 (rawT l small mode i), rawE l small mode i)
    else if l.length ≤ from_ l small mode i then (last, from_ l small mode i)
    else if (mark l cd (from_ l small mode i)).2.2 = true then next l small mode cd (mark l cd (from_ l small mode i)).2.1
    else ((mark l cd (from_ l small mode i)).1, (mark l cd (from_ l small mode i)).2.1) := by
  show nextF l small mode cd (l.length + 1) i = _
  unfold nextF
  by_cases h0 : l.length ≤ i
  · rw [if_pos h0, if_pos h0]
  rw [if_neg h0, if_neg h0]
  have hj := from_le (small := small) (mode := mode) (show i ≤ l.length by omega)
  by_cases hm : (mark l cd (from_ l small mode i)).2.2 = true
  · have h2 := mark_more hm
    rw [if_pos hm, if_pos hm]
    unfold next
    rw [nextF_fuel l.length (l.length + 1) _ (by omega) (by omega)]
  · rw [if_neg hm, if_neg hm]
theorem next_end {l small : List UInt8} {mode : Nat} {cd : Bool} {i : Nat} (h : l.length ≤ i) : next l small mode cd i = (last, l.length) := by rw [next_eq, if_pos h]
theorem next_raw {l small : List UInt8} {mode : Nat} {cd : Bool} {i : Nat} (h : ¬ l.length ≤ i) (hm : rawM mode = true) (ht : rawT l small mode i ≠ []) : next l small mode cd i = (ofText 1 (rawT l small mode i), rawE l small mode i) := by rw [next_eq, if_neg h, if_pos ⟨hm, ht⟩]
theorem next_over {l small : List UInt8} {mode : Nat} {cd : Bool} {i : Nat} (h : ¬ l.length ≤ i) (hm : rawM mode = true) (ht : rawT l small mode i = []) (hj : l.length ≤ rawE l small mode i) : next l small mode cd i = (last, rawE l small mode i) := by
  have hf : from_ l small mode i = rawE l small mode i := by unfold from_; rw [if_pos hm]
  rw [next_eq, if_neg h, if_neg (fun x => x.2 ht), hf, if_pos hj]
/-- Where a mode's text, if any, is over, and the end is not there: j is that place. -/
def Here (l small : List UInt8) (mode i j : Nat) : Prop := ¬ l.length ≤ i ∧ (rawM mode = true → rawT l small mode i = []) ∧ from_ l small mode i = j ∧ j < l.length
theorem next_go {l small : List UInt8} {mode : Nat} {cd : Bool} {i j : Nat} (h : Here l small mode i j) (hm : (mark l cd j).2.2 = true) : next l small mode cd i = next l small mode cd (mark l cd j).2.1 := by
  obtain ⟨h1, h2, h3, h4⟩ := h
  rw [next_eq, if_neg h1, if_neg (fun x => x.2 (h2 x.1)), h3, if_neg (by omega), if_pos hm]
theorem next_stay {l small : List UInt8} {mode : Nat} {cd : Bool} {i j : Nat} (h : Here l small mode i j) (hm : (mark l cd j).2.2 = false) : next l small mode cd i = ((mark l cd j).1, (mark l cd j).2.1) := by
  obtain ⟨h1, h2, h3, h4⟩ := h
  rw [next_eq, if_neg h1, if_neg (fun x => x.2 (h2 x.1)), h3, if_neg (by omega), if_neg (by rw [hm]; decide)]
theorem mark_none {l : List UInt8} {cd : Bool} {j : Nat} (h1 : Tag.begB l j = true) (h : Tag.readP l j = none) : mark l cd j = (last, l.length, false) := by
  unfold mark
  rw [if_pos h1, h]
theorem mark_tag {l : List UInt8} {cd : Bool} {j m : Nat} {t : Tag.Tok} (h1 : Tag.begB l j = true) (h : Tag.readP l j = some (t, m)) : mark l cd j = (ofTag t, m, false) := by
  unfold mark
  rw [if_pos h1, h]
theorem mark_note {l : List UInt8} {cd : Bool} {j k n : Nat} {t : List UInt8} (h1 : Tag.begB l j = false) (h2 : Note.begB (l.drop j) = true) (h : Note.first (l.drop j) cd = (k, t, n)) : mark l cd j = (ofText k t, j + n, decide (k = 0)) := by
  unfold mark
  rw [if_neg (by rw [h1]; decide), if_pos h2, h]
theorem mark_text {l : List UInt8} {cd : Bool} {j e : Nat} (h1 : Tag.begB l j = false) (h2 : Note.begB (l.drop j) = false) (h : upM l (j + 1) = e) : mark l cd j = (ofText 1 (Ent.decode false ((l.drop j).take (e - j))), e, false) := by
  unfold mark
  rw [if_neg (by rw [h1]; decide), if_neg (by rw [h2]; decide), h]
theorem decode_empty {attr : Bool} {l : List UInt8} (h : Ent.decode attr l = []) : l = [] := by
  cases l with
  | nil => rfl
  | cons c r =>
    by_cases hc : c = 38
    · subst hc
      rw [Ent.decode_amp] at h
      exact absurd (List.append_eq_nil_iff.1 h).1 (Ent.refer_le attr r).2.2
    · rw [Ent.decode_other attr c r hc] at h
      cases h
/-- A mode's text is empty only where nothing stands. -/
theorem rawT_nil {l small : List UInt8} {mode i : Nat} (h : rawT l small mode i = []) : rawE l small mode i = i := by
  have hf := (Raw.far_form small mode (l.drop i)).1
  have ht : (l.drop i).take (Raw.far small mode (l.drop i)) = [] := by
    unfold rawT Raw.textOf at h
    by_cases h1 : mode = 1
    · rw [if_pos h1] at h
      exact decode_empty h
    · rwa [if_neg h1] at h
  have hl := congrArg List.length ht
  rw [List.length_take, List.length_nil] at hl
  unfold rawE
  omega
theorem readP_kind {l : List UInt8} {j m : Nat} {t : Tag.Tok} (h : Tag.readP l j = some (t, m)) : t.kind ≠ 0 := by
  unfold Tag.readP at h
  cases hr : Tag.runs l (Tag.nameEnd l j) [] with
  | none => rw [hr] at h; cases h
  | some x =>
    obtain ⟨ats, a, s⟩ := x
    rw [hr] at h
    injection h with h
    injection h with h _
    rw [← h]
    show (if Tag.isEnd l j = true then 3 else 2) ≠ 0
    split <;> decide
/-- Kind 0 says that there is more to look for. -/
theorem mark_zero (l : List UInt8) (cd : Bool) (j : Nat) : (mark l cd j).2.2 = decide ((mark l cd j).1.kind = 0) := by
  unfold mark
  by_cases h1 : Tag.begB l j = true
  · rw [if_pos h1]
    cases hr : Tag.readP l j with
    | none => rfl
    | some x =>
      obtain ⟨t, m⟩ := x
      show false = decide (t.kind = 0)
      rw [decide_eq_false (readP_kind hr)]
  rw [if_neg h1]
  by_cases h2 : Note.begB (l.drop j) = true
  · rw [if_pos h2]
    rfl
  · rw [if_neg h2]
    rfl
theorem here_raw {l small : List UInt8} {mode k : Nat} (hk : k < l.length) (ht : rawM mode = true → rawT l small mode k = []) : Here l small mode k k := by
  refine ⟨by omega, ht, ?_, hk⟩
  unfold from_
  by_cases hm : rawM mode = true
  · rw [if_pos hm, rawT_nil (ht hm)]
  · rw [if_neg hm]
end Go.Proofs.YtgldgdopabmefaaGreatDoor.Lex
namespace Go.Proofs.YtgldgdopabmefaaGreatDoor
open Go.RowKit Go.Lib
set_option maxRecDepth 100000
set_option linter.unusedVariables false

set_option maxHeartbeats 2000000 in
theorem sameAt_any (a1 : Option Addr) (n1 c1 : Nat) (ats : List (List UInt8 × List UInt8)) (a2 : Option Addr) (n2 c2 : Nat) (ats' : List (List UInt8 × List UInt8)) (w : World) (h : IsA w a1 n1 ats) (g : IsA w a2 n2 ats') (hs1 : n1 ≤ 4294967296) (hs2 : n2 ≤ 4294967296) :
    Calls Tryz.prog 22 #[.slice a1 n1 c1, .slice a2 n2 c2] w fun e w' => e = .returned (.bool (decide (ats = ats'))) ∧ Below w.heap.size w w' := by
  have HH := hid h
  have HG := hid g
  have hl1 := h.1
  have hl2 := g.1
  obtain ⟨c, hc⟩ : ∃ c, decide (ats = ats') = c := ⟨_, rfl⟩
  rw [hc]
  have HC := hid hc
  clear h g hc
  by_cases hne : n1 = n2
  · subst hne
    have HL1 := hid hl1
    have HL2 := hid hl2
    have d0 : ((n1 : Int) != (n1 : Int)) = false := by simp
    clear hl1 hl2
    go_enter Tryz.func22, Tryz.ntmps22
    go_wp2
    go_loopg [5] n1 (fun g iv wr => ∃ k : Nat, k + g = n1 ∧ iv = .int .i64 k ∧ Hid (ats.take k = ats'.take k) ∧ Below w.heap.size w wr)
    case atStart => exact ⟨0, by omega, rfl, hid rfl, Below.refl _ _⟩
    case round =>
      obtain ⟨k, hk, rfl, hI, hb⟩ := hrel
      by_cases hlt : k < n1
      · have d1 : decide (k < n1) = true := decide_eq_true hlt
        have hltI : (k : Int) < (n1 : Int) := by omega
        obtain ⟨_, z0 | ⟨b1, o1, rfl, hat⟩⟩ := HH.out.below hb
        · omega
        obtain ⟨_, z0 | ⟨b2, o2, rfl, hau⟩⟩ := HG.out.below hb
        · omega
        obtain ⟨⟨x, y⟩, hx⟩ : ∃ x, ats[k]? = some x := ⟨_, List.getElem?_eq_getElem (by have := HL1.out; omega)⟩
        obtain ⟨⟨x', y'⟩, hy⟩ : ∃ y, ats'[k]? = some y := ⟨_, List.getElem?_eq_getElem (by have := HL2.out; omega)⟩
        obtain ⟨e0, e1⟩ := hat k _ hx
        obtain ⟨f0, f1⟩ := hau k _ hy
        simp only at e0 e1 f0 f1
        by_cases he : x = x'
        · by_cases hf : y = y'
          · have HN := hid (take_more hI.out hx (by rw [he, hf]; exact hy))
            rw [← he] at f0
            rw [← hf] at f1
            generalize bs x = X at *
            generalize bs y = Y at *
            clear he hf hx hy hat hau hI
            go_wp2
            go_region
            go_wp2
            go_roundg (n1 - (k + 1))
            case measure => omega
            case rel => exact ⟨k + 1, by omega, by go_num, HN, bel_drewN hb 1⟩
          · have HR := hid (show c = false by rw [← HC.out, decide_eq_false (get_ne hx hy fun e => hf (congrArg Prod.snd e))])
            have t0 : ¬ (bs y).toList = (bs y').toList := fun e => hf (bs_inj e)
            rw [← he] at f0
            generalize bs x = X at *
            generalize bs y = Y at *
            generalize bs y' = Y' at *
            clear he hf hx hy hat hau hI
            go_wp2
            go_region
            go_wp2
            go_ret
            exact ⟨ret_bool' HR.out.symm, bel_drewN hb 1⟩
        · have HR := hid (show c = false by rw [← HC.out, decide_eq_false (get_ne hx hy fun e => he (congrArg Prod.fst e))])
          have t0 : ¬ (bs x).toList = (bs x').toList := fun e => he (bs_inj e)
          generalize bs x = X at *
          generalize bs x' = X' at *
          generalize bs y = Y at *
          generalize bs y' = Y' at *
          clear he hx hy hat hau hI
          go_wp2
          go_region
          go_wp2
          go_ret
          exact ⟨ret_bool' HR.out.symm, bel_drewN hb 1⟩
      · have d1 : decide (k < n1) = false := decide_eq_false hlt
        have hltI : ¬ (k : Int) < (n1 : Int) := by omega
        have HR := hid (show c = true by
          rw [← HC.out, decide_eq_true (take_all hI.out HL1.out HL2.out hlt)])
        clear hI
        go_wp2
        go_ret
        exact ⟨ret_bool' HR.out.symm, hb⟩
  · have d0 : ((n1 : Int) != (n2 : Int)) = true := by simp; omega
    have HR := hid (show c = false by rw [← HC.out]; exact decide_eq_false fun e => hne (by rw [← hl1, ← hl2, e]))
    clear hl1 hl2
    go_enter Tryz.func22, Tryz.ntmps22
    go_wp2
    go_ret
    exact ⟨ret_bool' HR.out.symm, Below.refl _ _⟩
end Go.Proofs.YtgldgdopabmefaaGreatDoor
namespace Go.Proofs.YtgldgdopabmefaaGreatDoor
open Go.RowKit Go.Lib
set_option maxRecDepth 100000
set_option linter.unusedVariables false

/-- A block that is known whole. -/
def BlkW (W : World) (g : Nat) (cs : Array Value) (t : TypeId) : Prop := W.heap[g]? = some (.cells cs t (0, 0))
theorem BlkW.lt {W : World} {g : Nat} {cs : Array Value} {t : TypeId} (h : BlkW W g cs t) : g < W.heap.size := by
  rcases Nat.lt_or_ge g W.heap.size with h1 | h1
  · exact h1
  · unfold BlkW at h; rw [Array.getElem?_eq_none h1] at h; cases h
theorem BlkW.cell {W : World} {g : Nat} {cs : Array Value} {t : TypeId} (h : BlkW W g cs t) (i : Nat) : W.cell? ⟨g, i, none⟩ = cs[i]? := by
  unfold BlkW at h
  simp [World.cell?, h]
theorem BlkW.free {W : World} {g : Nat} {cs : Array Value} {t : TypeId} (h : BlkW W g cs t) (i : Nat) : W.frozen? ⟨g, i, none⟩ = false := by
  unfold BlkW at h
  simp [World.frozen?, h]
theorem BlkW.new (W : World) (cs : Array Value) (t : TypeId) : BlkW (W.alloc (.cells cs t)) W.heap.size cs t := heap_alloc_new W _
theorem BlkW.alloc {W : World} {g : Nat} {cs : Array Value} {t : TypeId} (h : BlkW W g cs t) (o : Obj) : BlkW (W.alloc o) g cs t := (heap_alloc_old W o h.lt).trans h
theorem BlkW.grow {W W' : World} {g : Nat} {cs : Array Value} {t : TypeId} {row : Option Nat} (h : BlkW W g cs t) (hg : W.grownBy W' row) (hne : some g ≠ row) : BlkW W' g cs t := (hg.block g h.lt hne).trans h
theorem BlkW.below {W W' : World} {g B : Nat} {cs : Array Value} {t : TypeId} (h : BlkW W g cs t) (hb : Below B W W') (hB : g < B) : BlkW W' g cs t := (hb.block g hB).trans h
theorem BlkW.set_ {W : World} {g : Nat} {cs : Array Value} {t : TypeId} (h : BlkW W g cs t) (i : Nat) (u : Value) : BlkW (W.setCell ⟨g, i, none⟩ u) g (cs.setIfInBounds i u) t := by
  unfold BlkW at h ⊢
  simp [World.setCell, Array.getElem?_modify, h]
theorem BlkW.far {W : World} {g : Nat} {cs : Array Value} {t : TypeId} (h : BlkW W g cs t) (p : Addr) (u : Value) (hp : p.block ≠ g) : BlkW (W.setCell p u) g cs t := by
  unfold BlkW at h ⊢
  simp [World.setCell, Array.getElem?_modify, hp, h]
theorem grow_below {W W' : World} (h : W.grownBy W' none) : Below W.heap.size W W' := (Below.refl _ _).grown h (Nat.le_refl _) (fun k hk => by cases hk)
theorem own_far {w : World} {base : Nat} {e : TypeId} {size : Nat} {v : Value} {n : Nat} {xs : List Value} (h : w.ownsRow base e size v n xs) (p : Addr) (u : Value) (hp : p.block < base) : (w.setCell p u).ownsRow base e size v n xs := by
  obtain ⟨hl, ⟨rfl, h0⟩ | ⟨g, cap, cur, rfl, hb, hg, hn, hc, hcs, ht⟩⟩ := h
  · exact ⟨hl, .inl ⟨rfl, h0⟩⟩
  · have hne : p.block ≠ g := by omega
    exact ⟨hl, .inr ⟨g, cap, cur, rfl, hb, by simp [World.setCell, Array.getElem?_modify, hne, hg], hn, hc, hcs, ht⟩⟩
theorem IsA.grown {w w' : World} {a : Option Addr} {n B : Nat} {ls : List (List UInt8 × List UInt8)} {row : Option Nat} (h : IsA w a n ls) (hg : w.grownBy w' row) (hr : ∀ g, row = some g → B ≤ g) (hB : ∀ x, a = some x → x.block < B) : IsA w' a n ls := by
  refine ⟨h.1, h.2.elim .inl fun ⟨b, off, e, hat⟩ => .inr ⟨b, off, e, fun i l hi => ?_⟩⟩
  obtain ⟨h1, h2⟩ := hat i l hi
  have hlt := World.block_lt_of_cell? _ _ h1
  have hne : some b ≠ row := fun e2 => by have := hr b e2.symm; have := hB _ e; simp at this; omega
  exact ⟨(World.cell?_of_block (hg.block b hlt hne)).trans h1, (World.cell?_of_block (hg.block b hlt hne)).trans h2⟩
theorem own_block {w : World} {base : Nat} {e : TypeId} {size : Nat} {x : Addr} {n c m : Nat} {xs : List Value} (h : w.ownsRow base e size (.slice (some x) n c) m xs) : base ≤ x.block ∧ x.block < w.heap.size := by
  obtain ⟨_, ⟨h0, _⟩ | ⟨g, cap, cur, h0, hb, hg, _⟩⟩ := h
  · cases h0
  · injection h0 with h1
    cases h1
    refine ⟨hb, ?_⟩
    rcases Nat.lt_or_ge g w.heap.size with h2 | h2
    · exact h2
    · rw [Array.getElem?_eq_none h2] at hg; cases hg
theorem tok_store {w W : World} {H B : Nat} {a0 a1 a2 a3 a4 : Value} {T : TypeId} (h : BlkW W H #[a0, a1, a2, a3, a4] T) (hb : Below B w W) (hB : B ≤ H) (b0 b1 b2 b3 b4 : Value) :
    ∃ W', (((((W.setCell ⟨H, 0, none⟩ b0).setCell ⟨H, 1, none⟩ b1).setCell ⟨H, 2, none⟩ b2).setCell ⟨H, 3, none⟩ b3).setCell ⟨H, 4, none⟩ b4) = W' ∧
      W'.cell? ⟨H, 0, none⟩ = some b0 ∧ W'.cell? ⟨H, 1, none⟩ = some b1 ∧ W'.cell? ⟨H, 2, none⟩ = some b2 ∧ W'.cell? ⟨H, 3, none⟩ = some b3 ∧ W'.cell? ⟨H, 4, none⟩ = some b4 ∧ Below B w W' ∧ (∀ k, k ≠ H → W'.heap[k]? = W.heap[k]?) := by
  have h5 := ((((h.set_ 0 b0).set_ 1 b1).set_ 2 b2).set_ 3 b3).set_ 4 b4
  refine ⟨_, rfl, h5.cell 0, h5.cell 1, h5.cell 2, h5.cell 3, h5.cell 4, ((((hb.setCell hB b0).setCell hB b1).setCell hB b2).setCell hB b3).setCell hB b4, fun k hk => ?_⟩
  rw [Below.heap_setCell _ _ _ _ hk, Below.heap_setCell _ _ _ _ hk, Below.heap_setCell _ _ _ _ hk, Below.heap_setCell _ _ _ _ hk, Below.heap_setCell _ _ _ _ hk]
end Go.Proofs.YtgldgdopabmefaaGreatDoor
namespace Go.Proofs.YtgldgdopabmefaaGreatDoor
open Go.RowKit Go.Lib
set_option maxRecDepth 100000
set_option linter.unusedVariables false

/-- A token as a value. -/
def tokV (k : Nat) (n : List UInt8) (a : Option Addr) (l c : Nat) (cl : Bool) (t : List UInt8) : Value := .agg #[.int .u8 k, .string (bs n), .slice a l c, .bool cl, .string (bs t)]
set_option maxHeartbeats 4000000 in
theorem sameTok_any (k : Nat) (n : List UInt8) (cl : Bool) (t : List UInt8) (ats : List (List UInt8 × List UInt8)) (a1 : Option Addr) (l1 c1 : Nat) (a2 : Option Addr) (l2 c2 : Nat) (w : World) (h : IsA w a1 l1 ats) (g : IsA w a2 l2 ats) (hs1 : l1 ≤ 4294967296) (hs2 : l2 ≤ 4294967296) :
    Calls Tryz.prog 8 #[tokV k n a1 l1 c1 cl t, tokV k n a2 l2 c2 cl t] w fun e w' => e = .returned (.bool true) ∧ Below w.heap.size w w' := by
  have S := hid (fun W (hW : Below w.heap.size w W) => sameAt_any a1 l1 c1 ats a2 l2 c2 ats W (h.below hW) (g.below hW) hs1 hs2)
  rw [decide_eq_true rfl] at S
  unfold tokV
  clear h g
  generalize bs n = N at *
  generalize bs t = T at *
  have b0 := hid (((Below.refl w.heap.size w).alloc (Nat.le_refl _) (.cells #[.int .u8 k, .string N, .slice a1 l1 c1, .bool cl, .string T] 24)).alloc (by simp) (.cells #[.int .u8 k, .string N, .slice a2 l2 c2, .bool cl, .string T] 24))
  go_enter Tryz.func8, Tryz.ntmps8
  go_wp2_with fail
  refine (S.out _ b0.out).mono ?_
  rintro e w1 ⟨rfl, b1⟩
  have b2 := hid (b0.out.trans (b1.mono b0.out.size))
  clear b1
  go_wp2
  go_ret
  exact ⟨rfl, b2.out⟩
end Go.Proofs.YtgldgdopabmefaaGreatDoor
namespace Go.Proofs.YtgldgdopabmefaaGreatDoor
open Go.RowKit Go.Lib
set_option maxRecDepth 100000
set_option linter.unusedVariables false

/-- A token is told, its attributes in memory, and a place. -/
def LexE (x : Lex.T × Nat) (n : Nat) (e : Ending) (w' : World) : Prop :=
  ∃ a k c, e = .returned (.tuple #[tokV x.1.kind x.1.name a k c x.1.self x.1.text, .int .i64 x.2]) ∧ IsA w' a k x.1.atts ∧ k ≤ n ∧ TypB w' a
theorem lexE_plain {w' : World} {e : Ending} {K m n : Nat} {t : List UInt8} (h : e = .returned (.tuple #[.agg #[.int .u8 K, .string ⟨#[]⟩, .slice none 0 0, .bool false, .string (bs t)], .int .i64 m])) : LexE (Lex.ofText K t, m) n e w' :=
  ⟨none, 0, 0, h, ⟨rfl, .inl rfl⟩, Nat.zero_le _, fun x hx => by cases hx⟩
theorem lexE_last {w' : World} {e : Ending} {m n : Nat} (h : e = .returned (.tuple #[.agg #[.int .u8 6, .string ⟨#[]⟩, .slice none 0 0, .bool false, .string ⟨#[]⟩], .int .i64 m])) : LexE (Lex.last, m) n e w' :=
  ⟨none, 0, 0, h, ⟨rfl, .inl rfl⟩, Nat.zero_le _, fun x hx => by cases hx⟩
theorem isA_kept' {w w' : World} {ad : Option Addr} {n : Nat} {ls : List Tag.At} (h : IsA w ad n ls) (hk : ∀ x, ad = some x → w'.heap[x.block]? = w.heap[x.block]?) : IsA w' ad n ls := by
  refine ⟨h.1, h.2.elim .inl fun ⟨b, off, e, hat⟩ => .inr ⟨b, off, e, fun i l hi => ?_⟩⟩
  obtain ⟨h1, h2⟩ := hat i l hi
  have hb := hk _ e
  exact ⟨(World.cell?_of_block (a := ⟨b, off + i * 2, none⟩) hb).trans h1, (World.cell?_of_block (a := ⟨b, off + i * 2 + 1, none⟩) hb).trans h2⟩
/-- A list of pairs does not lie in a block of a token. -/
theorem isA_tok {w : World} {ad : Option Addr} {n H : Nat} {ls : List Tag.At} {k : Int} {x : ByteArray} {v : Value} {b : Bool} {y : ByteArray} {T : TypeId} (h : IsA w ad n ls) (hB : BlkW w H #[.int .u8 k, .string x, v, .bool b, .string y] T) (hv : ∀ z, v ≠ .string z) : n = 0 ∨ ∀ p, ad = some p → p.block ≠ H := by
  rcases h.2 with h0 | ⟨b', off, e, hat⟩
  · exact .inl h0
  by_cases hn : n = 0
  · exact .inl hn
  refine .inr fun p hp => ?_
  obtain rfl := Option.some.inj (e.symm.trans hp)
  show b' ≠ H
  intro hb
  subst hb
  obtain ⟨z, hz⟩ : ∃ z, ls[0]? = some z := ⟨_, List.getElem?_eq_getElem (by have := h.1; omega)⟩
  obtain ⟨c0, c1⟩ := hat 0 z hz
  rw [Nat.zero_mul, Nat.add_zero, hB.cell] at c0 c1
  match off, c0, c1 with
  | 0, c0, _ => simp at c0
  | 1, _, c1 => simp at c1; exact hv _ c1
  | 2, c0, _ => simp at c0; exact hv _ c0
  | 3, c0, _ => simp at c0
  | 4, _, c1 => simp at c1
  | off + 5, c0, _ => simp at c0
theorem isA_stay {w w' : World} {ad : Option Addr} {n H : Nat} {ls : List Tag.At} (h : IsA w ad n ls) (hne : n = 0 ∨ ∀ p, ad = some p → p.block ≠ H) (hk : ∀ k, k ≠ H → w'.heap[k]? = w.heap[k]?) : IsA w' ad n ls := by
  rcases hne with h0 | hne
  · exact ⟨h.1, .inl h0⟩
  · exact isA_kept' h fun x hx => hk x.block (hne x hx)
theorem tok_ne_attr : (24 : TypeId) ≠ 53 := by decide
theorem typ_stay {w w' : World} {ad : Option Addr} {H : Nat} {cs : Array Value} (h : TypB w ad) (hB : BlkW w H cs 24) (hk : ∀ k, k ≠ H → w'.heap[k]? = w.heap[k]?) : TypB w' ad :=
  h.heap fun x hx => hk x.block (h.ne hB tok_ne_attr x hx)
/-- The token at a place, whatever number that is. -/
def nextI (l small : List UInt8) (m : Nat) (cd : Bool) (i : Int) : Lex.T × Nat := if i < 0 then (Lex.last, l.length) else Lex.next l small m cd i.toNat
end Go.Proofs.YtgldgdopabmefaaGreatDoor
namespace Go.Proofs.YtgldgdopabmefaaGreatDoor
open Go.RowKit Go.Lib
set_option maxRecDepth 100000
set_option linter.unusedVariables false

theorem ret_int {k : IntKind} {a b : Int} (h : a = b) : Ending.returned (.int k a) = .returned (.int k b) := by rw [h]
theorem at_list (s : ByteArray) (k : Nat) (h : k < s.size) : s.data.toList[k]? = some (s[k]'h) := by
  rw [Array.getElem?_toList]
  exact Array.getElem?_eq_getElem h
/-- A tag begins at i, whatever number that is. -/
def begI (l : List UInt8) (i : Int) : Bool := decide (0 ≤ i) && Tag.begB l i.toNat
theorem begI_neg {l : List UInt8} {i : Int} (h : i < 0) : begI l i = false := by unfold begI; rw [decide_eq_false (by omega)]; rfl
theorem begI_nat (l : List UInt8) (n : Nat) : begI l (n : Int) = Tag.begB l n := by unfold begI; rw [decide_eq_true (by omega)]; rfl
theorem begB_short {l : List UInt8} {n : Nat} (h : l.length ≤ n + 1) : Tag.begB l n = false := by unfold Tag.begB; rw [decide_eq_false (by omega)]; rfl
theorem begB_other {l : List UInt8} {n : Nat} (h : U8.B l n ≠ 60) : Tag.begB l n = false := by
  unfold Tag.begB
  rw [show (U8.B l n == 60) = false by simpa using h]
  simp
theorem begB_name {l : List UInt8} {n : Nat} (h : n + 1 < l.length) (h0 : U8.B l n = 60) (h1 : U8.B l (n + 1) ≠ 47) : Tag.begB l n = letterN (U8.B l (n + 1)) := by
  unfold Tag.begB
  rw [decide_eq_true h, h0, if_neg h1]
  rfl
theorem begB_end {l : List UInt8} {n : Nat} (h : n + 1 < l.length) (h0 : U8.B l n = 60) (h1 : U8.B l (n + 1) = 47) : Tag.begB l n = (decide (n + 2 < l.length) && letterN (U8.B l (n + 2))) := by
  unfold Tag.begB
  rw [decide_eq_true h, h0, if_pos h1]
  rfl
theorem cut_list (s : ByteArray) (a b : Nat) : (s.extract a b).data.toList = Tag.cutP s.data.toList a b := by
  rw [extract_data]; rfl
theorem cut_size (s : ByteArray) (a b : Nat) (hb : b ≤ s.size) (h : a ≤ b) : (s.extract a b).size = b - a := by
  rw [size_eq, cut_list]; unfold Tag.cutP; rw [List.length_take, List.length_drop, size_list]; omega
/-- What Read answers, and where its attributes lie. -/
def ReadE (l : List UInt8) (i : Int) (n : Nat) (e : Ending) (w' : World) : Prop :=
  if begI l i = true then
    match Tag.readP l i.toNat with
    | none => e = .returned (.tuple #[tokV 0 [] none 0 0 false [], .int .i64 n, .bool false])
    | some (t, m) => ∃ a k c, e = .returned (.tuple #[tokV t.kind t.name a k c t.self [], .int .i64 m, .bool true]) ∧ IsA w' a k t.atts ∧ k ≤ l.length
  else e = .returned (.tuple #[tokV 0 [] none 0 0 false [], .int .i64 i, .bool false])
/-- The token in work: the result's block H, the token's own block behind it. -/
structure TokW (w W : World) (H : Nat) (K : Int) (N : ByteArray) : Prop where
  below : Below w.heap.size w W
  res : BlkW W H #[.int .u8 0, .string ⟨#[]⟩, .slice none 0 0, .bool false, .string ⟨#[]⟩] 24
  tok : BlkW W (H + 1) #[.int .u8 K, .string N, .slice none 0 0, .bool false, .string ⟨#[]⟩] 24
  lt : w.heap.size ≤ H
section
variable {w W W' : World} {H : Nat} {K : Int} {N : ByteArray}
theorem TokW.below' (h : TokW w W H K N) (hb : Below W.heap.size W W') : TokW w W' H K N := ⟨h.below.trans (hb.mono h.below.size), h.res.below hb h.res.lt, h.tok.below hb h.tok.lt, h.lt⟩
theorem TokW.grown {row : Option Nat} (h : TokW w W H K N) (hg : W.grownBy W' row) (hr : ∀ g, row = some g → H + 2 ≤ g) : TokW w W' H K N :=
  ⟨h.below.grown hg h.below.size (fun k hk => by have := hr k hk; have := h.lt; omega), h.res.grow hg (fun e => by have := hr _ e.symm; omega), h.tok.grow hg (fun e => by have := hr _ e.symm; omega), h.lt⟩
theorem TokW.alloc (h : TokW w W H K N) (o : Obj) : TokW w (W.alloc o) H K N := ⟨h.below.alloc h.below.size o, h.res.alloc o, h.tok.alloc o, h.lt⟩
theorem TokW.cells (h : TokW w W H K N) : W.cell? ⟨H, 0, none⟩ = some (.int .u8 0) ∧ W.cell? ⟨H, 1, none⟩ = some (.string ⟨#[]⟩) ∧ W.cell? ⟨H, 2, none⟩ = some (.slice none 0 0) ∧ W.cell? ⟨H, 3, none⟩ = some (.bool false) ∧ W.cell? ⟨H, 4, none⟩ = some (.string ⟨#[]⟩) ∧
    W.cell? ⟨H + 1, 0, none⟩ = some (.int .u8 K) ∧ W.cell? ⟨H + 1, 1, none⟩ = some (.string N) ∧ W.cell? ⟨H + 1, 2, none⟩ = some (.slice none 0 0) ∧ W.cell? ⟨H + 1, 3, none⟩ = some (.bool false) ∧ W.cell? ⟨H + 1, 4, none⟩ = some (.string ⟨#[]⟩) :=
  ⟨h.res.cell 0, h.res.cell 1, h.res.cell 2, h.res.cell 3, h.res.cell 4, h.tok.cell 0, h.tok.cell 1, h.tok.cell 2, h.tok.cell 3, h.tok.cell 4⟩
theorem TokW.free (h : TokW w W H K N) : W.frozen? ⟨H, 0, none⟩ = false ∧ W.frozen? ⟨H, 1, none⟩ = false ∧ W.frozen? ⟨H, 2, none⟩ = false ∧ W.frozen? ⟨H, 3, none⟩ = false ∧ W.frozen? ⟨H, 4, none⟩ = false ∧
    W.frozen? ⟨H + 1, 0, none⟩ = false ∧ W.frozen? ⟨H + 1, 1, none⟩ = false ∧ W.frozen? ⟨H + 1, 2, none⟩ = false ∧ W.frozen? ⟨H + 1, 3, none⟩ = false ∧ W.frozen? ⟨H + 1, 4, none⟩ = false :=
  ⟨h.res.free 0, h.res.free 1, h.res.free 2, h.res.free 3, h.res.free 4, h.tok.free 0, h.tok.free 1, h.tok.free 2, h.tok.free 3, h.tok.free 4⟩
theorem TokW.drewN (h : TokW w W H K N) (n : Nat) : TokW w (W.drewN n) H K N := ⟨bel_drewN h.below n, h.res, h.tok, h.lt⟩
end
theorem TokW.far {w W : World} {H : Nat} {K : Int} {N : ByteArray} (h : TokW w W H K N) (p : Addr) (u : Value) (hp : H + 2 ≤ p.block) : TokW w (W.setCell p u) H K N :=
  ⟨h.below.setCell (by have := h.lt; omega) u, h.res.far p u (by omega), h.tok.far p u (by omega), h.lt⟩
theorem own_is {w : World} {base : Nat} {ad : Option Addr} {n cp : Nat} {ls : List Tag.At} (h : w.ownsRow base 53 2 (.slice ad n cp) ls.length (pairL ls)) : IsA w ad n ls := by
  obtain ⟨a, cap, e, h1, _⟩ := own_isT' h
  cases e
  exact h1
/-- What the loop over attributes keeps. -/
structure LoopW (w W : World) (H : Nat) (K : Int) (N : ByteArray) (v : Value) (atts : List Tag.At) : Prop where
  tok : TokW w W H K N
  own : W.ownsRow (H + 2) 53 2 v atts.length (pairL atts)
theorem LoopW.below' {w W W' : World} {H : Nat} {K : Int} {N : ByteArray} {v : Value} {atts : List Tag.At} (h : LoopW w W H K N v atts) (hb : Below W.heap.size W W') : LoopW w W' H K N v atts := ⟨h.tok.below' hb, own_below h.own hb⟩
theorem addA_len (atts : List Tag.At) (n v : List UInt8) : (Tag.addA atts n v).length ≤ atts.length + 1 := by
  unfold Tag.addA; split
  · omega
  · rw [List.length_append]; simp
/-- A list that is told lies in memory that is new. -/
def NewB (B : Nat) (w : World) (a : Option Addr) : Prop := ∀ x, a = some x → B ≤ x.block ∧ ∃ cs fr, w.heap[x.block]? = some (.cells cs 53 fr)
def NewE (B : Nat) (e : Ending) (w : World) : Prop := ∀ x0 x1 a k c x3 x4 p q, e = .returned (.tuple #[.agg #[x0, x1, .slice (some a) k c, x3, x4], p, q]) → B ≤ a.block ∧ ∃ cs fr, w.heap[a.block]? = some (.cells cs 53 fr)
theorem newE_slice {B : Nat} {w : World} {x0 x1 x3 x4 p q : Value} {ad : Option Addr} {k c : Nat} (h : NewB B w ad) : NewE B (.returned (.tuple #[.agg #[x0, x1, .slice ad k c, x3, x4], p, q])) w := by
  intro y0 y1 a k' c' y3 y4 p' q' e
  simp at e
  exact h a e.1.2.2.1.1
theorem newE_none {B : Nat} {w : World} {x0 x1 x3 x4 p q : Value} {k c : Nat} : NewE B (.returned (.tuple #[.agg #[x0, x1, .slice none k c, x3, x4], p, q])) w := newE_slice (fun x hx => by cases hx)
theorem own_newB {w : World} {base B : Nat} {ad : Option Addr} {n cp : Nat} {ls : List Tag.At} (h : w.ownsRow base 53 2 (.slice ad n cp) ls.length (pairL ls)) (hB : B ≤ base) : NewB B w ad := by
  have ht := own_typ h
  obtain ⟨a, cap, e, _, _, _, h2, _⟩ := own_isT' h
  cases e
  exact fun x hx => ⟨Nat.le_trans hB (h2 x hx), ht x hx⟩
/-- What Read answers where a tag begins; the result is in block H. -/
def TagE (l : List UInt8) (i n : Nat) (e : Ending) (w' : World) : Prop :=
  match Tag.readP l i with
  | none => e = .returned (.tuple #[tokV 0 [] none 0 0 false [], .int .i64 n, .bool false])
  | some (t, m) => ∃ a k c, e = .returned (.tuple #[tokV t.kind t.name a k c t.self [], .int .i64 m, .bool true]) ∧ IsA w' a k t.atts ∧ k ≤ l.length
/-- The same out of the run over its attributes. -/
def TagR (R : Option (List Tag.At × Nat × Bool)) (K : Nat) (nm : List UInt8) (ln n : Nat) (e : Ending) (w' : World) : Prop :=
  match R with
  | none => e = .returned (.tuple #[tokV 0 [] none 0 0 false [], .int .i64 n, .bool false])
  | some (atts, m, sf) => ∃ a k c, e = .returned (.tuple #[tokV K nm a k c (K == 2 && sf) [], .int .i64 (m + 1 : Nat), .bool true]) ∧ IsA w' a k (if K = 2 then atts else []) ∧ k ≤ ln
theorem readE_no {l : List UInt8} {i : Int} {n : Nat} {e : Ending} {w' : World} (h : begI l i = false) (he : e = .returned (.tuple #[tokV 0 [] none 0 0 false [], .int .i64 i, .bool false])) : ReadE l i n e w' := by
  unfold ReadE
  rw [if_neg (by rw [h]; decide)]
  exact he
theorem readE_yes {l : List UInt8} {i n : Nat} {e : Ending} {w' : World} (h : Tag.begB l i = true) (he : TagE l i n e w') : ReadE l i n e w' := by
  unfold ReadE
  rw [if_pos (by rw [begI_nat]; exact h)]
  exact he
theorem begI_cases {l : List UInt8} {i : Int} (h : begI l i = true) : ∃ n : Nat, i = n ∧ Tag.begB l n = true := by
  unfold begI at h
  simp only [Bool.and_eq_true, decide_eq_true_eq] at h
  exact ⟨i.toNat, by omega, h.2⟩
theorem readE_none {l : List UInt8} {j n : Nat} {e : Ending} {w' : World} (h : ReadE l j n e w') (hb : Tag.begB l j = true) (hr : Tag.readP l j = none) : e = .returned (.tuple #[tokV 0 [] none 0 0 false [], .int .i64 n, .bool false]) := by
  unfold ReadE at h
  rw [if_pos (by rw [begI_nat]; exact hb), show ((j : Int)).toNat = j by omega, hr] at h
  exact h
theorem readE_some {l : List UInt8} {j n m : Nat} {t : Tag.Tok} {e : Ending} {w' : World} (h : ReadE l j n e w') (hb : Tag.begB l j = true) (hr : Tag.readP l j = some (t, m)) : ∃ a k c, e = .returned (.tuple #[tokV t.kind t.name a k c t.self [], .int .i64 m, .bool true]) ∧ IsA w' a k t.atts ∧ k ≤ l.length := by
  unfold ReadE at h
  rw [if_pos (by rw [begI_nat]; exact hb), show ((j : Int)).toNat = j by omega, hr] at h
  exact h
end Go.Proofs.YtgldgdopabmefaaGreatDoor
