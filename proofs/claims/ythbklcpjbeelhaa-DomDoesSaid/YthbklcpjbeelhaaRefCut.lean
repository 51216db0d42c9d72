/- What a call that writes a tree leaves: the tree, in its own blocks and new ones; nothing else turned. Walks over the reference of layer 10: Cut. Written by tools/gen_refcut.py. -/
import Derived.Test.YthbklcpjbeelhaaTreeO
import Derived.Maps.AppendAt
namespace Go.Proofs.Ythbklcpjbeelhaa
open Go.RowKit Go.Lib
set_option maxRecDepth 100000
set_option linter.unusedVariables false

/-- Only blocks of S have turned, and new ones came; S' are of S, or new. -/
structure Turn (S S' : Nat → Prop) (w w' : World) : Prop where
  os : w'.os = w.os
  tape : w'.tape = w.tape
  output : w'.output = w.output
  size : w.heap.size ≤ w'.heap.size
  block : ∀ k, k < w.heap.size → ¬ S k → w'.heap[k]? = w.heap[k]?
  sub : ∀ k, S' k → S k ∨ w.heap.size ≤ k
theorem Turn.refl (S : Nat → Prop) (w : World) : Turn S S w w := ⟨rfl, rfl, rfl, Nat.le_refl _, fun _ _ _ => rfl, fun _ h => .inl h⟩
theorem Turn.trans {S S1 S2 : Nat → Prop} {w w1 w2 : World} (h : Turn S S1 w w1) (k : Turn S1 S2 w1 w2) : Turn S S2 w w2 :=
  ⟨k.os.trans h.os, k.tape.trans h.tape, k.output.trans h.output, Nat.le_trans h.size k.size, fun i hi hn => (k.block i (by have := h.size; omega) fun e => (h.sub i e).elim hn (by omega)).trans (h.block i hi hn), fun i hi => (k.sub i hi).elim (h.sub i) fun e => .inr (Nat.le_trans h.size e)⟩
theorem Turn.of_below {S : Nat → Prop} {w w' : World} (h : Below w.heap.size w w') : Turn S S w w' := ⟨h.os, h.tape, h.output, h.size, fun k hk _ => h.block k hk, fun _ e => .inl e⟩
theorem Turn.below {S S' : Nat → Prop} {B : Nat} {w0 w w' : World} (h : Turn S S' w w') (hb : Below B w0 w) (hB : B ≤ w.heap.size) (hS : ∀ k, S k → B ≤ k) : Below B w0 w' :=
  ⟨h.os.trans hb.os, h.tape.trans hb.tape, h.output.trans hb.output, Nat.le_trans hb.size h.size, fun k hk => (h.block k (by omega) fun e => by have := hS k e; omega).trans (hb.block k hk)⟩
theorem Turn.set {S S' : Nat → Prop} {w w' : World} (h : Turn S S' w w') (p : Addr) (u : Value) (hp : S p.block ∨ w.heap.size ≤ p.block) : Turn S S' w (w'.setCell p u) :=
  ⟨h.os, h.tape, h.output, by simpa [World.setCell] using h.size, fun k hk hn => (Below.heap_setCell _ _ _ _ (fun e => by
    subst e
    rcases hp with hp | hp
    · exact hn hp
    · omega)).trans (h.block k hk hn), h.sub⟩
theorem Turn.wide {S S' S2 : Nat → Prop} {w w' : World} (h : Turn S S' w w') (hs : ∀ k, S2 k → S' k ∨ w.heap.size ≤ k) : Turn S S2 w w' :=
  ⟨h.os, h.tape, h.output, h.size, h.block, fun k hk => (hs k hk).elim (h.sub k) .inr⟩
theorem Turn.grown {S : Nat → Prop} {w w' : World} {row : Option Nat} (h : w.grownBy w' row) (hr : ∀ k, row = some k → S k) : Turn S S w w' :=
  ⟨h.os, h.tape, h.output, h.size, fun k hk hn => h.block k hk fun e => hn (hr k e.symm), fun _ e => .inl e⟩
/-- The tree at R. -/
def TreeX (w : World) (base R : Nat) (S : Nat → Prop) (t : Dom.T) : Prop := ∃ v rs, TreeO w base R S v rs t
theorem TreeX.below {w w' : World} {base R : Nat} {S : Nat → Prop} {t : Dom.T} (h : TreeX w base R S t) (hb : Below w.heap.size w w') : TreeX w' base R S t := by
  obtain ⟨v, rs, h⟩ := h
  exact ⟨v, rs, h.below hb⟩
theorem TreeX.inb {w : World} {base R : Nat} {S : Nat → Prop} {t : Dom.T} (h : TreeX w base R S t) : ∀ k, S k → base ≤ k ∧ k < w.heap.size := by
  obtain ⟨v, rs, h⟩ := h
  exact h.inb
/-- It stands where another tree is written. -/
theorem TreeX.keep {w w' : World} {base R : Nat} {S Q Q' : Nat → Prop} {t : Dom.T} (h : TreeX w base R S t) (hT : Turn Q Q' w w') (hd : ∀ k, S k → ¬ Q k) : TreeX w' base R S t := by
  obtain ⟨v, rs, h⟩ := h
  exact ⟨v, rs, h.keep (fun _ e => e) (fun k e => hT.block k (h.inb k e).2 (hd k e)) fun k e => ⟨(h.inb k e).1, by have := (h.inb k e).2; have := hT.size; omega⟩⟩
/-- Still apart. -/
theorem Turn.apart {S Q Q' : Nat → Prop} {w w' : World} (hT : Turn Q Q' w w') (hd : ∀ k, S k → ¬ Q k) (hS : ∀ k, S k → k < w.heap.size) : ∀ k, S k → ¬ Q' k := fun k h e => (hT.sub k e).elim (hd k h) fun g => by have := hS k h; omega
/-- What a call leaves that writes the tree. -/
def Turned (w w' : World) (base R : Nat) (S : Nat → Prop) (t : Dom.T) : Prop := ∃ S', TreeX w' base R S' t ∧ Turn S S' w w'
theorem Turned.same {w : World} {base R : Nat} {S : Nat → Prop} {t : Dom.T} (h : TreeX w base R S t) : Turned w w base R S t := ⟨S, h, Turn.refl S w⟩
/-- Fewer than there are numbers. -/
theorem nodup_len : ∀ (n : Nat) (l : List Nat), l.Nodup → (∀ x ∈ l, x < n) → l.length ≤ n
  | 0, l, _, h => by
    cases l with
    | nil => exact Nat.le_refl _
    | cons x r => exact absurd (h x (List.mem_cons_self ..)) (Nat.not_lt_zero _)
  | n + 1, l, hn, h => by
    have := nodup_len n (l.erase n) (hn.erase n) fun x hx => by
      have h1 := h x (List.mem_of_mem_erase hx)
      have h2 : x ≠ n := fun e => by
        subst e
        exact hn.not_mem_erase hx
      omega
    have := List.length_erase_le (a := n) (l := l)
    have h3 : l.length ≤ (l.erase n).length + 1 := by
      by_cases e : n ∈ l
      · rw [List.length_erase_of_mem e]
        omega
      · rw [List.erase_of_not_mem e]
        omega
    omega
theorem good_few {t : Dom.T} (h : Dom.Good t) (i : Nat) : (Dom.kidsAt t i).length ≤ t.length := nodup_len _ _ (h.nodup i) fun x hx => (h.kid i x hx).1
/-- The place of a kid. -/
theorem placeF_mem : ∀ (l : List Nat) (i x : Nat), x ∈ l → ∃ k, k < l.length ∧ Dom.placeF (x : Int) i l = ((i + k : Nat) : Int) ∧ l.take k ++ l.drop (k + 1) = l.erase x
  | [], i, x, h => by cases h
  | y :: r, i, x, h => by
    unfold Dom.placeF
    by_cases e : y = x
    · subst e
      exact ⟨0, by simp, by rw [if_pos rfl]; rfl, by simp⟩
    · have hx : x ∈ r := by
        rcases List.mem_cons.1 h with h | h
        · exact absurd h.symm e
        · exact h
      obtain ⟨k, k1, k2, k3⟩ := placeF_mem r (i + 1) x hx
      refine ⟨k + 1, by simp; omega, by rw [if_neg (by omega), k2]; omega, ?_⟩
      rw [List.take_succ_cons, List.drop_succ_cons, List.cons_append, k3, List.erase_cons_tail (by simpa using e)]
theorem placeL_mem {l : List Nat} {x : Nat} (h : x ∈ l) : ∃ k, k < l.length ∧ Dom.placeL l (x : Int) = (k : Int) ∧ l.take k ++ l.drop (k + 1) = l.erase x := by
  obtain ⟨k, k1, k2, k3⟩ := placeF_mem l 0 x h
  refine ⟨k, k1, ?_, k3⟩
  unfold Dom.placeL
  rw [if_neg (by omega), k2]
  omega
theorem isZ_take {w : World} {a : Option Addr} {n : Nat} {l : List Nat} (h : IsZ w a n l) (k : Nat) (hk : k ≤ n) : IsZ w a k (l.take k) := by
  refine ⟨by rw [List.length_take, h.1]; omega, ?_⟩
  by_cases h0 : k = 0
  · exact .inl h0
  obtain ⟨b, off, e, hat⟩ := h.2.resolve_left (by omega)
  refine .inr ⟨b, off, e, fun i x hx => hat i x ?_⟩
  have hi : i < k := by have := (List.getElem?_eq_some_iff.1 hx).1; rw [List.length_take] at this; omega
  rw [List.getElem?_take_of_lt hi] at hx
  exact hx
theorem isZ_drop {w : World} {b off n : Nat} {l : List Nat} (h : IsZ w (some ⟨b, off, none⟩) n l) (k : Nat) (hk : k ≤ n) : IsZ w (some ⟨b, off + k, none⟩) (n - k) (l.drop k) := by
  refine ⟨by rw [List.length_drop, h.1], ?_⟩
  by_cases h0 : n - k = 0
  · exact .inl h0
  obtain ⟨b', off', e, hat⟩ := h.2.resolve_left (by omega)
  injection Option.some.inj e with e1 e2
  subst e1
  subst e2
  refine .inr ⟨b, off + k, rfl, fun i x hx => ?_⟩
  rw [List.getElem?_drop] at hx
  rw [Nat.add_assoc]
  exact hat (k + i) x hx
theorem IsZ.below {w w' : World} {a : Option Addr} {n : Nat} {l : List Nat} (h : IsZ w a n l) (hb : Below w.heap.size w w') : IsZ w' a n l :=
  ⟨h.1, h.2.elim .inl fun ⟨b, off, e, hat⟩ => .inr ⟨b, off, e, fun i x hx => cell_up (hat i x hx) hb⟩⟩
/-- 'append(own, x...)', what comes out named. -/
theorem append_Zr {w : World} {ops : Array Oper} {rest : List Oper} {o : Oper} {a : Act} {Q : Exit → Act → World → Prop} (hgd : o.guard = none) (s x : Operand)
    (ho : o.op = .call { callee := .builtin .append, args := #[s, x], argTypes := #[48, 48] })
    (base : Nat) (v : Value) (acc : List Nat) (hs : a.eval s = v) (hown : w.ownsRow base 3 1 v acc.length (zL acc))
    (ad : Option Addr) (m c : Nat) (new r : List Nat) (hr : acc ++ new = r) (hx : a.eval x = .slice ad m c) (hS : IsZ w ad m new) (hn : ad = none → c = 0)
    (hlen : r.length ≤ 8589934592) (hbase : base ≤ w.heap.size)
    (h : ∀ v' w', w'.ownsRow base 3 1 v' r.length (zL r) → w.grownBy w' v.ownBlock → wpList Try.prog ops Q rest (a.put o.dst v') w') : wpList Try.prog ops Q (o :: rest) a w := by
  subst hr
  exact append_Z hgd s x ho base v acc hs hown ad m c new hx hS hn (by rw [List.length_append, hS.1] at hlen; exact hlen) hbase h
theorem Turned.after {w w1 w' : World} {base R : Nat} {S S1 : Nat → Prop} {t : Dom.T} (h : Turn S S1 w w1) (k : Turned w1 w' base R S1 t) : Turned w w' base R S t := by
  obtain ⟨S2, k1, k2⟩ := k
  exact ⟨S2, k1, h.trans k2⟩
/-- What the tree is where the kids of p are another row, and i stands somewhere else. -/
theorem TreeO.ins {w w' : World} {base R g : Nat} {S : Nat → Prop} {v : Value} {rs : List TR} {t : Dom.T} (h : TreeO w base R S v rs t) (hv : v.ownBlock = some g) {i p : Nat} (hi : i < t.length) (hp : p < t.length) (q : Int)
    (kv : Value) (l : List Nat) (hb : Below w.heap.size w w') (hbase : base ≤ w.heap.size) (hk : w'.ownsRow w.heap.size 3 1 kv l.length (zL l)) :
    Turned w ((w'.setCell ⟨g, p * 8 + 7, none⟩ kv).setCell ⟨g, i * 8 + 6, none⟩ (.int .i64 q)) base R S (Dom.upd (Dom.upd t p fun x => { x with kids := l }) i fun x => { x with par := q }) := by
  have h1 := h.below hb
  have hge := own_ge hk
  have hbk : w'.ownsRow base 3 1 kv l.length (zL l) := by
    obtain ⟨q, q2⟩ := hk
    exact ⟨q, q2.imp id fun ⟨g', cap, cur, a1, a2, a3⟩ => ⟨g', cap, cur, a1, by omega, a3⟩⟩
  obtain ⟨rs2, h2⟩ := h1.kids hv hp kv l hbk (fun b hb' e => by have := hge b hb'; have := (h.inb b e).2; omega)
  obtain ⟨rs3, h3⟩ := h2.par hv (show i < (Dom.upd t p fun x => { x with kids := l }).length by rw [Dom.upd_len]; exact hi) q
  refine ⟨_, ⟨v, rs3, h3⟩, ?_⟩
  exact ((((Turn.of_below hb).wide (S2 := fun k => S k ∨ kv.ownBlock = some k) (fun k e => e.imp id fun e => hge k e)).set _ _ (.inl (h.vS g hv))).set _ _ (.inl (h.vS g hv)))
theorem placeF_erase {K : Int} {x : Nat} (hK : K ≠ (x : Int)) : ∀ (l : List Nat) (i : Nat), 0 ≤ Dom.placeF K i l → ∀ j, 0 ≤ Dom.placeF K j (l.erase x)
  | [], i, h, j => by
    exfalso
    have : Dom.placeF K i [] = -1 := rfl
    omega
  | y :: r, i, h, j => by
    by_cases e : y = x
    · subst e
      rw [List.erase_cons_head]
      unfold Dom.placeF at h
      rw [if_neg (fun e => hK e.symm)] at h
      exact placeF_shift r _ h j
    · rw [List.erase_cons_tail (by simpa using e)]
      unfold Dom.placeF at h ⊢
      by_cases e2 : (y : Int) = K
      · rw [if_pos e2]; omega
      · rw [if_neg e2] at h ⊢
        exact placeF_erase hK r _ h _
where
  placeF_shift : ∀ (l : List Nat) (i : Nat), 0 ≤ Dom.placeF K i l → ∀ j, 0 ≤ Dom.placeF K j l
  | [], i, h, j => h
  | y :: r, i, h, j => by
    unfold Dom.placeF at h ⊢
    by_cases e2 : (y : Int) = K
    · rw [if_pos e2]; omega
    · rw [if_neg e2] at h ⊢
      exact placeF_shift r _ h _
theorem placeL_erase {l : List Nat} {K : Int} {x : Nat} (hK : K ≠ (x : Int)) (h : 0 ≤ Dom.placeL l K) : 0 ≤ Dom.placeL (l.erase x) K := by
  unfold Dom.placeL at h ⊢
  by_cases e : K = -1
  · rw [if_pos e]; omega
  · rw [if_neg e] at h ⊢
    exact placeF_erase hK l 0 h 0
end Go.Proofs.Ythbklcpjbeelhaa
namespace Go.Proofs.Ythbklcpjbeelhaa
open Go.RowKit Go.Lib
set_option maxRecDepth 100000
set_option linter.unusedVariables false

set_option maxHeartbeats 8000000 in
theorem rcut_yes (w : World) (base R : Nat) (S : Nat → Prop) (t : Dom.T) (i p : Nat) (h : TreeX w base R S t) (hG : Dom.Good t) (hf : t.length ≤ 1000000) (hbase : base ≤ w.heap.size) (hpar : Dom.parAt t i = (p : Nat)) :
    Calls Try.prog 20 #[.pointer (some ⟨R, 0, none⟩), .int .i64 i] w fun e w' => e = .returned (.bool true) ∧ Turned w w' base R S (Dom.cutT t i).1 := by
  obtain ⟨v, rs, h⟩ := h
  have hi : i < t.length := Dom.par_lt hpar
  obtain ⟨hp, hm, hpk⟩ := hG.par_there hpar
  have hne : p ≠ i := hG.far p hpar
  obtain ⟨g, cap, rfl, hnc, hR⟩ := h.read hG.some hf
  have h1 := hR.top
  have HT := there_any w R g cap t i hR
  rw [decide_eq_true (show Dom.there t (i : Nat) from ⟨by omega, by omega⟩)] at HT
  obtain ⟨k, hkl, hpl, hcut⟩ := placeL_mem hm
  have HP := rplace_any w R g cap t p (i : Int) hR hp (by have := good_few hG p; omega)
  rw [hpl] at HP
  obtain ⟨aa, an, ac, ka, kn, kc, X⟩ := hR.at_ p _ (node_get hp)
  have x7 := X.c7
  have hZ := X.kids
  have hle := X.kle
  change IsZ w ka kn (Dom.kidsAt t p) at hZ
  obtain ⟨aa2, an2, ac2, ka2, kn2, kc2, Y⟩ := hR.at_ i _ (node_get hi)
  have y6 := Y.c6
  change w.cell? ⟨g, i * 8 + 6, none⟩ = some (.int .i64 (Dom.parAt t i)) at y6
  rw [hpar] at y6
  have hR' : (Dom.cutT t i).1 = Dom.upd (Dom.upd t p fun x => { x with kids := (Dom.kidsAt t p).take k ++ (Dom.kidsAt t p).drop (k + 1) }) i fun x => { x with par := -1 } := by
    unfold Dom.cutT
    rw [if_neg (by unfold Dom.there; rw [show ((i : Int)).toNat = i by omega, hpar]; omega), show ((i : Int)).toNat = i by omega, hpar, show ((p : Int)).toNat = p by omega]
    rw [upd_set (node_get hp), upd_set (node_get hp), hcut]
    rfl
  rw [hR']
  have hfew := good_few hG p
  obtain ⟨L, hL⟩ : ∃ L, Dom.kidsAt t p = L := ⟨_, rfl⟩
  rw [hL] at hZ hkl hcut hm hfew ⊢
  have hkn := hZ.1
  obtain ⟨b, off, rfl, _⟩ := hZ.2.resolve_left (by omega)
  obtain ⟨n, hn⟩ : ∃ n, List.length t = n := ⟨_, rfl⟩
  have HO := hid fun (w' : World) kv l hb hk => h.ins (w' := w') (i := i) (p := p) rfl hi hp (-1) kv l hb hbase hk
  obtain ⟨cs, hG8⟩ := own_cells h.own (g := g) rfl
  rw [hn] at h1 hnc hi hp
  have HG8 := hid hG8
  have HT := hid HT
  have HP := hid HP
  have hp3 : (p : Int) < (n : Int) := by omega
  have hi3 : (i : Int) < (n : Int) := by omega
  have z1 : ((p : Int)).toNat = p := by omega
  have z2 : ((i : Int)).toNat = i := by omega
  have z3 : ((k : Int)).toNat = k := by omega
  have hk1 : k < kn := by omega
  have hkc : k ≤ kc := by omega
  have hkc1 : k + 1 ≤ kn := by omega
  have hkc2 : k + 1 ≤ kc := by omega
  have HZ1 := hid (isZ_take hZ k (by omega))
  have HZ2 := hid (isZ_drop hZ (k + 1) (by omega))
  have hln2 : (L.drop (k + 1)).length = kn - (k + 1) := by rw [List.length_drop, hkn]
  have HLL := hid (show (L.take k ++ L.drop (k + 1)).length ≤ 8589934592 by rw [List.length_append, List.length_take, hln2]; omega)
  have HL1 := hid (show (L.take k).length ≤ 8589934592 by rw [List.length_take]; omega)
  have HL2 := hid hln2
  obtain ⟨A, hA⟩ : ∃ A, L.take k = A := ⟨_, rfl⟩
  obtain ⟨B, hB⟩ : ∃ B, L.drop (k + 1) = B := ⟨_, rfl⟩
  rw [hA] at HZ1 HLL HL1 ⊢
  rw [hB] at HZ2 HLL HL2 ⊢
  obtain ⟨C, hC⟩ : ∃ C, A ++ B = C := ⟨_, rfl⟩
  rw [hC] at HLL ⊢
  have HC := hid hC
  clear hA hB hC hln2
  clear X Y hR h hR' hn hZ hpl hcut hm hL hG hG8 hpar hpk
  by_cases hkc3 : kc = k + 1
  · subst hkc3
    obtain rfl : kn = k + 1 := by omega
    have HZ2 : Hid (IsZ w (some ⟨b, off, none⟩) 0 B) := hid ⟨by rw [HL2.out]; omega, .inl rfl⟩
    go_enter Try.func20, Try.ntmps20
    go_wp2_with fail
    refine (HT.out).mono ?_
    rintro e w1 ⟨rfl, rfl⟩
    go_wp2_with fail
    refine (HP.out).mono ?_
    rintro e w2 ⟨rfl, rfl⟩
    go_wp2_with (at_builtin; refine append_Zr rfl _ _ rfl w2.heap.size _ [] rfl (World.ownsRow_nil _ _ _ _) (some ⟨b, off, none⟩) k (k + 1) A A rfl rfl HZ1.out (fun e => by cases e) HL1.out (Nat.le_refl _) ?_)
    intro v3 w3 hown hgr
    have b3 : Below w2.heap.size w2 w3 := (Below.refl _ w2).grown hgr (Nat.le_refl _) (fun k e => by simp [Value.ownBlock] at e)
    have x7' := cell_up x7 b3
    have h1' := cell_up h1 b3
    have HZ3 := hid (HZ2.out.below b3)
    have HB3 := hid b3
    have HO3 := hid hown
    clear hgr b3 hown
    go_wp2_with (at_builtin; refine append_Zr rfl _ _ rfl w2.heap.size v3 A rfl HO3.out (some ⟨b, off, none⟩) 0 0 B C HC.out rfl HZ3.out (fun e => by cases e) HLL.out HB3.out.size ?_)
    intro v4 w4 hown hgr
    have HB4 := hid (HB3.out.grown hgr HB3.out.size (own_ge HO3.out))
    obtain ⟨a4, c4, rfl, _⟩ := own_isZ hown
    have HO4 := hid hown
    have h14 := cell_up h1 HB4.out
    have g4 := HG8.out.below HB4.out HG8.out.lt
    have f7 := g4.free (p * 8 + 7)
    have f6 := g4.free (i * 8 + 6)
    have c7 := cell_up x7 HB4.out
    have c6 := cell_up y6 HB4.out
    clear hown hgr
    go_wp2
    go_ret
    refine ⟨rfl, ?_⟩
    exact HO.out w4 _ _ HB4.out HO4.out
  · have hkc4 : ¬ k + 1 = kc := fun e => hkc3 e.symm
    go_enter Try.func20, Try.ntmps20
    go_wp2_with fail
    refine (HT.out).mono ?_
    rintro e w1 ⟨rfl, rfl⟩
    go_wp2_with fail
    refine (HP.out).mono ?_
    rintro e w2 ⟨rfl, rfl⟩
    go_wp2_with (at_builtin; refine append_Zr rfl _ _ rfl w2.heap.size _ [] rfl (World.ownsRow_nil _ _ _ _) (some ⟨b, off, none⟩) k kc A A rfl rfl HZ1.out (fun e => by cases e) HL1.out (Nat.le_refl _) ?_)
    intro v3 w3 hown hgr
    have b3 : Below w2.heap.size w2 w3 := (Below.refl _ w2).grown hgr (Nat.le_refl _) (fun k e => by simp [Value.ownBlock] at e)
    have x7' := cell_up x7 b3
    have h1' := cell_up h1 b3
    have HZ3 := hid (HZ2.out.below b3)
    have HB3 := hid b3
    have HO3 := hid hown
    clear hgr b3 hown
    go_wp2_with (at_builtin; refine append_Zr rfl _ _ rfl w2.heap.size v3 A rfl HO3.out (some ⟨b, off + (k + 1), none⟩) (kn - (k + 1)) (kc - (k + 1)) B C HC.out rfl HZ3.out (fun e => by cases e) HLL.out HB3.out.size ?_)
    intro v4 w4 hown hgr
    have HB4 := hid (HB3.out.grown hgr HB3.out.size (own_ge HO3.out))
    obtain ⟨a4, c4, rfl, _⟩ := own_isZ hown
    have HO4 := hid hown
    have h14 := cell_up h1 HB4.out
    have g4 := HG8.out.below HB4.out HG8.out.lt
    have f7 := g4.free (p * 8 + 7)
    have f6 := g4.free (i * 8 + 6)
    have c7 := cell_up x7 HB4.out
    have c6 := cell_up y6 HB4.out
    clear hown hgr
    go_wp2
    go_ret
    refine ⟨rfl, ?_⟩
    exact HO.out w4 _ _ HB4.out HO4.out
set_option maxHeartbeats 4000000 in
theorem rcut_no (w : World) (base R : Nat) (S : Nat → Prop) (t : Dom.T) (i : Nat) (h : TreeX w base R S t) (hG : Dom.Good t) (hf : t.length ≤ 1000000) (hi : i < t.length) (hpar : Dom.parAt t i = -1) :
    Calls Try.prog 20 #[.pointer (some ⟨R, 0, none⟩), .int .i64 i] w fun e w' => e = .returned (.bool false) ∧ w' = w := by
  obtain ⟨v, rs, h⟩ := h
  obtain ⟨g, cap, rfl, hnc, hR⟩ := h.read hG.some hf
  have h1 := hR.top
  have HT := there_any w R g cap t i hR
  rw [decide_eq_true (show Dom.there t (i : Nat) from ⟨by omega, by omega⟩)] at HT
  obtain ⟨aa2, an2, ac2, ka2, kn2, kc2, Y⟩ := hR.at_ i _ (node_get hi)
  have y6 := Y.c6
  change w.cell? ⟨g, i * 8 + 6, none⟩ = some (.int .i64 (Dom.parAt t i)) at y6
  rw [hpar] at y6
  obtain ⟨n, hn⟩ : ∃ n, List.length t = n := ⟨_, rfl⟩
  rw [hn] at h1 hnc hi
  have HT := hid HT
  have hi3 : (i : Int) < (n : Int) := by omega
  have z2 : ((i : Int)).toNat = i := by omega
  clear Y hR h hn hG hpar
  go_enter Try.func20, Try.ntmps20
  go_wp2_with fail
  refine (HT.out).mono ?_
  rintro e w1 ⟨rfl, rfl⟩
  go_wp2
  go_ret
  exact ⟨rfl, rfl⟩
theorem rcut_far (w : World) (base R : Nat) (S : Nat → Prop) (t : Dom.T) (i : Int) (h : TreeX w base R S t) (hG : Dom.Good t) (hf : t.length ≤ 1000000) (hi : ¬ Dom.there t i) :
    Calls Try.prog 20 #[.pointer (some ⟨R, 0, none⟩), .int .i64 i] w fun e w' => e = .returned (.bool false) ∧ w' = w := by
  obtain ⟨v, rs, h⟩ := h
  obtain ⟨g, cap, rfl, hnc, hR⟩ := h.read hG.some hf
  have HT := there_any w R g cap t i hR
  rw [decide_eq_false hi] at HT
  have HT := hid HT
  clear hR h hG hi
  go_enter Try.func20, Try.ntmps20
  go_wp2_with fail
  refine (HT.out).mono ?_
  rintro e w1 ⟨rfl, rfl⟩
  go_wp2
  go_ret
  exact ⟨rfl, rfl⟩
/-- Cut, of whatever number. -/
theorem rcut_any (w : World) (base R : Nat) (S : Nat → Prop) (t : Dom.T) (i : Int) (h : TreeX w base R S t) (hG : Dom.Good t) (hf : t.length ≤ 1000000) (hbase : base ≤ w.heap.size) :
    Calls Try.prog 20 #[.pointer (some ⟨R, 0, none⟩), .int .i64 i] w fun e w' => e = .returned (.bool (Dom.cutT t i).2) ∧ Turned w w' base R S (Dom.cutT t i).1 := by
  by_cases hi : Dom.there t i
  · have hi' := hi
    obtain ⟨i1, i2⟩ := hi'
    rw [show i = ((i.toNat : Nat) : Int) by omega]
    rcases hG.par i.toNat with hp | ⟨p, _, hp, _⟩
    · have e : Dom.cutT t ((i.toNat : Nat) : Int) = (t, false) := by
        unfold Dom.cutT
        rw [if_pos (.inr (by rw [show (((i.toNat : Nat) : Int)).toNat = i.toNat by omega, hp]; omega))]
      rw [e]
      exact (rcut_no w base R S t i.toNat h hG hf (by omega) hp).mono fun e w' ⟨h1, h2⟩ => ⟨h1, by rw [h2]; exact Turned.same h⟩
    · have e := (Dom.cut_says hG hp).1
      rw [show (Dom.cutT t ((i.toNat : Nat) : Int)).2 = true by rw [e]]
      exact rcut_yes w base R S t i.toNat p h hG hf hbase hp
  · have e : Dom.cutT t i = (t, false) := by
      unfold Dom.cutT
      rw [if_pos (.inl hi)]
    rw [e]
    exact (rcut_far w base R S t i h hG hf hi).mono fun e w' ⟨h1, h2⟩ => ⟨h1, by rw [h2]; exact Turned.same h⟩
end Go.Proofs.Ythbklcpjbeelhaa
