/- Nodes that a call itself made, appended one by one; tympanref00.LentNodes. -/
import Derived.Test.YthbklcpjbeelhaaNodeArg
import Derived.Test.YthbklcpjbeelhaaAppT
import Derived.Test.YthbklcpjbeelhaaWld
import Derived.Maps.AppendAt
import Derived.IntWalk
import Derived.Deep.LoopGhost
namespace Go.Proofs.Ythbklcpjbeelhaa
open Go.RowKit Go.Lib
set_option maxRecDepth 100000
set_option linter.unusedVariables false

/-- A node as it lies in memory. -/
structure NodeR where
  kind : Nat
  space : Nat
  name : List UInt8
  aa : Option Addr
  an : Nat
  ac : Nat
  text : List UInt8
  ka : Option Addr
  kn : Nat
  kc : Nat
def nodeRow (r : NodeR) : List Value := [.int .u8 r.kind, .int .u8 r.space, .string (bs r.name), .slice r.aa r.an r.ac, .string (bs r.text), .slice r.ka r.kn r.kc]
def nodeL (rs : List NodeR) : List Value := rs.flatMap nodeRow
theorem nodeL_cons (r : NodeR) (rs : List NodeR) : nodeL (r :: rs) = nodeRow r ++ nodeL rs := rfl
theorem nodeL_append (a b : List NodeR) : nodeL (a ++ b) = nodeL a ++ nodeL b := by simp [nodeL]
theorem nodeL_len (rs : List NodeR) : (nodeL rs).length = rs.length * 6 := by
  induction rs with
  | nil => rfl
  | cons r t ih =>
    rw [nodeL_cons, List.length_append, ih, List.length_cons]
    show 6 + t.length * 6 = _
    omega
theorem nodeL_get : ∀ (rs : List NodeR) (i : Nat) (r : NodeR), rs[i]? = some r → ∀ j, j < 6 → (nodeL rs)[i * 6 + j]? = (nodeRow r)[j]?
  | [], i, r, h, j, hj => by simp at h
  | y :: t, 0, r, h, j, hj => by
    simp at h
    subst h
    rw [nodeL_cons, Nat.zero_mul, Nat.zero_add, List.getElem?_append_left (by show j < 6; exact hj)]
  | y :: t, i + 1, r, h, j, hj => by
    rw [nodeL_cons, List.getElem?_append_right (by show 6 ≤ _; omega), show (i + 1) * 6 + j - (nodeRow y).length = i * 6 + j by show (i + 1) * 6 + j - 6 = _; omega]
    exact nodeL_get t i r (by simpa using h) j hj
theorem node_one (rs : List NodeR) : ∀ u ∈ nodeL rs, u.oneCell' = true := by
  intro u hu
  simp only [nodeL, List.mem_flatMap] at hu
  obtain ⟨r, _, hr⟩ := hu
  simp [nodeRow] at hr
  rcases hr with rfl | rfl | rfl | rfl | rfl | rfl <;> rfl
/-- It is that node: attributes and kids lie in blocks of S. -/
structure FitsN (S : Nat → Prop) (d : Nat) (w : World) (r : NodeR) (x : Dom.N) : Prop where
  kind : r.kind = x.kind
  space : r.space = x.space
  name : r.name = x.name
  text : r.text = x.text
  atts : IsA w r.aa r.an x.atts
  inS : InS S r.aa r.an
  kids : IsN S d w r.ka r.kn x.kids
  anil : r.aa = none → r.ac = 0
  knil : r.ka = none → r.kc = 0
theorem FitsN.keep {S : Nat → Prop} {d : Nat} {w w' : World} {r : NodeR} {x : Dom.N} (h : FitsN S d w r x) (hk : ∀ k, S k → w'.heap[k]? = w.heap[k]?) : FitsN S d w' r x :=
  ⟨h.kind, h.space, h.name, h.text, isA_in h.atts h.inS hk, h.inS, h.kids.keep hk, h.anil, h.knil⟩
theorem FitsN.sub {S S' : Nat → Prop} {d : Nat} {w : World} {r : NodeR} {x : Dom.N} (h : FitsN S d w r x) (hs : ∀ k, S k → S' k) : FitsN S' d w r x :=
  ⟨h.kind, h.space, h.name, h.text, h.atts, h.inS.imp id (fun g p hp => hs _ (g p hp)), h.kids.sub hs, h.anil, h.knil⟩
theorem FitsN.lt {S : Nat → Prop} {d : Nat} {w : World} {r : NodeR} {x : Dom.N} (h : FitsN S d w r x) : FitsN (fun k => S k ∧ k < w.heap.size) d w r x :=
  ⟨h.kind, h.space, h.name, h.text, h.atts, isA_lt h.atts h.inS, h.kids.lt, h.anil, h.knil⟩
theorem FitsN.below {S : Nat → Prop} {d : Nat} {w w' : World} {r : NodeR} {x : Dom.N} (h : FitsN S d w r x) (hb : Below w.heap.size w w') : FitsN S d w' r x :=
  (h.lt.keep fun k hk => hb.block k hk.2).sub fun k hk => hk.1
/-- A list of nodes that the call itself made: the rest of it lies in other blocks at or above base. -/
def OwnN (w : World) (base d : Nat) (v : Value) (xs : List Dom.N) : Prop := ∃ rs : List NodeR, w.ownsRow base 32 6 v xs.length (nodeL rs) ∧ rs.length = xs.length ∧ ∀ (i : Nat) r x, rs[i]? = some r → xs[i]? = some x → FitsN (fun k => base ≤ k ∧ v.ownBlock ≠ some k) d w r x
theorem OwnN.nil (w : World) (base d : Nat) : OwnN w base d (.slice none 0 0) [] := ⟨[], World.ownsRow_nil _ _ _ _, rfl, fun i r x h => by simp at h⟩
theorem OwnN.below {w w' : World} {base d : Nat} {v : Value} {xs : List Dom.N} (h : OwnN w base d v xs) (hb : Below w.heap.size w w') : OwnN w' base d v xs := by
  obtain ⟨rs, h1, h2, h3⟩ := h
  exact ⟨rs, own_below h1 hb, h2, fun i r x hr hx => (h3 i r x hr hx).below hb⟩
theorem OwnN.old {w : World} {base d : Nat} {v : Value} {xs : List Dom.N} (h : OwnN w base d v xs) : ∀ g, v.ownBlock = some g → g < w.heap.size := by
  obtain ⟨rs, ⟨_, ⟨rfl, h0⟩ | ⟨g, cap, cur, rfl, hb, hg, _⟩⟩, _⟩ := h
  · intro k hk
    simp [Value.ownBlock] at hk
  · intro k hk
    simp [Value.ownBlock] at hk
    subst hk
    exact (Array.getElem?_eq_some_iff.1 hg).1
theorem info_node : (Try.prog.info? 32).map (fun i => (i.zero, i.size, i.bytes)) = some (some (.agg #[.int .u8 0, .int .u8 0, .string ⟨#[]⟩, .slice none 0 0, .string ⟨#[]⟩, .slice none 0 0]), 6, 88) := by kernel_rfl
/-- 'append(out, x)', out the call's own. -/
theorem append_N {w : World} {ops : Array Oper} {rest : List Oper} {o : Oper} {a : Act} {Q : Exit → Act → World → Prop} (hgd : o.guard = none) (s x : Operand)
    (ho : o.op = .call { callee := .builtin .append, args := #[s, x], argTypes := #[30, 30] })
    (base d : Nat) (v : Value) (xs : List Dom.N) (hs : a.eval s = v) (hown : OwnN w base d v xs)
    (ad : Addr) (c : Nat) (r : NodeR) (y : Dom.N) (hx : a.eval x = .slice (some ad) 1 c) (hnew : ∀ j, j < 6 → w.cell? (ad.add j) = (nodeRow r)[j]?) (hf : FitsN (fun k => base ≤ k ∧ v.ownBlock ≠ some k) d w r y)
    (hlen : xs.length + 1 ≤ 1000000000) (hbase : base ≤ w.heap.size)
    (h : ∀ v' w', OwnN w' base d v' (xs ++ [y]) → w.grownBy w' v.ownBlock → wpList Try.prog ops Q rest (a.put o.dst v') w') : wpList Try.prog ops Q (o :: rest) a w := by
  obtain ⟨i0, hi, hz0, hz1, hz2⟩ := info_parts info_node
  obtain ⟨rs, h1, h2, h3⟩ := hown
  refine wpList_append_own_at w hgd s x 30 ho base 32 i0 (.agg #[.int .u8 0, .int .u8 0, .string ⟨#[]⟩, .slice none 0 0, .string ⟨#[]⟩, .slice none 0 0]) 6 88 Try.underlying30 hi hz0 hz1 hz2 rfl (by decide) v xs.length (nodeL rs) hs h1 ad 1 c (nodeL [r]) hx rfl ?_ (node_one [r]) (by unfold maxLen; omega) (by omega) hbase ?_
  · intro j u hj
    by_cases hj6 : j < 6
    · rw [hnew j hj6, ← hj]
      have := nodeL_get [r] 0 r rfl j hj6
      rw [Nat.zero_mul, Nat.zero_add] at this
      exact this.symm
    · rw [List.getElem?_eq_none (by rw [nodeL_len]; simp; omega)] at hj
      cases hj
  · intro v' w' g1 g2 _ g4
    refine h v' w' ⟨rs ++ [r], ?_, by rw [List.length_append, List.length_append, h2]; rfl, ?_⟩ g2
    · rw [List.length_append, nodeL_append]
      exact g1
    · have keep : ∀ r' x', FitsN (fun k => base ≤ k ∧ v.ownBlock ≠ some k) d w r' x' → FitsN (fun k => base ≤ k ∧ v'.ownBlock ≠ some k) d w' r' x' := fun r' x' hf' =>
        (hf'.lt.keep fun k hk => g2.block k hk.2 (fun e => hk.1.2 e.symm)).sub fun k hk => ⟨hk.1.1, by
          rcases g4 with e | e
          · rw [e]; exact hk.1.2
          · rw [e]
            intro e2
            have := Option.some.inj e2
            have := hk.2
            omega⟩
      intro i r' x' hr hx'
      rcases Nat.lt_or_ge i rs.length with hlt | hge
      · rw [List.getElem?_append_left hlt] at hr
        rw [List.getElem?_append_left (by omega)] at hx'
        exact keep _ _ (h3 i r' x' hr hx')
      · rw [List.getElem?_append_right hge] at hr
        rw [List.getElem?_append_right (by omega), ← h2] at hx'
        by_cases hz : i - rs.length = 0
        · rw [hz] at hr hx'
          simp at hr hx'
          subst hr; subst hx'
          exact keep _ _ hf
        · rw [List.getElem?_eq_none (by simp; omega)] at hr
          cases hr
/-- What is owned is a list of nodes, in blocks at or above base. -/
theorem own_isN {w : World} {base d : Nat} {v : Value} {xs : List Dom.N} (h : OwnN w base d v xs) : ∃ a cap, v = .slice a xs.length cap ∧ IsN (fun k => base ≤ k) (d + 1) w a xs.length xs ∧ (a = none → cap = 0) := by
  obtain ⟨rs, ⟨_, ⟨rfl, h0⟩ | ⟨g, cap, cur, rfl, hb, hg, hn, hc, hcs, ht⟩⟩, h2, h3⟩ := h
  · exact ⟨none, 0, by rw [h0], ⟨rfl, .inl h0⟩, fun _ => rfl⟩
  · refine ⟨_, cap, rfl, ⟨rfl, .inr ⟨g, 0, rfl, hb, fun i x hi => ?_⟩⟩, fun e => by cases e⟩
    have hix : i < xs.length := (List.getElem?_eq_some_iff.1 hi).1
    obtain ⟨r, hr⟩ : ∃ r, rs[i]? = some r := ⟨_, List.getElem?_eq_getElem (by omega)⟩
    have hf := h3 i r x hr hi
    have hc : ∀ j, j < 6 → w.cell? ⟨g, 0 + i * 6 + j, none⟩ = (nodeRow r)[j]? := fun j hj => by
      have h1 := nodeL_get rs i r hr j hj
      rw [← ht, List.getElem?_take_of_lt (by omega)] at h1
      simp only [World.cell?, Nat.zero_add, hg]
      rw [← h1]
      simp
    have c0 := hc 0 (by omega)
    have c1 := hc 1 (by omega)
    have c2 := hc 2 (by omega)
    have c3 := hc 3 (by omega)
    have c4 := hc 4 (by omega)
    have c5 := hc 5 (by omega)
    simp only [nodeRow, Nat.add_zero, List.getElem?_cons_zero, List.getElem?_cons_succ, hf.kind, hf.space, hf.name, hf.text] at c0 c1 c2 c3 c4 c5
    exact ⟨r.aa, r.an, r.ac, r.ka, r.kn, r.kc, c0, c1, c2, c3, c4, c5, hf.atts, hf.inS.imp id (fun q p hp => (q p hp).1), hf.kids.sub fun k hk => hk.1, hf.anil, hf.knil⟩
set_option maxHeartbeats 4000000 in
theorem lentA_any (a : Option Addr) (n c : Nat) (ats : List (List UInt8 × List UInt8)) (w : World) (h : IsA w a n ats) (hnil : a = none → c = 0) (hn : n ≤ 4000000000) :
    Calls Try.prog 35 #[.slice a n c] w fun e w' => (∃ a' c', e = .returned (.slice a' n c') ∧ IsA w' a' n ats ∧ InS (fun k => w.heap.size ≤ k) a' n ∧ (a' = none → c' = 0)) ∧ Below w.heap.size w w' := by
  have HA := hid h
  have HN := hid hnil
  clear h hnil
  go_enter Try.func35, Try.ntmps35
  go_wp2_with (at_builtin; refine append_T rfl _ _ rfl w.heap.size _ [] rfl (World.ownsRow_nil _ _ _ _) a n c ats rfl HA.out HN.out (by simp; omega) (Nat.le_refl _) ?_)
  intro v' w' hown hgr
  have hb : Below w.heap.size w w' := (Below.refl _ w).grown hgr (Nat.le_refl _) (fun k e => by simp [Value.ownBlock] at e)
  obtain ⟨a', cap, hv, hI, _, _, hge, hx⟩ := own_isT' hown
  rw [HA.out.1] at hv hI
  have hR := hid (show (∃ a' c', v' = .slice a' n c' ∧ IsA w' a' n ats ∧ InS (fun k => w.heap.size ≤ k) a' n ∧ (a' = none → c' = 0)) ∧ Below w.heap.size w w' from ⟨⟨a', cap, hv, hI, .inr hge, hx⟩, hb⟩)
  clear hown hgr hb hv hI hge hx
  go_wp2
  go_ret
  obtain ⟨⟨a', c', h1, h2, h3, h4⟩, h5⟩ := hR.out
  exact ⟨⟨a', c', by rw [h1]; first | done | rfl, h2, h3, h4⟩, h5⟩
/-- What LentNodes is known to tell of lists that stand at most d deep. -/
def LentC (d : Nat) : Prop := ∀ (S : Nat → Prop) (ns : List Dom.N) (a : Option Addr) (n c : Nat) (w : World), IsN S d w a n ns → Dom.sumW d ns ≤ 900000000 →
  Calls Try.prog 11 #[.slice a n c] w fun e w' => (∃ a' c', e = .returned (.slice a' n c') ∧ IsN (fun k => w.heap.size ≤ k) d w' a' n ns ∧ (a' = none → c' = 0)) ∧ Below w.heap.size w w'
set_option maxHeartbeats 8000000 in
theorem lentN_zero : LentC 0 := by
  intro S ns a n c w h hw
  obtain ⟨rfl, rfl⟩ := h
  clear hw
  go_enter Try.func11, Try.ntmps11
  go_wp2
  go_loopg [3, 4] 0 (fun g ov iv wr => iv = .int .i64 0 ∧ ov = .slice none 0 0 ∧ wr = w)
  case atStart => exact ⟨rfl, rfl, rfl⟩
  case round =>
    obtain ⟨rfl, rfl, rfl⟩ := hrel
    go_wp2
    go_ret
    exact ⟨⟨none, 0, rfl, ⟨rfl, rfl⟩, fun _ => rfl⟩, Below.refl _ _⟩
set_option maxHeartbeats 8000000 in
theorem lentN_succ (d : Nat) (IH : LentC d) : LentC (d + 1) := by
  intro S ns a n c w h hw
  have HH := hid h
  have HIH := hid IH
  have HW := hid hw
  have HLN := hid h.len
  have hn : n ≤ 900000000 := by have := Dom.sumW_len d ns; have := h.len; omega
  clear h IH hw
  go_enter Try.func11, Try.ntmps11
  go_wp2
  go_loopg [3, 4] n (fun g ov iv wr => ∃ (k : Nat) (v : Value), v = ov ∧ k + g = n ∧ iv = .int .i64 k ∧ Hid (OwnN wr w.heap.size d v (ns.take k)) ∧ Hid (Below w.heap.size w wr))
  case atStart => exact ⟨0, _, rfl, by omega, rfl, hid (OwnN.nil _ _ _), hid (Below.refl _ _)⟩
  case round =>
    obtain ⟨k, v, rfl, hk, rfl, hO, hB⟩ := hrel
    by_cases hlt : k < n
    · have d1 : decide (k < n) = true := decide_eq_true hlt
      have hltI : (k : Int) < (n : Int) := by omega
      obtain ⟨x, hx⟩ : ∃ x, ns[k]? = some x := ⟨_, List.getElem?_eq_getElem (by have := HLN.out; omega)⟩
      have hwx := Dom.sumW_mem (d := d) (List.mem_of_getElem? hx)
      have hax := Dom.sumA_len x.atts
      obtain ⟨b1, o1, rfl, _, hat⟩ := (HH.out.below hB.out).at (by omega)
      obtain ⟨aa, an, ac, ka, kn, kc, X⟩ := hat k x hx
      have l1 := X.atts.1
      have x0 := X.c0
      have x1 := X.c1
      have x2 := X.c2
      have x3 := X.c3
      have x4 := X.c4
      have x5 := X.c5
      have hWle := HW.out
      have SA := hid fun W (hW : Below wr.heap.size wr W) => lentA_any aa an ac x.atts W (X.atts.below hW) X.anil (by omega)
      have SK := hid fun W (hW : Below wr.heap.size wr W) => HIH.out S x.kids ka kn kc W (X.kids.below hW) (by omega)
      have hkl := X.kids.len
      have HXN := hid (show ∃ NM TX, bs x.name = NM ∧ bs x.text = TX from ⟨_, _, rfl, rfl⟩)
      obtain ⟨NM, hNM⟩ : ∃ NM, bs x.name = NM := ⟨_, rfl⟩
      obtain ⟨TX, hTX⟩ : ∃ TX, bs x.text = TX := ⟨_, rfl⟩
      obtain ⟨K, hK⟩ : ∃ K, x.kind = K := ⟨_, rfl⟩
      obtain ⟨SP, hSP⟩ : ∃ SP, x.space = SP := ⟨_, rfl⟩
      rw [hK] at x0
      rw [hSP] at x1
      rw [hNM] at x2
      rw [hTX] at x4
      have HV := hid (And.intro hNM (And.intro hTX (And.intro hK hSP)))
      have HTk : Hid (ns.take (k + 1) = ns.take k ++ [x]) := hid (by rw [List.take_add_one, hx]; rfl)
      have hlen : (ns.take k).length = k := by rw [List.length_take, HLN.out]; omega
      have HLk := hid hlen
      clear hat X hx hwx hax l1 hWle hNM hTX hK hSP hlen HXN
      have P1 := hid (BlkW.new wr #[.int .u8 K, .int .u8 SP, .string NM, .slice aa an ac, .string TX, .slice ka kn kc] 32)
      have B1 := hid (show Below wr.heap.size wr (wr.alloc (.cells #[.int .u8 K, .int .u8 SP, .string NM, .slice aa an ac, .string TX, .slice ka kn kc] 32)) from (Below.refl _ wr).alloc (Nat.le_refl _) _)
      go_wp2_with fail
      refine (SA.out _ B1.out).mono ?_
      rintro e w2 ⟨⟨a2, c2, rfl, hA2, hS2, hn2⟩, b2⟩
      have hP2 := P1.out.below b2 P1.out.lt
      have hp5 := hP2.cell 5
      have hf3 := hP2.free 3
      have hp3 := hP2.cell 3
      simp only [List.getElem?_toArray, List.getElem?_cons_zero, List.getElem?_cons_succ] at hp5 hp3
      have B2 := B1.out.trans (b2.mono B1.out.size)
      have B3 := hid (B2.setCell (p := ⟨wr.heap.size, 3, none⟩) (Nat.le_refl _) (.slice a2 an c2))
      have P3 : Hid (BlkW (w2.setCell ⟨wr.heap.size, 3, none⟩ (.slice a2 an c2)) wr.heap.size #[.int .u8 K, .int .u8 SP, .string NM, .slice a2 an c2, .string TX, .slice ka kn kc] 32) := hid (hP2.set_ 3 (.slice a2 an c2))
      have hs1 : (wr.alloc (.cells #[.int .u8 K, .int .u8 SP, .string NM, .slice aa an ac, .string TX, .slice ka kn kc] 32)).heap.size = wr.heap.size + 1 := World.size_alloc _ _
      rw [hs1] at hS2
      have HA2 := hid hA2
      have HS2 := hid (isA_lt hA2 hS2)
      have HN2 := hid hn2
      have H23 := hid (fun k (hk : k ≠ wr.heap.size) => Below.heap_setCell w2 ⟨wr.heap.size, 3, none⟩ (.slice a2 an c2) k hk)
      have HZ3 := hid (show (w2.setCell ⟨wr.heap.size, 3, none⟩ (.slice a2 an c2)).heap.size = w2.heap.size by simp)
      have HZ2 := hid (show wr.heap.size + 1 ≤ w2.heap.size by have := b2.size; omega)
      clear b2 hA2 hS2 hn2 B2 hP2 x0 x1 x2 x3 x4 x5
      go_wp2_with fail
      refine (SK.out _ B3.out).mono ?_
      rintro e w4 ⟨⟨a4, c4, rfl, hK4, hn4⟩, b4⟩
      have hP4 := P3.out.below b4 P3.out.lt
      have hg5 := hP4.free 5
      have hz0 := hP4.cell 0
      have hz1 := hP4.cell 1
      have hz2 := hP4.cell 2
      have hz3 := hP4.cell 3
      have hz4 := hP4.cell 4
      have hz5 := hP4.cell 5
      simp only [List.getElem?_toArray, List.getElem?_cons_zero, List.getElem?_cons_succ] at hz0 hz1 hz2 hz3 hz4 hz5
      have B4 := B3.out.trans (b4.mono B3.out.size)
      have B5 := B4.setCell (p := ⟨wr.heap.size, 5, none⟩) (Nat.le_refl _) (.slice a4 kn c4)
      have P5 : BlkW (w4.setCell ⟨wr.heap.size, 5, none⟩ (.slice a4 kn c4)) wr.heap.size #[.int .u8 K, .int .u8 SP, .string NM, .slice a2 an c2, .string TX, .slice a4 kn c4] 32 := hP4.set_ 5 (.slice a4 kn c4)
      obtain ⟨w5, hw5⟩ : ∃ w5, w4.setCell ⟨wr.heap.size, 5, none⟩ (.slice a4 kn c4) = w5 := ⟨_, rfl⟩
      have h45 : ∀ k, k ≠ wr.heap.size → w5.heap[k]? = w4.heap[k]? := fun k hk => by rw [← hw5]; exact Below.heap_setCell w4 ⟨wr.heap.size, 5, none⟩ (.slice a4 kn c4) k hk
      have hz45 : w5.heap.size = w4.heap.size := by rw [← hw5]; simp
      have hsz4 := b4.size
      rw [HZ3.out] at hK4 hsz4
      rw [hw5] at B5 P5
      have hz2' := HZ2.out
      have fit : FitsN (fun k => w.heap.size ≤ k ∧ v.ownBlock ≠ some k) d w5 ⟨x.kind, x.space, x.name, a2, an, c2, x.text, a4, kn, c4⟩ x := by
        have own := hO.out.old
        have hsub : ∀ k, wr.heap.size + 1 ≤ k → w.heap.size ≤ k ∧ v.ownBlock ≠ some k := fun k hk => ⟨by have := hB.out.size; omega, fun e => by have := own k e; omega⟩
        refine ⟨rfl, rfl, rfl, rfl, ?_, ?_, ?_, HN2.out, hn4⟩
        · refine isA_in HA2.out HS2.out fun k hk => ?_
          rw [h45 k (by omega), b4.block k (by rw [HZ3.out]; exact hk.2), H23.out k (by omega)]
        · exact HS2.out.imp id fun q p hp => hsub _ (q p hp).1
        · refine IsN.sub (S := fun k => w2.heap.size ≤ k) (fun k hk => hsub k (by omega)) (hK4.keep fun k hk => h45 k (by omega))
      have O5 := hO.out.below B5
      have BW := B5.alloc B5.size (.cells #[.int .u8 K, .int .u8 SP, .string NM, .slice a2 an c2, .string TX, .slice a4 kn c4] 32)
      have O6 := hid (O5.below ((Below.refl w5.heap.size w5).alloc (Nat.le_refl _) (.cells #[.int .u8 K, .int .u8 SP, .string NM, .slice a2 an c2, .string TX, .slice a4 kn c4] 32)))
      have F6 := hid (fit.below ((Below.refl w5.heap.size w5).alloc (Nat.le_refl _) (.cells #[.int .u8 K, .int .u8 SP, .string NM, .slice a2 an c2, .string TX, .slice a4 kn c4] 32)))
      have B6 := hid (hB.out.trans (BW.mono hB.out.size))
      have N6 : Hid (∀ j, j < 6 → (w5.alloc (.cells #[.int .u8 K, .int .u8 SP, .string NM, .slice a2 an c2, .string TX, .slice a4 kn c4] 32)).cell? ((⟨w4.heap.size, 0, none⟩ : Addr).add j) = (nodeRow ⟨x.kind, x.space, x.name, a2, an, c2, x.text, a4, kn, c4⟩)[j]?) := hid (by
        intro j hj
        obtain ⟨v1, v2, v3, v4⟩ := HV.out
        rw [← hz45, addr_add, Nat.zero_add, (BlkW.new w5 _ _).cell j]
        unfold nodeRow
        rw [v1, v2, v3, v4]
        simp)
      have q0 := P5.cell 0
      have q1 := P5.cell 1
      have q2 := P5.cell 2
      have q3 := P5.cell 3
      have q4 := P5.cell 4
      have q5 := P5.cell 5
      simp only [List.getElem?_toArray, List.getElem?_cons_zero, List.getElem?_cons_succ] at q0 q1 q2 q3 q4 q5
      have HW5 := hid hw5
      have HLn := HLk.out
      clear b4 hK4 hn4 B4 B5 P5 h45 hz45 hsz4 hz2' fit O5 BW hw5 hP4 hp3 hp5 hf3 hs1
      go_wp2_with (at_builtin; rw [HW5.out]; refine append_N rfl _ _ rfl w.heap.size d _ (ns.take k) rfl O6.out ⟨w4.heap.size, 0, none⟩ 1 ⟨x.kind, x.space, x.name, a2, an, c2, x.text, a4, kn, c4⟩ x rfl N6.out F6.out (by omega) B6.out.size ?_; intro v' w7 hown hgr; have HO7 := hid hown; have HB7 := hid (B6.out.grown hgr B6.out.size (fun g hg => by (obtain ⟨rs, h1, _, _⟩ := O6.out; exact own_ge h1 g hg))); clear hown hgr)
      rw [← HTk.out] at HO7
      go_roundg (n - (k + 1))
      case measure => omega
      case rel => exact ⟨k + 1, _, rfl, by omega, by go_num, HO7, HB7⟩
    · have d1 : decide (k < n) = false := decide_eq_false hlt
      have hltI : ¬ (k : Int) < (n : Int) := by omega
      have hO2 := hO.out
      rw [List.take_of_length_le (by have := HLN.out; omega)] at hO2
      obtain ⟨a', cap, hv, hI, hx⟩ := own_isN hO2
      rw [HLN.out] at hv hI
      have hR := hid (show (∃ a' c', v = .slice a' n c' ∧ IsN (fun k => w.heap.size ≤ k) (d + 1) wr a' n ns ∧ (a' = none → c' = 0)) ∧ Below w.heap.size w wr from ⟨⟨a', cap, hv, hI, hx⟩, hB.out⟩)
      clear hO2 hv hI hx hO
      go_wp2
      go_ret
      obtain ⟨⟨a', c', h1, h2, h3⟩, h5⟩ := hR.out
      exact ⟨⟨a', c', by rw [h1]; first | done | rfl, h2, h3⟩, h5⟩
theorem lentN_any : ∀ d, LentC d
  | 0 => lentN_zero
  | d + 1 => lentN_succ d (lentN_any d)
end Go.Proofs.Ythbklcpjbeelhaa
