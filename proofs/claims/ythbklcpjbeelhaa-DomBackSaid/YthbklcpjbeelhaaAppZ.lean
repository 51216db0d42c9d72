/- Walks over the reference of layer 10: what a tree is asked and stays. Walks over the reference of layer 10: the place of a kid. Laws: appending lists of numbers to the call's own; the reference's Kids. -/
import Derived.Test.YthbklcpjbeelhaaNodeArg
import Derived.Test.YthbklcpjbeelhaaAppT
import Derived.Laws.AppendOwnNone
namespace Go.Proofs.Ythbklcpjbeelhaa
open Go.RowKit Go.Lib
set_option maxRecDepth 100000
set_option linter.unusedVariables false

set_option maxHeartbeats 4000000 in
theorem rholds_any (w : World) (R g cap : Nat) (t : Dom.T) (i : Int) (h : TreeR w R g cap t) :
    Calls Try.prog 45 #[.pointer (some ⟨R, 0, none⟩), .int .i64 i] w fun e w' => e = .returned (.bool (decide (Dom.holds t i))) ∧ w' = w := by
  have h1 := h.top
  have h2 := h.few
  have HT := hid (there_any w R g cap t i h)
  by_cases g1 : Dom.there t i
  · have hR : decide (Dom.there t i) = true := decide_eq_true g1
    rw [hR] at HT
    have g1' := g1
    obtain ⟨i1, i2⟩ := g1
    by_cases g0 : i = 0
    · have hD : decide (Dom.holds t i) = true := decide_eq_true ⟨g1', .inl g0⟩
      rw [hD]
      subst g0
      clear h g1' hD hR h1 h2
      go_enter Try.func45, Try.ntmps45
      go_wp2_with fail
      refine (HT.out).mono ?_
      rintro e w1 ⟨rfl, rfl⟩
      go_wp2
      go_ret
      exact ⟨rfl, rfl⟩
    · obtain ⟨aa, an, ac, ka, kn, kc, X⟩ := h.at_ i.toNat _ (node_get (by omega))
      have x0 := X.c0
      change w.cell? ⟨g, i.toNat * 8, none⟩ = some (.int .u8 (Dom.kindAt t i.toNat)) at x0
      have hD : decide (Dom.holds t i) = decide (Dom.kindAt t i.toNat = 1) := by
        by_cases k1 : Dom.kindAt t i.toNat = 1
        · rw [decide_eq_true k1]
          exact decide_eq_true ⟨g1', .inr k1⟩
        · rw [decide_eq_false k1]
          exact decide_eq_false fun h => h.2.elim g0 k1
      rw [hD]
      obtain ⟨P, hP⟩ : ∃ P, Dom.kindAt t i.toNat = P := ⟨_, rfl⟩
      rw [hP] at x0 ⊢
      obtain ⟨n, hn⟩ : ∃ n, List.length t = n := ⟨_, rfl⟩
      rw [hn] at h1 h2 i2
      clear X h hn hR hP g1' hD
      have hlt : i.toNat < n := by omega
      have e0 : (i == 0) = false := by simp; exact g0
      by_cases k1 : P = 1
      · subst k1
        have e1 : decide ((1 : Nat) = 1) = true := rfl
        rw [e1]
        go_enter Try.func45, Try.ntmps45
        go_wp2_with fail
        refine (HT.out).mono ?_
        rintro e w1 ⟨rfl, rfl⟩
        go_wp2
        go_ret
        exact ⟨rfl, rfl⟩
      · have e1 : ((P : Int) == 1) = false := by simp; omega
        have e2 : decide (P = 1) = false := decide_eq_false k1
        rw [e2]
        go_enter Try.func45, Try.ntmps45
        go_wp2_with fail
        refine (HT.out).mono ?_
        rintro e w1 ⟨rfl, rfl⟩
        go_wp2
        go_ret
        exact ⟨rfl, rfl⟩
  · have hR : decide (Dom.there t i) = false := decide_eq_false g1
    have hD : decide (Dom.holds t i) = false := decide_eq_false fun h => g1 h.1
    rw [hR] at HT
    rw [hD]
    clear h hR hD
    go_enter Try.func45, Try.ntmps45
    go_wp2_with fail
    refine (HT.out).mono ?_
    rintro e w1 ⟨rfl, rfl⟩
    go_wp2
    go_ret
    exact ⟨rfl, rfl⟩
theorem Up_stop {t : Dom.T} {x o : Nat} (h : Dom.parAt t x = -1) (hne : x ≠ o) : ¬ Dom.Up t x o := fun g => by
  cases g with
  | refl => exact hne rfl
  | step e _ => rw [h] at e; omega
open Classical in
set_option maxHeartbeats 4000000 in
theorem rwithin_any (w : World) (R g cap : Nat) (t : Dom.T) (p o : Nat) (h : TreeR w R g cap t) (hg : Dom.Good t) (hp : p < t.length) (ho : o < t.length) :
    Calls Try.prog 46 #[.pointer (some ⟨R, 0, none⟩), .int .i64 p, .int .i64 o] w fun e w' => e = .returned (.bool (decide (Dom.Up t p o))) ∧ w' = w := by
  have h1 := h.top
  have h2 := h.few
  have HH := hid h
  have HG := hid hg
  obtain ⟨r, hr⟩ := hg.ends
  have HR := hid hr
  obtain ⟨n, hn⟩ : ∃ n, List.length t = n := ⟨_, rfl⟩
  have HN := hid hn
  rw [hn] at h1 h2 hp ho
  obtain ⟨B, hB⟩ : ∃ B, decide (Dom.Up t p o) = B := ⟨_, rfl⟩
  rw [hB]
  have HB := hid hB
  clear h hg hr hn hB
  go_enter Try.func46, Try.ntmps46
  go_wp2
  go_loopg [1] (r p + 1) (fun gh iv wr => wr = w ∧ ((iv = .int .i64 (-1) ∧ Hid (B = false)) ∨ ∃ x : Nat, iv = .int .i64 x ∧ x < n ∧ r x < gh ∧ Hid (decide (Dom.Up t x o) = B)))
  case atStart => exact ⟨rfl, .inr ⟨p, rfl, hp, Nat.lt_succ_self _, HB⟩⟩
  case round =>
    obtain ⟨rfl, ⟨rfl, hb⟩ | ⟨x, rfl, hx, hm, hb⟩⟩ := hrel
    · obtain ⟨M, hM⟩ : ∃ M : Int, M = -1 := ⟨_, rfl⟩
      have z2 : decide ((0 : Int) ≤ M) = false := decide_eq_false (by omega)
      have z3 : ¬ (0 : Int) ≤ M := by omega
      rw [← hM]
      clear hM
      go_wp2
      go_ret
      exact ⟨by rw [hb.out]; rfl, rfl⟩
    · by_cases e : x = o
      · subst e
        have e1 : ((x : Int) == (x : Int)) = true := by simp
        have : B = true := by rw [← hb.out]; exact decide_eq_true (.refl x)
        subst this
        go_wp2
        go_ret
        exact ⟨rfl, rfl⟩
      · have e1 : ((x : Int) == (o : Int)) = false := by simp; omega
        obtain ⟨aa, an, ac, ka, kn, kc, X⟩ := HH.out.at_ x _ (node_get (by have := HN.out; omega))
        have x6 := X.c6
        change wr.cell? ⟨g, x * 8 + 6, none⟩ = some (.int .i64 (Dom.parAt t x)) at x6
        clear X
        have z1 : ((x : Int)).toNat = x := by omega
        have z2 : decide ((0 : Int) ≤ (x : Int)) = true := by simp
        have z3 : (x : Int) < (n : Int) := by omega
        by_cases q1 : Dom.parAt t x = -1
        · rw [q1] at x6
          go_wp2
          go_roundg (0 : Nat)
          case measure => omega
          case rel => exact ⟨rfl, .inl ⟨rfl, hid (by rw [← hb.out]; exact decide_eq_false (Up_stop q1 e))⟩⟩
        · obtain ⟨q, q2, q3, _⟩ := (HG.out.par x).resolve_left q1
          have q4 := HR.out x q q3
          rw [q3] at x6
          go_wp2
          go_roundg (r q + 1)
          case measure => omega
          case rel =>
            refine ⟨rfl, .inr ⟨q, rfl, by have := HN.out; omega, Nat.lt_succ_self _, hid ?_⟩⟩
            rw [← hb.out]
            congr 1
            exact propext ⟨fun g => .step q3 g, fun g => (g.tail q3).resolve_left e⟩
end Go.Proofs.Ythbklcpjbeelhaa
namespace Go.Proofs.Ythbklcpjbeelhaa
open Go.RowKit Go.Lib
set_option maxRecDepth 100000
set_option linter.unusedVariables false

theorem place_step {K : Int} {l : List Nat} {j x : Nat} (h : l[j]? = some x) : Dom.placeF K j (l.drop j) = if (x : Int) = K then (j : Int) else Dom.placeF K (j + 1) (l.drop (j + 1)) := by
  obtain ⟨hj, e⟩ := List.getElem?_eq_some_iff.1 h
  rw [List.drop_eq_getElem_cons hj, e]
  rfl
set_option maxHeartbeats 4000000 in
theorem rplace_any (w : World) (R g cap : Nat) (t : Dom.T) (p : Nat) (K : Int) (h : TreeR w R g cap t) (hp : p < t.length) (hk : (Dom.kidsAt t p).length ≤ 1000000) :
    Calls Try.prog 47 #[.pointer (some ⟨R, 0, none⟩), .int .i64 p, .int .i64 K] w fun e w' => e = .returned (.int .i64 (Dom.placeL (Dom.kidsAt t p) K)) ∧ w' = w := by
  have h1 := h.top
  obtain ⟨aa, an, ac, ka, kn, kc, X⟩ := h.at_ p _ (node_get hp)
  have x7 := X.c7
  have hZ := X.kids
  change IsZ w ka kn (Dom.kidsAt t p) at hZ
  have hle := X.kle
  obtain ⟨l, hl⟩ : ∃ l, Dom.kidsAt t p = l := ⟨_, rfl⟩
  rw [hl] at hZ hk ⊢
  obtain ⟨n, hn⟩ : ∃ n, List.length t = n := ⟨_, rfl⟩
  have h2 := h.few
  rw [hn] at h1 h2 hp
  clear X h hl hn
  have z1 : ((p : Int)).toNat = p := by omega
  have z3 : (p : Int) < (n : Int) := by omega
  have hkn := hZ.1
  by_cases k1 : K = -1
  · subst k1
    have hR : Dom.placeL l (-1) = (kn : Int) := by unfold Dom.placeL; rw [if_pos rfl, hkn]
    rw [hR]
    clear hR hZ
    go_enter Try.func47, Try.ntmps47
    go_wp2
    go_ret
    exact ⟨rfl, rfl⟩
  · have e1 : (K == -1) = false := by simp; exact k1
    obtain ⟨P, hP⟩ : ∃ P, Dom.placeL l K = P := ⟨_, rfl⟩
    rw [hP]
    have HP := hid (show Dom.placeF K 0 (l.drop 0) = P by rw [← hP]; unfold Dom.placeL; rw [if_neg k1]; rfl)
    have HZ := hid hZ
    clear hP hZ
    go_enter Try.func47, Try.ntmps47
    go_wp2
    go_loopg [8] kn (fun gh iv wr => wr = w ∧ ∃ j : Nat, j + gh = kn ∧ iv = .int .i64 j ∧ Hid (Dom.placeF K j (l.drop j) = P))
    case atStart => exact ⟨rfl, 0, by omega, rfl, HP⟩
    case round =>
      obtain ⟨rfl, j, hj, rfl, hb⟩ := hrel
      by_cases hlt : j < kn
      · have d1 : decide (j < kn) = true := decide_eq_true hlt
        have hltI : (j : Int) < (kn : Int) := by omega
        obtain ⟨_, z0 | ⟨b, off, rfl, hat⟩⟩ := HZ.out
        · omega
        obtain ⟨x, hx⟩ : ∃ x, l[j]? = some x := ⟨_, List.getElem?_eq_getElem (by omega)⟩
        have y1 := hat j x hx
        have hs := hid (place_step (K := K) hx)
        have z4 : ((j : Int)).toNat = j := by omega
        clear hat hx
        by_cases e : (x : Int) = K
        · have e2 : ((x : Int) == K) = true := by simp; exact e
          have hE : P = (j : Int) := by rw [← hb.out, hs.out, if_pos e]
          subst hE
          clear hb hs
          go_wp2
          go_ret
          exact ⟨rfl, rfl⟩
        · have e2 : ((x : Int) == K) = false := by simp; exact e
          have hE := hid (show Dom.placeF K (j + 1) (l.drop (j + 1)) = P by rw [← hb.out, hs.out, if_neg e])
          clear hb hs
          go_wp2
          go_roundg (kn - (j + 1))
          case measure => omega
          case rel => exact ⟨rfl, j + 1, by omega, by go_num, hE⟩
      · have d1 : decide (j < kn) = false := decide_eq_false hlt
        have hltI : ¬ (j : Int) < (kn : Int) := by omega
        have hE : P = -1 := by rw [← hb.out, List.drop_eq_nil_of_le (by omega)]; rfl
        subst hE
        clear hb
        go_wp2
        go_ret
        exact ⟨rfl, rfl⟩
end Go.Proofs.Ythbklcpjbeelhaa
namespace Go.Proofs.Ythbklcpjbeelhaa
open Go.RowKit Go.Lib
set_option maxRecDepth 100000
set_option linter.unusedVariables false

def zL (l : List Nat) : List Value := l.map fun (x : Nat) => Value.int .i64 (x : Nat)
theorem zL_get (l : List Nat) (i : Nat) : (zL l)[i]? = l[i]?.map fun (x : Nat) => Value.int .i64 (x : Nat) := by rw [zL, List.getElem?_map]
theorem zL_len (l : List Nat) : (zL l).length = l.length := by rw [zL, List.length_map]
theorem zL_append (a b : List Nat) : zL (a ++ b) = zL a ++ zL b := by rw [zL, List.map_append]; rfl
theorem zL_one (l : List Nat) : ∀ u ∈ zL l, u.oneCell' = true := by
  intro u hu
  simp only [zL, List.mem_map] at hu
  obtain ⟨b, _, rfl⟩ := hu
  rfl
theorem info_int : (Try.prog.info? 3).map (fun i => (i.zero, i.size, i.bytes)) = some (some (.int .i64 0), 1, 8) := by kernel_rfl
theorem isZ_cells {w : World} {ad : Addr} {n : Nat} {l : List Nat} (h : IsZ w (some ad) n l) : ∀ j u, (zL l)[j]? = some u → w.cell? (ad.add j) = some u := by
  intro j u hj
  rw [zL_get] at hj
  rcases h.2 with h0 | ⟨b', o', e, hat⟩
  · have hl : l = [] := List.length_eq_zero_iff.1 (by rw [h.1, h0])
    subst hl
    cases hj
  · obtain rfl := Option.some.inj e
    rw [Option.map_eq_some_iff] at hj
    obtain ⟨x, hx, rfl⟩ := hj
    rw [addr_add]
    exact hat j x hx
theorem own_isZ {w : World} {base : Nat} {v : Value} {l : List Nat} (h : w.ownsRow base 3 1 v l.length (zL l)) :
    ∃ a cap, v = .slice a l.length cap ∧ IsZ w a l.length l ∧ l.length ≤ cap ∧ cap ≤ maxLen ∧ (∀ x, a = some x → base ≤ x.block) ∧ (a = none → cap = 0) := by
  obtain ⟨_, ⟨rfl, h0⟩ | ⟨g, cap, cur, rfl, hb, hg, hn, hc, hcs, ht⟩⟩ := h
  · exact ⟨none, 0, by rw [h0], ⟨rfl, .inl h0⟩, by omega, by unfold maxLen; omega, (fun x e => by cases e), fun _ => rfl⟩
  · refine ⟨_, cap, rfl, ⟨rfl, .inr ⟨g, 0, rfl, fun i x hi => ?_⟩⟩, hn, hc, (fun x e => by cases e; exact hb), (fun e => by cases e)⟩
    have hlt : i < l.length := (List.getElem?_eq_some_iff.1 hi).1
    have h1 : (zL l)[i]? = some (.int .i64 (x : Nat)) := by rw [zL_get, hi]; rfl
    rw [← ht, Nat.mul_one, List.getElem?_take_of_lt hlt] at h1
    simp only [World.cell?, Nat.zero_add, hg]
    simpa using h1
/-- 'append(own, x...)', own the call's own row of numbers, x whatever came in. -/
theorem append_Z {w : World} {ops : Array Oper} {rest : List Oper} {o : Oper} {a : Act} {Q : Exit → Act → World → Prop} (hgd : o.guard = none) (s x : Operand)
    (ho : o.op = .call { callee := .builtin .append, args := #[s, x], argTypes := #[48, 48] })
    (base : Nat) (v : Value) (acc : List Nat) (hs : a.eval s = v) (hown : w.ownsRow base 3 1 v acc.length (zL acc))
    (ad : Option Addr) (m c : Nat) (new : List Nat) (hx : a.eval x = .slice ad m c) (hS : IsZ w ad m new) (hn : ad = none → c = 0)
    (hlen : acc.length + m ≤ 8589934592) (hbase : base ≤ w.heap.size)
    (h : ∀ v' w', w'.ownsRow base 3 1 v' (acc ++ new).length (zL (acc ++ new)) → w.grownBy w' v.ownBlock → wpList Try.prog ops Q rest (a.put o.dst v') w') : wpList Try.prog ops Q (o :: rest) a w := by
  obtain ⟨i0, hi, hz0, hz1, hz2⟩ := info_parts info_int
  cases ad with
  | none =>
    have hc := hn rfl
    subst hc
    have hm : m = 0 := hS.2.elim id fun ⟨b, off, e, _⟩ => by cases e
    subst hm
    have hnew : new = [] := List.length_eq_zero_iff.1 hS.1
    subst hnew
    refine wpList_append_own_none hgd s x 48 ho base 3 i0 1 Try.underlying48 hi v acc.length (zL acc) hs hown hx (h v w ?_ (World.grownBy.refl _ _))
    rw [List.append_nil]
    exact hown
  | some ad =>
    have hcl := isZ_cells hS
    refine wpList_append_own w hgd s x 48 ho base 3 i0 (.int .i64 0) 1 8 Try.underlying48 hi hz0 hz1 hz2 rfl (by decide) v acc.length (zL acc) hs hown ad m c (zL new) hx (by rw [zL_len, hS.1]; omega) hcl (zL_one new) (by unfold maxLen; omega) (by omega) hbase ?_
    intro v' w' h1 h2 _
    refine h v' w' ?_ h2
    rw [List.length_append, zL_append, hS.1]
    exact h1
/-- A new list of numbers. -/
def NewZ (w w' : World) (e : Ending) (l : List Nat) : Prop := ∃ a c, e = .returned (.slice a l.length c) ∧ IsZ w' a l.length l ∧ (∀ x, a = some x → w.heap.size ≤ x.block) ∧ (a = none → c = 0)
set_option maxHeartbeats 4000000 in
theorem rkids_any (w : World) (R g cap : Nat) (t : Dom.T) (i : Int) (h : TreeR w R g cap t) (hk : ∀ j, (Dom.kidsAt t j).length ≤ 1000000) :
    Calls Try.prog 53 #[.pointer (some ⟨R, 0, none⟩), .int .i64 i] w fun e w' => NewZ w w' e (Dom.kidsT t i) ∧ Below w.heap.size w w' := by
  have h1 := h.top
  have h2 := h.few
  have HT := hid (there_any w R g cap t i h)
  unfold Dom.kidsT
  by_cases g1 : Dom.there t i
  · rw [if_pos g1]
    have hR : decide (Dom.there t i) = true := decide_eq_true g1
    rw [hR] at HT
    obtain ⟨i1, i2⟩ := g1
    obtain ⟨aa, an, ac, ka, kn, kc, X⟩ := h.at_ i.toNat _ (node_get (by omega))
    have hnil := X.knil
    have hkl := hk i.toNat
    have x7 := X.c7
    have hZ := X.kids
    change IsZ w ka kn (Dom.kidsAt t i.toNat) at hZ
    obtain ⟨l, hl⟩ : ∃ l, Dom.kidsAt t i.toNat = l := ⟨_, rfl⟩
    rw [hl] at hZ hkl ⊢
    obtain ⟨n, hn⟩ : ∃ n, List.length t = n := ⟨_, rfl⟩
    rw [hn] at h1 h2 i2
    have hkn := hZ.1
    have HZ := hid hZ
    have HN := hid hnil
    clear X h hn hR hl hk hZ hnil
    have hlt : i.toNat < n := by omega
    go_enter Try.func53, Try.ntmps53
    go_wp2_with fail
    refine (HT.out).mono ?_
    rintro e w1 ⟨rfl, rfl⟩
    go_wp2_with (at_builtin; refine append_Z rfl _ _ rfl w1.heap.size _ [] rfl (World.ownsRow_nil _ _ _ _) ka kn kc l rfl HZ.out HN.out (by simp; omega) (Nat.le_refl _) ?_)
    intro v' w' hown hgr
    have hb : Below w1.heap.size w1 w' := (Below.refl _ w1).grown hgr (Nat.le_refl _) (fun k e => by simp [Value.ownBlock] at e)
    rw [← hkn] at hown
    obtain ⟨a', cap', hv, hI, _, _, hge, hx⟩ := own_isZ hown
    have hR := hid (show (∃ a c, v' = .slice a l.length c ∧ IsZ w' a l.length l ∧ (∀ x, a = some x → w1.heap.size ≤ x.block) ∧ (a = none → c = 0)) ∧ Below w1.heap.size w1 w' from ⟨⟨a', cap', hv, hI, hge, hx⟩, hb⟩)
    clear hown hgr hb hv hI hge hx
    go_wp2
    go_ret
    obtain ⟨⟨a', c', h1, h2, h3, h4⟩, h5⟩ := hR.out
    exact ⟨⟨a', c', by rw [h1]; first | done | rfl, h2, h3, h4⟩, h5⟩
  · rw [if_neg g1]
    have hR : decide (Dom.there t i) = false := decide_eq_false g1
    rw [hR] at HT
    clear h hk
    go_enter Try.func53, Try.ntmps53
    go_wp2_with fail
    refine (HT.out).mono ?_
    rintro e w1 ⟨rfl, rfl⟩
    go_wp2
    go_ret
    exact ⟨⟨none, 0, rfl, ⟨rfl, .inl rfl⟩, (fun x e => (by cases e)), fun _ => rfl⟩, Below.refl _ _⟩
end Go.Proofs.Ythbklcpjbeelhaa
