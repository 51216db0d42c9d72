/- Laws on lists of texts that the call itself made; and whether two such lists are alike. -/
import Derived.Test.YtjliphkpmpcjaaaDoorUnl
namespace Go.Proofs.YtjliphkpmpcjaaaDoor
open Go.RowKit Go.Lib
set_option maxRecDepth 100000
set_option linter.unusedVariables false

def strsL (ls : List (List UInt8)) : List Value := ls.map fun l => Value.string ⟨l.toArray⟩
theorem strsL_len (ls : List (List UInt8)) : (strsL ls).length = ls.length := by simp [strsL]
theorem strsL_append (a b : List (List UInt8)) : strsL (a ++ b) = strsL a ++ strsL b := by simp [strsL]
theorem strsL_get (ls : List (List UInt8)) (j : Nat) : (strsL ls)[j]? = (ls[j]?).map fun l => Value.string ⟨l.toArray⟩ := by simp [strsL]

theorem info_str : (Tryd.prog.info? 9).map (fun i => (i.zero, i.size, i.bytes)) = some (some (.string ⟨#[]⟩), 1, 16) := by kernel_rfl

/-- 'append(out, line)', out the call's own, line just laid in a block of its own. -/
theorem append_str {w : World} {ops : Array Oper} {rest : List Oper} {o : Oper} {a : Act} {Q : Exit → Act → World → Prop} (hgd : o.guard = none) (s x : Operand)
    (ho : o.op = .call { callee := .builtin .append, args := #[s, x], argTypes := #[30, 30] })
    (base : Nat) (v : Value) (acc : List (List UInt8)) (hs : a.eval s = v) (hown : w.ownsRow base 9 1 v acc.length (strsL acc))
    (ad : Addr) (new : List UInt8) (hx : a.eval x = .slice (some ad) 1 1) (hnew : w.cell? ad = some (.string ⟨new.toArray⟩))
    (hlen : acc.length + 1 ≤ 8589934592) (hbase : base ≤ w.heap.size)
    (h : ∀ v' w', w'.ownsRow base 9 1 v' (acc ++ [new]).length (strsL (acc ++ [new])) → w.grownBy w' v.ownBlock → wpList Tryd.prog ops Q rest (a.put o.dst v') w') : wpList Tryd.prog ops Q (o :: rest) a w := by
  obtain ⟨i0, hi, hz0, hz1, hz2⟩ := info_parts info_str
  refine wpList_append_own w hgd s x 30 ho base 9 i0 (.string ⟨#[]⟩) 1 16 Tryd.underlying30 hi hz0 hz1 hz2 rfl (by decide) v acc.length (strsL acc) hs hown ad 1 1 (strsL [new]) hx rfl ?_ ?_ (by unfold maxLen; omega) (by omega) hbase ?_
  · intro j u hj
    match j, hj with
    | 0, hj =>
      simp [strsL] at hj
      subst hj
      have : ad.add 0 = ad := by obtain ⟨b, off, sp⟩ := ad; unfold Addr.add; cases sp <;> simp
      rw [this, hnew]
    | j + 1, hj => simp [strsL] at hj
  · intro u hu
    simp [strsL] at hu
    subst hu
    rfl
  · intro v' w' h1 h2 _
    refine h v' w' ?_ h2
    rw [List.length_append, strsL_append]
    exact h1

/-- A list of texts. -/
def IsS (w : World) (a : Option Addr) (len : Nat) (ls : List (List UInt8)) : Prop :=
  ls.length = len ∧ (len = 0 ∨ ∃ b off, a = some ⟨b, off, none⟩ ∧ ∀ i l, ls[i]? = some l → w.cell? ⟨b, off + i, none⟩ = some (.string ⟨l.toArray⟩))
theorem own_isS {w : World} {base : Nat} {v : Value} {ls : List (List UInt8)} (h : w.ownsRow base 9 1 v ls.length (strsL ls)) :
    ∃ a cap, v = .slice a ls.length cap ∧ IsS w a ls.length ls ∧ ls.length ≤ cap ∧ cap ≤ maxLen := by
  obtain ⟨_, ⟨rfl, h0⟩ | ⟨g, cap, cur, rfl, hb, hg, hn, hc, hcs, ht⟩⟩ := h
  · exact ⟨none, 0, by rw [h0], ⟨rfl, .inl h0⟩, by omega, by unfold maxLen; omega⟩
  · refine ⟨_, cap, rfl, ⟨rfl, .inr ⟨g, 0, rfl, fun i l hi => ?_⟩⟩, hn, hc⟩
    have hlt : i < ls.length := (List.getElem?_eq_some_iff.1 hi).1
    have h1 : (strsL ls)[i]? = some (.string ⟨l.toArray⟩) := by rw [strsL_get, hi]; rfl
    rw [← ht, Nat.mul_one, List.getElem?_take_of_lt hlt] at h1
    simp only [World.cell?, Nat.zero_add, hg]
    simpa using h1
theorem IsS.below {w w' : World} {a : Option Addr} {len : Nat} {ls : List (List UInt8)} (h : IsS w a len ls) (hb : Below w.heap.size w w') : IsS w' a len ls := by
  refine ⟨h.1, h.2.elim .inl fun ⟨b, off, e, hat⟩ => .inr ⟨b, off, e, fun i l hi => ?_⟩⟩
  have h1 := hat i l hi
  have hlt : b < w.heap.size := by
    rcases Nat.lt_or_ge b w.heap.size with h' | h'
    · exact h'
    · simp [World.cell?, Array.getElem?_eq_none h'] at h1
  exact (hb.cell (p := ⟨b, off + i, none⟩) hlt).trans h1

set_option maxHeartbeats 1000000 in
theorem sameStrings_any (a a2 : Option Addr) (len len2 cap cap2 : Nat) (ls ls2 : List (List UInt8)) (w : World) (h : IsS w a len ls) (h2 : IsS w a2 len2 ls2) (hc : len ≤ cap) (hc2 : len2 ≤ cap2) (hm : cap ≤ 9223372036854775807) (hm2 : cap2 ≤ 9223372036854775807) :
    Calls Tryd.prog 18 #[.slice a len cap, .slice a2 len2 cap2] w fun e w' => e = .returned (.bool (ls == ls2)) ∧ Below w.heap.size w w' := by
  obtain ⟨hl, hor⟩ := h
  obtain ⟨hl2, hor2⟩ := h2
  by_cases hne : len = len2
  case neg =>
    have hX : (ls == ls2) = false := by
      rw [beq_eq_false_iff_ne]
      intro e
      subst e
      omega
    rw [hX]
    have t0 : ((len : Int) != (len2 : Int)) = true := by rw [bne_iff_ne]; omega
    clear hX hor hor2 hl hl2 hne
    go_enter Tryd.func18, Tryd.ntmps18
    go_wp2
    go_ret
    exact ⟨rfl, Below.refl _ _⟩
  subst hne
  obtain ⟨R, hR⟩ : ∃ R, (ls == ls2) = R := ⟨_, rfl⟩
  rw [hR]
  have HR := hid hR; have HO := hid hor; have HO2 := hid hor2; have HL := hid hl; have HL2 := hid hl2
  have t0 : ((len : Int) != (len : Int)) = false := by simp
  clear hR hor hor2 hl hl2
  go_enter Tryd.func18, Tryd.ntmps18
  go_wp2
  go_loopw [5] (fun i wr => ∃ k : Nat, i = .int .i64 k ∧ k ≤ len ∧ Below w.heap.size w wr ∧ Hid (ls.take k = ls2.take k)) (fun i _ => len - (RowKit.intOf i).toNat)
  case atStart => exact ⟨0, rfl, by omega, Below.refl _ _, hid (by simp)⟩
  case round =>
    obtain ⟨k, rfl, hk, hbw, hE⟩ := hrel
    by_cases hlt : k < len
    · obtain ⟨b, off, rfl, hat⟩ := HO.out.elim (fun h => absurd h (by omega)) id
      obtain ⟨b2, off2, rfl, hat2⟩ := HO2.out.elim (fun h => absurd h (by omega)) id
      have hk1 : k < ls.length := by rw [HL.out]; exact hlt
      have hk2 : k < ls2.length := by rw [HL2.out]; exact hlt
      have hblt : ∀ {b o : Nat} {v : Value}, w.cell? ⟨b, o, none⟩ = some v → b < w.heap.size := fun {b o v} hc => by
        rcases Nat.lt_or_ge b w.heap.size with h' | h'
        · exact h'
        · simp [World.cell?, Array.getElem?_eq_none h'] at hc
      have q1 := hat k _ (List.getElem?_eq_getElem hk1)
      have q2 := hat2 k _ (List.getElem?_eq_getElem hk2)
      have c1 := (hbw.cell (p := ⟨b, off + k, none⟩) (hblt q1)).trans q1
      have c2 := (hbw.cell (p := ⟨b2, off2 + k, none⟩) (hblt q2)).trans q2
      obtain ⟨x, hx⟩ : ∃ x, ls[k] = x := ⟨_, rfl⟩
      obtain ⟨y, hy⟩ : ∃ y, ls2[k] = y := ⟨_, rfl⟩
      rw [hx] at c1
      rw [hy] at c2
      have HX := hid (show ls[k]? = some x by rw [List.getElem?_eq_getElem hk1, hx])
      have HY := hid (show ls2[k]? = some y by rw [List.getElem?_eq_getElem hk2, hy])
      have hltI : (k : Int) < (len : Int) := by omega
      clear hat hat2 q1 q2 hx hy hk1 hk2 hblt HO HO2
      by_cases hxy : x = y
      · have t1 : (!(x == y)) = false := by rw [hxy]; simp
        have hE2 := hid (show ls.take (k + 1) = ls2.take (k + 1) by rw [List.take_add_one, List.take_add_one, hE.out, HX.out, HY.out, hxy])
        clear hxy
        go_wp2
        go_quiet (fail)
        go_wp2
        go_roundw
        case rel => exact ⟨k + 1, by go_num, by omega, bel_drewN hbw _, hE2⟩
        case measure => simp [RowKit.intOf]; omega
      · have t1 : (!(x == y)) = true := by simp [hxy]
        have HN := hid (show R = false by
          rw [← HR.out, beq_eq_false_iff_ne]
          intro e
          have h1 := HX.out
          rw [e, HY.out] at h1
          exact hxy (Option.some.inj h1).symm)
        clear hxy
        go_wp2
        go_quiet (fail)
        go_wp2
        go_ret
        exact ⟨ret_bool' HN.out.symm, bel_drewN hbw _⟩
    · have HY := hid (show R = true by
        have h1 := hE.out
        rw [List.take_of_length_le (by have := HL.out; omega), List.take_of_length_le (by have := HL2.out; omega)] at h1
        rw [← HR.out, h1]; simp)
      go_wp2
      go_ret
      exact ⟨ret_bool' HY.out.symm, hbw⟩
end Go.Proofs.YtjliphkpmpcjaaaDoor
