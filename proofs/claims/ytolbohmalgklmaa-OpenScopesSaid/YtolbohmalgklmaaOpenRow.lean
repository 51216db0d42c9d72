/- A row of elements that the call itself has made; the statements' row. Written by tools/gen_openkn.py. -/
import Derived.Test.YtolbohmalgklmaaOpenArg
namespace Go.Proofs.Ytolbohmalgklmaa
open Go.RowKit Go.Lib
set_option maxRecDepth 100000
set_option linter.unusedVariables false
def eL (l : List Opn.E) : List Value := l.flatMap fun x => [.int .i64 x.id, .int .u8 x.space, .string (bs x.name), .int .u8 x.point]
theorem eL_cons (x : Opn.E) (t : List Opn.E) : eL (x :: t) = [.int .i64 x.id, .int .u8 x.space, .string (bs x.name), .int .u8 x.point] ++ eL t := rfl
theorem eL_append (a b : List Opn.E) : eL (a ++ b) = eL a ++ eL b := by simp [eL]
theorem eL_len : ∀ (l : List Opn.E), (eL l).length = l.length * 4
  | [] => rfl
  | x :: t => by
    rw [eL_cons, List.length_append, eL_len t, List.length_cons]
    show 4 + t.length * 4 = (t.length + 1) * 4
    omega
theorem eL_get : ∀ (l : List Opn.E) (i : Nat) (x : Opn.E), l[i]? = some x → (eL l)[i * 4]? = some (.int .i64 x.id) ∧ (eL l)[i * 4 + 1]? = some (.int .u8 x.space) ∧ (eL l)[i * 4 + 2]? = some (.string (bs x.name)) ∧ (eL l)[i * 4 + 3]? = some (.int .u8 x.point)
  | [], i, x, h => by cases h
  | y :: t, 0, x, h => by
    simp at h
    subst h
    exact ⟨rfl, rfl, rfl, rfl⟩
  | y :: t, i + 1, x, h => by
    obtain ⟨h0, h1, h2, h3⟩ := eL_get t i x (by simpa using h)
    have e : eL (y :: t) = .int .i64 y.id :: .int .u8 y.space :: .string (bs y.name) :: .int .u8 y.point :: eL t := rfl
    rw [e, show (i + 1) * 4 = i * 4 + 4 by omega]
    exact ⟨by simpa using h0, by rw [show i * 4 + 4 + 1 = i * 4 + 1 + 4 by omega]; simpa using h1, by rw [show i * 4 + 4 + 2 = i * 4 + 2 + 4 by omega]; simpa using h2, by rw [show i * 4 + 4 + 3 = i * 4 + 3 + 4 by omega]; simpa using h3⟩
theorem info_open : (Try.prog.info? 37).map (fun i => (i.zero, i.size, i.bytes)) = some (some (.agg #[.int .i64 0, .int .u8 0, .string ⟨#[]⟩, .int .u8 0]), 4, 40) := by kernel_rfl
theorem own_isE {w : World} {base : Nat} {v : Value} {l : List Opn.E} (h : w.ownsRow base 37 4 v l.length (eL l)) :
    ∃ a cap, v = .slice a l.length cap ∧ IsE w a l.length l ∧ l.length ≤ cap ∧ cap ≤ maxLen := by
  obtain ⟨_, ⟨rfl, h0⟩ | ⟨g, cap, cur, rfl, hb, hg, hn, hc, hcs, ht⟩⟩ := h
  · exact ⟨none, 0, by rw [h0], ⟨rfl, .inl h0⟩, by omega, by unfold maxLen; omega⟩
  · refine ⟨_, cap, rfl, ⟨rfl, .inr ⟨g, 0, rfl, fun i x hi => ?_⟩⟩, hn, hc⟩
    have hlt : i < l.length := (List.getElem?_eq_some_iff.1 hi).1
    obtain ⟨h0, h1, h2, h3⟩ := eL_get l i x hi
    rw [← ht, List.getElem?_take_of_lt (by omega)] at h0 h1 h2 h3
    simp only [World.cell?, Nat.zero_add, hg]
    exact ⟨by simpa using h0, by simpa using h1, by simpa using h2, by simpa using h3⟩
/-- 'append(own, x)', own the call's own row of elements, x just laid in a block of its own. -/
theorem append_e {w : World} {ops : Array Oper} {rest : List Oper} {o : Oper} {a : Act} {Q : Exit → Act → World → Prop} (hgd : o.guard = none) (s y : Operand)
    (ho : o.op = .call { callee := .builtin .append, args := #[s, y], argTypes := #[22, 22] })
    (base : Nat) (v : Value) (acc : List Opn.E) (hs : a.eval s = v) (hown : w.ownsRow base 37 4 v acc.length (eL acc))
    (g c : Nat) (x : Opn.E) (hx : a.eval y = .slice (some ⟨g, 0, none⟩) 1 c) (hnew : BlkW w g #[.int .i64 x.id, .int .u8 x.space, .string (bs x.name), .int .u8 x.point] 37)
    (hlen : acc.length + 1 ≤ 4294967296) (hbase : base ≤ w.heap.size)
    (h : ∀ v' w', w'.ownsRow base 37 4 v' (acc ++ [x]).length (eL (acc ++ [x])) → w.grownBy w' v.ownBlock → wpList Try.prog ops Q rest (a.put o.dst v') w') : wpList Try.prog ops Q (o :: rest) a w := by
  obtain ⟨i0, hi, hz0, hz1, hz2⟩ := info_parts info_open
  refine wpList_append_own w hgd s y 22 ho base 37 i0 (.agg #[.int .i64 0, .int .u8 0, .string ⟨#[]⟩, .int .u8 0]) 4 40 Try.underlying22 hi hz0 hz1 hz2 rfl (by decide) v acc.length (eL acc) hs hown ⟨g, 0, none⟩ 1 c (eL [x]) hx rfl ?_ ?_ (by unfold maxLen; omega) (by omega) hbase ?_
  · intro j u hj
    rw [addr_add, Nat.zero_add, hnew.cell]
    rw [show eL [x] = [.int .i64 x.id, .int .u8 x.space, .string (bs x.name), .int .u8 x.point] from rfl] at hj
    simpa using hj
  · intro u hu
    rw [show eL [x] = [.int .i64 x.id, .int .u8 x.space, .string (bs x.name), .int .u8 x.point] from rfl] at hu
    simp at hu
    rcases hu with rfl | rfl | rfl | rfl <;> rfl
  · intro v' w' h1 h2 _
    refine h v' w' ?_ h2
    rw [List.length_append, eL_append]
    exact h1
/-- The first k names, as open elements of HTML. -/
def rowK (ns : List (List UInt8)) : Nat → List Opn.E
  | 0 => []
  | k + 1 => rowK ns k ++ [⟨k, 0, ns.getD k [], 0⟩]
theorem rowK_len (ns : List (List UInt8)) : ∀ k, (rowK ns k).length = k
  | 0 => rfl
  | k + 1 => by rw [rowK, List.length_append, rowK_len ns k]; rfl
theorem rowK_sp (ns : List (List UInt8)) : ∀ k, ∀ x ∈ rowK ns k, x.space < 256
  | 0, x, h => by cases h
  | k + 1, x, h => by
    rcases List.mem_append.1 h with h | h
    · exact rowK_sp ns k x h
    · rw [List.mem_singleton.1 h]; exact Nat.zero_lt_succ 255
theorem row_len {w : World} {base : Nat} {e : TypeId} {v : Value} {l : List Opn.E} {n : Nat} (hn : l.length = n) (h : w.ownsRow base e 4 v n (eL l)) : w.ownsRow base e 4 v l.length (eL l) := by rw [hn]; exact h
set_option maxHeartbeats 8000000 in
theorem row_any (b : Option Addr) (bn bc : Nat) (ns : List (List UInt8)) (w : World) (g : NamesIn b bn bc ns w) (hbn : bn ≤ 3000) :
    Calls Try.prog 24 #[.slice b bn bc] w fun e w' => (∃ a cap, e = .returned (.slice a bn cap) ∧ ElemsIn a bn cap (rowK ns bn) w') ∧ Below w.heap.size w w' := by
  have GG := hid g
  clear g
  go_enter Try.func24, Try.ntmps24
  go_wp2
  go_loopw [3, 4] (fun v vi wr => ∃ (k : Nat), vi = .int .i64 k ∧ k ≤ bn ∧ wr.ownsRow w.heap.size 37 4 v (rowK ns k).length (eL (rowK ns k)) ∧ Below w.heap.size w wr) (fun _ vi _ => bn - (RowKit.intOf vi).toNat)
  case atStart => exact ⟨0, rfl, Nat.zero_le _, World.ownsRow_nil _ _ _ _, Below.refl _ _⟩
  case round =>
    obtain ⟨k, rfl, hk, hown, hb⟩ := hrel
    by_cases hlt : k < bn
    · have d1 : decide (k < bn) = true := decide_eq_true hlt
      have hltI : (k : Int) < (bn : Int) := by omega
      obtain ⟨hll, z0 | ⟨blk, off, rfl, hat⟩⟩ := (GG.out.below hb).isS
      · omega
      obtain ⟨x, hx⟩ : ∃ x, ns[k]? = some x := ⟨_, List.getElem?_eq_getElem (by omega)⟩
      have hcell : wr.cell? ⟨blk, off + k, none⟩ = some (.string (bs x)) := hat k x hx
      have hgd : ns.getD k [] = x := by rw [List.getD_eq_getElem?_getD, hx]; rfl
      have HNW := hid (BlkW.new wr #[.int .i64 (k : Nat), .int .u8 (0 : Nat), .string (bs x), .int .u8 (0 : Nat)] 37)
      have HOW := hid (hown.alloc (.cells #[.int .i64 (k : Nat), .int .u8 (0 : Nat), .string (bs x), .int .u8 (0 : Nat)] 37))
      have hle := rowK_len ns k
      have hbs := hb.size
      have HK := hid (show rowK ns (k + 1) = rowK ns k ++ [⟨k, 0, x, 0⟩] by rw [rowK, hgd])
      have HBB := hid (hb.alloc hb.size (.cells #[.int .i64 (k : Nat), .int .u8 (0 : Nat), .string (bs x), .int .u8 (0 : Nat)] 37))
      clear hat hx hgd hown hb
      go_wp2_with (at_builtin; refine append_e rfl _ _ rfl w.heap.size _ (rowK ns k) rfl HOW.out wr.heap.size _ ⟨k, 0, x, 0⟩ rfl HNW.out (by omega) (by simp; omega) ?_)
      intro v' w' o1 g1
      have BB := hid (HBB.out.grown g1 (by simp; omega) (own_ge HOW.out))
      rw [← HK.out] at o1
      have HO1 := hid o1
      clear o1 g1 HOW HNW HBB HK
      go_wp2
      go_roundw
      case rel => exact ⟨k + 1, by go_num, by omega, row_len (rowK_len ns (k + 1)) HO1.out, BB.out⟩
      case measure => simp [RowKit.intOf]; omega
    · have d1 : decide (k < bn) = false := decide_eq_false hlt
      have hltI : ¬ (k : Int) < (bn : Int) := by omega
      obtain rfl : k = bn := by omega
      obtain ⟨a, cap, rfl, hE, hc1, hc2⟩ := own_isE hown
      rw [rowK_len] at hE hc1
      have HR := hid (show ElemsIn a k cap (rowK ns k) wr from ⟨hE, by omega, hc1, by unfold maxLen at hc2; omega, rowK_sp ns k⟩)
      have HB := hid hb
      clear hE hown hb hc1 hc2
      go_wp2
      go_ret
      exact ⟨⟨a, cap, by rw [rowK_len]; rfl, HR.out⟩, HB.out⟩
end Go.Proofs.Ytolbohmalgklmaa
