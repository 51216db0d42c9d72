/- A list of bytes that came in, as the walks take it. -/
import Derived.Test.YtpheaepifjcmiaaDoorOwn
import Derived.ProofKit
import Derived.OpenShut
import Derived.ShutString
import Derived.ChangeOld
import Derived.Laws.AppendOwnNone
namespace Go.Proofs.YtpheaepifjcmiaaDoor
open Go.ChangeShapes Go.WideShapes Go.ChangeAt Go.RowKit Go.Lib
set_option linter.unusedVariables false

theorem isB_of_ints {W : World} {x : Addr} {len cap : Nat} {zs : List Int} (hl : len ≤ cap) (hz : zs.length = cap) (hcell : ∀ i, i < zs.length → W.cell? (x.add i) = some (.int .u8 (zs.getD i 0))) (hwz : ∀ n ∈ zs, (Lit.int .u8 n).wf = true) :
    IsB W (some x) len ((zs.take len).map fun z => UInt8.ofNat z.toNat) := by
  refine ⟨by simp; omega, ?_⟩
  by_cases h0 : len = 0
  · exact .inl h0
  · right
    obtain ⟨b, off, spot⟩ := x
    have hc := hcell 0 (by omega)
    have hspot : spot = none := by simpa [Addr.add] using World.cell?_spot hc
    subst hspot
    refine ⟨b, off, rfl, fun i hi => ?_⟩
    have hi' : i < len := by simp at hi; omega
    have h1 := hcell i (by omega)
    rw [addr_add] at h1
    rw [h1]
    have h2 : ((zs.take len).map fun z => UInt8.ofNat z.toNat)[i]? = some (UInt8.ofNat (zs.getD i 0).toNat) := by
      rw [List.getElem?_map, List.getElem?_take_of_lt hi', List.getD_eq_getElem?_getD, List.getElem?_eq_getElem (by omega)]
      rfl
    rw [U8.B_eq h2]
    have hb := bounds_u8 (hwz (zs.getD i 0) (by rw [List.getD_eq_getElem?_getD, List.getElem?_eq_getElem (by omega)]; exact List.getElem_mem _))
    have h3 : ((UInt8.ofNat (zs.getD i 0).toNat).toNat : Int) = zs.getD i 0 := by
      rw [UInt8.toNat_ofNat']
      omega
    rw [h3]

/-- 'append(own, b...)', own nil, b whatever came in. -/
theorem append_in {w : World} {ops : Array Oper} {rest : List Oper} {o : Oper} {a : Act} {Q : Exit → Act → World → Prop} (hgd : o.guard = none) (s x : Operand)
    (ho : o.op = .call { callee := .builtin .append, args := #[s, x], argTypes := #[71, 71] })
    (base : Nat) (v : Value) (acc : List UInt8) (hs : a.eval s = v) (hown : w.ownsRow base 5 1 v acc.length (byteCells acc))
    (ad : Option Addr) (m c : Nat) (new : List UInt8) (hx : a.eval x = .slice ad m c) (hB : IsB w ad m new) (hn : ad = none → c = 0)
    (hlen : acc.length + m ≤ 140737488355328) (hbase : base ≤ w.heap.size)
    (h : ∀ v' w', w'.ownsRow base 5 1 v' (acc ++ new).length (byteCells (acc ++ new)) → w.grownBy w' v.ownBlock → wpList Tryd.prog ops Q rest (a.put o.dst v') w') : wpList Tryd.prog ops Q (o :: rest) a w := by
  cases ad with
  | none =>
    have hc := hn rfl
    subst hc
    have hm : m = 0 := hB.2.elim id fun ⟨b, off, e, _⟩ => by cases e
    subst hm
    have hnew : new = [] := List.length_eq_zero_iff.1 hB.1
    subst hnew
    obtain ⟨i0, hi, hz0, hz1, hz2⟩ := info_parts info_u8
    refine wpList_append_own_none hgd s x 71 ho base 5 i0 1 Tryd.underlying71 hi v acc.length (byteCells acc) hs hown hx (h v w ?_ (World.grownBy.refl _ _))
    rw [List.append_nil]
    exact hown
  | some ad =>
    refine append_bytes hgd s x ho base v acc hs hown ad m c new hx hB.1 (fun j hj => ?_) hlen hbase h
    rcases hB.2 with h0 | ⟨b, off, e, hat⟩
    · have := hB.1; omega
    · obtain rfl := Option.some.inj e
      rw [addr_add]
      exact hat j hj
end Go.Proofs.YtpheaepifjcmiaaDoor
