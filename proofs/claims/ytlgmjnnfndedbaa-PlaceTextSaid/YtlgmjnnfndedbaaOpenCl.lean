/- Walks over slices.Index and slices.Contains of texts, as Go's own text has them; whether an element is one of some names, by the program. Plain Lean: the last element of which something holds; what package open says by it. Walks over the program's package open: the closures that stop its walks. -/
import Derived.Test.YtlgmjnnfndedbaaOpenIn
import Derived.Test.YtlgmjnnfndedbaaMarkM
namespace Go.Proofs.Ytlgmjnnfndedbaa
open Go.RowKit Go.Lib
set_option maxRecDepth 100000
set_option linter.unusedVariables false
set_option maxHeartbeats 2000000 in
theorem pindex_any (a : Option Addr) (len cap : Nat) (ls : List (List UInt8)) (x : List UInt8) (w : World) (h : IsS w a len ls) (hs : len ≤ 4294967296) (hlc : len ≤ cap) (hcm : cap ≤ 9223372036854775807) :
    Calls Try.prog 97 #[.slice a len cap, .string (bs x)] w fun e w' => (∃ r : Int, e = .returned (.int .i64 r) ∧ decide (0 ≤ r) = ls.contains x) ∧ w = w' := by
  have HH := hid h
  obtain ⟨X, hX⟩ : ∃ X, bs x = X := ⟨_, rfl⟩
  obtain ⟨c, hc⟩ : ∃ c, ls.contains x = c := ⟨_, rfl⟩
  rw [hX, hc]
  have HX := hid hX
  have HC := hid hc
  clear h hX hc
  go_enter Try.func97, Try.ntmps97
  go_wp2
  go_loopg [8] len (fun g iv wr => ∃ k : Nat, k + g = len ∧ iv = .int .i64 k ∧ Hid ((ls.take k).contains x = false) ∧ w = wr)
  case atStart => exact ⟨0, by omega, rfl, hid rfl, rfl⟩
  case round =>
    obtain ⟨k, hk, rfl, hI, rfl⟩ := hrel
    by_cases hlt : k < len
    · have d1 : decide (k < len) = true := decide_eq_true hlt
      have hltI : (k : Int) < (len : Int) := by omega
      obtain ⟨hll, h0 | ⟨blk, off, rfl, hat⟩⟩ := HH.out
      · omega
      have hkl : k < ls.length := by omega
      obtain ⟨l, hl⟩ : ∃ l, ls[k]? = some l := ⟨_, List.getElem?_eq_getElem hkl⟩
      have hcell : w.cell? ⟨blk, off + k, none⟩ = some (.string (bs l)) := hat k _ hl
      by_cases hp : l = x
      · have HR := hid (show c = true from HC.out.symm.trans <| List.contains_iff_mem.2 (by rw [← hp]; exact List.mem_of_getElem? hl))
        have he : (X.toList == (bs l).toList) = true := by rw [hp, HX.out]; exact beq_iff_eq.2 rfl
        generalize bs l = L at *
        clear hp hl hat hll hI
        go_wp2
        go_ret
        exact ⟨⟨_, rfl, by rw [HR.out]; exact decide_eq_true (by omega)⟩, rfl⟩
      · have he : (X.toList == (bs l).toList) = false := beq_eq_false_iff_ne.2 fun e => hp (bs_inj (HX.out ▸ e.symm))
        have HN := hid (os_next hI.out hl hp)
        generalize bs l = L at *
        clear hp hl hat hll hI
        go_wp2
        go_roundg (len - (k + 1))
        case measure => omega
        case rel => exact ⟨k + 1, by omega, by go_num, HN, rfl⟩
    · have d1 : decide (k < len) = false := decide_eq_false hlt
      have hltI : ¬ (k : Int) < (len : Int) := by omega
      have HR := hid (show c = false by rw [← HC.out, ← hI.out, List.take_of_length_le (by rw [HH.out.1]; omega)])
      clear hI
      go_wp2
      go_ret
      exact ⟨⟨_, rfl, by rw [HR.out]; rfl⟩, rfl⟩
theorem pcontains_any (a : Option Addr) (len cap : Nat) (ls : List (List UInt8)) (x : List UInt8) (w : World) (h : IsS w a len ls) (hs : len ≤ 4294967296) (hlc : len ≤ cap) (hcm : cap ≤ 9223372036854775807) :
    Calls Try.prog 93 #[.slice a len cap, .string (bs x)] w fun e w' => e = .returned (.bool (ls.contains x)) ∧ w = w' := by
  have HI := hid (pindex_any a len cap ls x w h hs hlc hcm)
  generalize bs x = X at *
  generalize ls.contains x = c at *
  clear h
  go_enter Try.func93, Try.ntmps93
  go_wp2_with fail
  refine HI.out.mono ?_
  rintro e w2 ⟨⟨r, rfl, hr⟩, rfl⟩
  clear HI
  go_wp2
  go_ret
  exact ⟨rfl, rfl⟩
set_option maxHeartbeats 2000000 in
theorem pone_any (i : Int) (sp pt : Nat) (nm : List UInt8) (a : Option Addr) (len cap : Nat) (ns : List (List UInt8)) (w : World) (h : IsS w a len ns) (hs : len ≤ 4294967296) (hlc : len ≤ cap) (hcm : cap ≤ 9223372036854775807) :
    Calls Try.prog 84 #[.agg #[.int .i64 i, .int .u8 sp, .string (bs nm), .int .u8 pt], .slice a len cap] w fun e w' => e = .returned (.bool (Opn.oneB ⟨i, sp, nm, pt⟩ ns)) ∧ Below w.heap.size w w' := by
  have HI := hid fun W (hb : Below w.heap.size w W) => pcontains_any a len cap ns nm W (h.below hb) hs hlc hcm
  obtain ⟨c, hc⟩ : ∃ c, ns.contains nm = c := ⟨_, rfl⟩
  have HR := hid (show Opn.oneB ⟨i, sp, nm, pt⟩ ns = (decide (sp = 0) && c) by rw [← hc]; rfl)
  rw [hc] at HI
  generalize Opn.oneB ⟨i, sp, nm, pt⟩ ns = R at *
  generalize bs nm = X at *
  clear h hc
  by_cases h0 : sp = 0
  · subst h0
    have al := hid ((Below.refl w.heap.size w).alloc (Nat.le_refl _) (.cells #[.int .i64 i, .int .u8 0, .string X, .int .u8 pt] 36))
    go_enter Try.func84, Try.ntmps84
    go_wp2_with fail
    refine (HI.out _ al.out).mono ?_
    rintro e w2 ⟨rfl, rfl⟩
    go_wp2
    go_ret
    exact ⟨ret_bool' (by rw [HR.out]; simp), al.out⟩
  · have d1 : decide (sp = 0) = false := decide_eq_false h0
    have al := hid ((Below.refl w.heap.size w).alloc (Nat.le_refl _) (.cells #[.int .i64 i, .int .u8 sp, .string X, .int .u8 pt] 36))
    go_enter Try.func84, Try.ntmps84
    go_wp2
    go_ret
    exact ⟨ret_bool' (by rw [HR.out, d1]; rfl), al.out⟩
end Go.Proofs.Ytlgmjnnfndedbaa
namespace Go.Proofs.Ytlgmjnnfndedbaa.Opn
open Go.Lib
set_option maxRecDepth 100000
set_option linter.unusedVariables false

/-- The place of the last of the first n elements of which it holds; -1: there is none. -/
def lastI (st : E → Bool) (l : List E) : Nat → Int
  | 0 => -1
  | n + 1 => match l[n]? with
    | none => -1
    | some x => if st x then (n : Int) else lastI st l n
theorem lastI_step {st : E → Bool} {l : List E} {n : Nat} {x : E} (hx : l[n]? = some x) : lastI st l (n + 1) = if st x then (n : Int) else lastI st l n := by simp [lastI, hx]
theorem lastI_is (st : E → Bool) (l : List E) : ∀ n, lastI st l n = -1 ∨ ∃ (k : Nat) (x : E), lastI st l n = k ∧ k < n ∧ l[k]? = some x ∧ st x = true
  | 0 => .inl rfl
  | n + 1 => by
    cases hx : l[n]? with
    | none => exact .inl (by simp [lastI, hx])
    | some x =>
      rw [lastI_step hx]
      by_cases hs : st x = true
      · rw [if_pos hs]
        exact .inr ⟨n, x, rfl, Nat.lt_succ_self _, hx, hs⟩
      · rw [if_neg hs]
        exact (lastI_is st l n).imp id fun ⟨k, y, h1, h2, h3⟩ => ⟨k, y, h1, Nat.lt_succ_of_lt h2, h3⟩
theorem until_last (l : List E) (ns : List (List UInt8)) : ∀ n, untilI l ns n = lastI (fun x => oneB x ns) l n
  | 0 => rfl
  | n + 1 => by
    cases hx : l[n]? with
    | none => simp [untilI, lastI, hx]
    | some x => rw [lastI_step hx, untilI_step hx, until_last l ns n]
/-- What stops In. -/
def inS (sc : Nat) (ns : List (List UInt8)) (x : E) : Bool := oneB x ns || boundB x sc
end Go.Proofs.Ytlgmjnnfndedbaa.Opn
namespace Go.Proofs.Ytlgmjnnfndedbaa
open Go.RowKit Go.Lib
set_option maxRecDepth 100000
set_option linter.unusedVariables false
/-- How it lies in memory that names came in. -/
structure NamesIn (b : Option Addr) (bn bc : Nat) (ns : List (List UInt8)) (w : World) : Prop where
  isS : IsS w b bn ns
  few : bn ≤ 4294967296
  cap : bn ≤ bc
  cap2 : bc ≤ 9223372036854775807
theorem NamesIn.below {b : Option Addr} {bn bc : Nat} {ns : List (List UInt8)} {w w' : World} (h : NamesIn b bn bc ns w) (hb : Below w.heap.size w w') : NamesIn b bn bc ns w' := ⟨h.isS.below hb, h.few, h.cap, h.cap2⟩
/-- oneOf, of an element whole. -/
theorem pone_e (x : Opn.E) {b : Option Addr} {bn bc : Nat} {ns : List (List UInt8)} {w : World} (h : NamesIn b bn bc ns w) :
    Calls Try.prog 84 #[.agg #[.int .i64 x.id, .int .u8 x.space, .string (bs x.name), .int .u8 x.point], .slice b bn bc] w fun e w' => e = .returned (.bool (Opn.oneB x ns)) ∧ Below w.heap.size w w' :=
  pone_any x.id x.space x.point x.name b bn bc ns w h.isS h.few h.cap h.cap2
set_option maxHeartbeats 4000000 in
theorem cl_until (x : Opn.E) (pn : Addr) (b : Option Addr) (bn bc : Nat) (ns : List (List UInt8)) (w : World) (hn : w.cell? pn = some (.slice b bn bc)) (g : NamesIn b bn bc ns w) :
    Calls Try.prog 83 #[.agg #[.int .i64 x.id, .int .u8 x.space, .string (bs x.name), .int .u8 x.point], .pointer (some pn)] w fun e w' => e = .returned (.bool (Opn.oneB x ns)) ∧ Below w.heap.size w w' := by
  have al := (Below.refl w.heap.size w).alloc (Nat.le_refl _) (.cells #[.int .i64 x.id, .int .u8 x.space, .string (bs x.name), .int .u8 x.point] 36)
  have HO := hid (pone_e x (g.below al))
  have n1 := cell_up hn al
  have HA := hid al
  clear al hn g
  go_enter Try.func83, Try.ntmps83
  go_wp2_with fail
  refine HO.out.mono ?_
  rintro e w2 ⟨rfl, b2⟩
  have B2 := hid (HA.out.trans (b2.mono HA.out.size))
  clear HO n1 b2
  go_wp2
  go_ret
  exact ⟨rfl, B2.out⟩
end Go.Proofs.Ytlgmjnnfndedbaa
