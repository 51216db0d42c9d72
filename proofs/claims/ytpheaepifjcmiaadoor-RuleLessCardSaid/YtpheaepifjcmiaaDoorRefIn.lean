/- Walks over the reference of layer 5: whether a text is in a list, the names that are known. -/
import Derived.Test.YtpheaepifjcmiaaDoorAllow
import Derived.Test.YtpheaepifjcmiaaDoorRule
namespace Go.Proofs.YtpheaepifjcmiaaDoor
open Go.RowKit Go.Lib Rule
set_option maxRecDepth 100000
set_option linter.unusedVariables false

/-- A row of texts that lies whole in a block. -/
theorem isS_of_cells {W : World} {g : Nat} {ls : List (List UInt8)} {C : Array Value} {t : TypeId} {fr : Nat × Nat} {n : Nat} (hn : ls.length = n) (h : W.heap[g]? = some (.cells C t fr)) (hC : C.toList = strsL ls) : IsS W (some ⟨g, 0, none⟩) n ls := by
  refine ⟨hn, .inr ⟨g, 0, rfl, fun i l hi => ?_⟩⟩
  have h1 : C[i]? = some (.string ⟨l.toArray⟩) := by rw [← Array.getElem?_toList, hC, strsL_get, hi]; rfl
  rw [Nat.zero_add]
  simp only [World.cell?, h]
  simpa using h1
def pairL (ls : List (List UInt8 × List UInt8)) : List Value := ls.flatMap fun x => [Value.string (bs x.1), Value.string (bs x.2)]
theorem pairL_get : ∀ (ls : List (List UInt8 × List UInt8)) (i : Nat) (x : List UInt8 × List UInt8), ls[i]? = some x → (pairL ls)[i * 2]? = some (.string (bs x.1)) ∧ (pairL ls)[i * 2 + 1]? = some (.string (bs x.2))
  | [], i, x, h => by simp at h
  | y :: t, 0, x, h => by
    simp at h
    subst h
    exact ⟨rfl, rfl⟩
  | y :: t, i + 1, x, h => by
    have h1 := pairL_get t i x (by simpa using h)
    have e : pairL (y :: t) = Value.string (bs y.1) :: Value.string (bs y.2) :: pairL t := rfl
    rw [e, show (i + 1) * 2 = i * 2 + 2 by omega]
    exact ⟨by simpa using h1.1, by simpa using h1.2⟩
theorem pairL_len (ls : List (List UInt8 × List UInt8)) : (pairL ls).length = ls.length * 2 := by
  induction ls with
  | nil => rfl
  | cons a t ih =>
    have e : pairL (a :: t) = Value.string (bs a.1) :: Value.string (bs a.2) :: pairL t := rfl
    rw [e, List.length_cons, List.length_cons, List.length_cons, ih]; omega
theorem pairL_append (a b : List (List UInt8 × List UInt8)) : pairL (a ++ b) = pairL a ++ pairL b := by simp [pairL]
theorem isA_of_cells {W : World} {g : Nat} {ls : List (List UInt8 × List UInt8)} {C : Array Value} {t : TypeId} {fr : Nat × Nat} {n : Nat} (hn : ls.length = n) (h : W.heap[g]? = some (.cells C t fr)) (hC : C.toList = pairL ls) : IsA W (some ⟨g, 0, none⟩) n ls := by
  refine ⟨hn, .inr ⟨g, 0, rfl, fun i x hi => ?_⟩⟩
  obtain ⟨h1, h2⟩ := pairL_get ls i x hi
  rw [← hC, Array.getElem?_toList] at h1 h2
  rw [Nat.zero_add]
  simp only [World.cell?, h]
  exact ⟨by simpa using h1, by simpa using h2⟩
theorem s_next {ls : List (List UInt8)} {k : Nat} {z v : List UInt8} (h : (ls.take k).contains v = false) (hz : ls[k]? = some z) (hne : z ≠ v) : (ls.take (k + 1)).contains v = false := by
  rw [List.take_add_one, hz]
  cases hc : (ls.take k ++ [z]).contains v with
  | false => exact hc
  | true =>
    rcases List.mem_append.1 (List.contains_iff_mem.1 hc) with h1 | h1
    · rw [List.contains_iff_mem.2 h1] at h; cases h
    · exact absurd (List.mem_singleton.1 h1).symm hne
set_option maxHeartbeats 1000000 in
theorem in_any (a : Option Addr) (len cap : Nat) (ls : List (List UInt8)) (x : List UInt8) (w : World) (h : IsS w a len ls) (hs : len ≤ 4294967296) (hlc : len ≤ cap) (hcm : cap ≤ 9223372036854775807) :
    Calls Tryd.prog 26 #[.slice a len cap, .string (bs x)] w fun e w' => e = .returned (.bool (ls.contains x)) ∧ w = w' := by
  have HH := hid h
  obtain ⟨X, hX⟩ : ∃ X, bs x = X := ⟨_, rfl⟩
  obtain ⟨c, hc⟩ : ∃ c, ls.contains x = c := ⟨_, rfl⟩
  rw [hX, hc]
  have HX := hid hX
  have HC := hid hc
  clear h hX hc
  go_enter Tryd.func26, Tryd.ntmps26
  go_wp2
  go_loopg [5] len (fun g iv wr => ∃ k : Nat, k + g = len ∧ iv = .int .i64 k ∧ Hid ((ls.take k).contains x = false) ∧ w = wr)
  case atStart => exact ⟨0, by omega, rfl, hid rfl, rfl⟩
  case round =>
    obtain ⟨k, hk, rfl, hI, rfl⟩ := hrel
    by_cases hlt : k < len
    · have d1 : decide (k < len) = true := decide_eq_true hlt
      have hltI : (k : Int) < (len : Int) := by omega
      obtain ⟨hll, h0 | ⟨blk, off, rfl, hat⟩⟩ := HH.out
      · omega
      have hkl : k < ls.length := by omega
      obtain ⟨l, hl⟩ : ∃ l, ls[k]? = some l := ⟨_, List.getElem?_eq_getElem hkl⟩
      have hcell : w.cell? ⟨blk, off + k, none⟩ = some (.string (bs l)) := hat k _ hl
      by_cases hp : l = x
      · have HR := hid (show c = true from HC.out.symm.trans <| List.contains_iff_mem.2 (by rw [← hp]; exact List.mem_of_getElem? hl))
        have he : ((bs l).toList == X.toList) = true := by rw [hp, HX.out]; exact beq_iff_eq.2 rfl
        generalize bs l = L at *
        clear hp hl hat hll hI
        go_wp2
        go_ret
        exact ⟨ret_bool' HR.out.symm, rfl⟩
      · have he : ((bs l).toList == X.toList) = false := beq_eq_false_iff_ne.2 fun e => hp (bs_inj (HX.out ▸ e))
        have HN := hid (s_next hI.out hl hp)
        generalize bs l = L at *
        clear hp hl hat hll hI
        go_wp2
        go_roundg (len - (k + 1))
        case measure => omega
        case rel => exact ⟨k + 1, by omega, by go_num, HN, rfl⟩
    · have d1 : decide (k < len) = false := decide_eq_false hlt
      have hltI : ¬ (k : Int) < (len : Int) := by omega
      have HR := hid (show c = false by rw [← HC.out, ← hI.out, List.take_of_length_le (by rw [HH.out.1]; omega)])
      clear hI
      go_wp2
      go_ret
      exact ⟨ret_bool' HR.out.symm, rfl⟩
/-- A new row of texts, and the world that has it. -/
def NewS (ls : List (List UInt8)) (n : Nat) (w : World) (e : Ending) (w' : World) : Prop := ∃ a, e = .returned (.slice (some a) n n) ∧ IsS w' (some a) n ls ∧ Below w.heap.size w w'
theorem relements_any (w : World) : Calls Tryd.prog 36 #[] w (NewS names 46 w) := by
  go_enter Tryd.func36, Tryd.ntmps36
  go_wp2
  go_ret
  exact ⟨_, rfl, isS_of_cells rfl (heap_alloc_new w _) rfl, (Below.refl _ _).alloc (Nat.le_refl _) _⟩
theorem rattrs_any (w : World) : Calls Tryd.prog 27 #[] w (NewS attrN 14 w) := by
  go_enter Tryd.func27, Tryd.ntmps27
  go_wp2
  go_ret
  exact ⟨_, rfl, isS_of_cells rfl (heap_alloc_new w _) rfl, (Below.refl _ _).alloc (Nat.le_refl _) _⟩
theorem rknown_any (x : List UInt8) (w : World) :
    Calls Tryd.prog 25 #[.string (bs x)] w fun e w' => e = .returned (.bool (knownB x)) ∧ Below w.heap.size w w' := by
  have HE := hid (relements_any w)
  have HI := fun (a : Addr) W (h : IsS W (some a) 46 names) => in_any (some a) 46 46 names x W h (by omega) (by omega) (by omega)
  rw [show names.contains x = knownB x from rfl] at HI
  generalize bs x = X at *
  generalize knownB x = c at *
  have HI := hid HI
  go_enter Tryd.func25, Tryd.ntmps25
  go_wp2_with fail
  refine HE.out.mono ?_
  rintro e w1 ⟨a, rfl, h1, b1⟩
  have h1 := hid h1
  go_wp2_with fail
  refine (HI.out _ _ h1.out).mono ?_
  rintro e w2 ⟨rfl, rfl⟩
  go_wp2
  go_ret
  exact ⟨rfl, b1⟩
end Go.Proofs.YtpheaepifjcmiaaDoor
