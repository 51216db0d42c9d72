/- Plain Lean: what statement PlaceText builds: text stays in order. Walks over package tympanlaw13: text, all texts of nodes in order. -/
import Derived.Test.YtlgmjnnfndedbaaPlaceTx
import Derived.Test.YtlgmjnnfndedbaaNodeM
import Derived.Test.YtlgmjnnfndedbaaMarkM
import Derived.Deep.LoopGhost
namespace Go.Proofs.Ytlgmjnnfndedbaa.Plc
open Go.Lib Dom
set_option maxRecDepth 100000
set_option linter.unusedVariables false
def pth (s : St) (i : Nat) : Nat := (opAt s i).id.toNat
/-- All that was written is what stands there. -/
structure TI (s : St) (want : List UInt8) : Prop where
  ok : Ok s
  fo : s.fo = false
  path : PathP s.t (pth s) s.op.length
  txt : ∀ f, s.t.length ≤ 300 → 400 ≤ f → tw f s.t 0 = want
theorem PathP.congr {t : T} {p q : Nat → Nat} {n : Nat} (h : PathP t p n) (hq : ∀ i, i < n → q i = p i) : PathP t q n :=
  ⟨h.pos, by rw [hq 0 h.pos]; exact h.root, fun i hi => by rw [hq i (by omega), hq (i + 1) hi]; exact h.last i hi⟩
theorem ti_new : TI new [] := ⟨ok_new, rfl, ⟨by decide, rfl, fun i hi => by have : new.op.length = 1 := rfl; omega⟩, fun f _ hf => by
  obtain ⟨f, rfl⟩ : ∃ k, f = k + 1 := ⟨f - 1, by omega⟩
  rfl⟩
section
variable {s : St} {want : List UInt8}
theorem TI.cur (h : TI s want) : (cur s).id = ((pth s (s.op.length - 1) : Nat) : Int) ∧ holds s.t ((pth s (s.op.length - 1) : Nat) : Int) ∧ whereP s (Plc.cur s) = (((pth s (s.op.length - 1) : Nat) : Int), -1) := by
  have h1 := h.ok.cur
  have e : (Plc.cur s).id = ((pth s (s.op.length - 1) : Nat) : Int) := (Int.toNat_of_nonneg h1.1.1).symm
  refine ⟨e, e ▸ h1, ?_⟩
  unfold whereP
  rw [if_neg (fun q => by rw [h.fo] at q; cases q.1), e]
theorem TI.turn (h : TI s want) {u : T} {x : List UInt8} (hB : Behind s.t u (pth s (s.op.length - 1)) x) (f : Nat) (hf : 400 ≤ f) (hl : s.t.length ≤ 300) : tw f u 0 = want ++ x := by
  have h1 := h.ok.few
  have h2 := h.ok.pos
  have g := tw_behind h.path h.ok.good hB (f - s.op.length) (s.op.length - 1) 0 (by omega)
  rw [show f - s.op.length + (s.op.length - 1) + 1 = f by omega, h.path.root, h.txt f hl hf] at g
  exact g
theorem TI.ins (h : TI s want) (nm : List UInt8) : TI (Plc.ins s 0 nm []) want := by
  obtain ⟨hc1, hc2, hc3⟩ := h.cur
  obtain ⟨u, hu, hul, hk, hn, hx⟩ := app_new h.ok.good hc2 (elemN 0 nm []) ⟨Nat.le_refl _, by show 1 ≤ 3; omega⟩
  have e : Plc.ins s 0 nm [] = { s with t := u, op := s.op ++ [⟨(s.t.length : Int), 0, nm, pointN 0 nm []⟩], hi := max s.hi (s.op.length + 1) } := by
    unfold Plc.ins
    simp only [make_elem, hc3, hu]
  have hB := behind_new h.ok.good (by have := hc2.1.2; omega) hk hn hx
  rw [if_neg (show ¬ (elemN 0 nm []).kind = 2 by show ¬ 1 = 2; omega)] at hB
  have hO := h.ok.ins (space := 0) (by omega) nm []
  rw [e] at hO ⊢
  refine ⟨hO, h.fo, ?_, fun f hl hf => ?_⟩
  · show PathP u _ (s.op ++ [_]).length
    rw [List.length_append]
    refine h.path.snoc h.ok.good hk (fun i hi => ?_) ?_
    · unfold pth opAt
      simp only [List.getD_eq_getElem?_getD]
      rw [List.getElem?_append_left hi]
    · unfold pth opAt
      simp only [List.getD_eq_getElem?_getD]
      rw [List.getElem?_append_right (Nat.le_refl _), Nat.sub_self]
      simp
  · have := h.turn hB f hf (by have : u.length ≤ 300 := hl; omega)
    rw [List.append_nil] at this
    exact this
theorem TI.close1 (h : TI s want) : TI (Plc.close s ((s.op.length : Int) - 1)) want := by
  unfold Plc.close
  split
  · rename_i q
    have hO := h.ok.close ((s.op.length : Int) - 1)
    unfold Plc.close at hO
    rw [if_pos q] at hO
    refine ⟨hO, h.fo, ?_, h.txt⟩
    show PathP s.t _ (s.op.take _).length
    rw [List.length_take]
    refine (h.path.less (m := min ((s.op.length : Int) - 1).toNat s.op.length) (by omega) (by omega)).congr fun i hi => ?_
    unfold pth opAt
    simp only [List.getD_eq_getElem?_getD]
    rw [List.getElem?_take_of_lt (by omega)]
  · exact h
theorem TI.write (h : TI s want) (x : List UInt8) : TI (Plc.write s x) (want ++ x) := by
  obtain ⟨hc1, hc2, hc3⟩ := h.cur
  have hO := h.ok.write x
  obtain ⟨c, hc⟩ : ∃ c, pth s (s.op.length - 1) = c := ⟨_, rfl⟩
  rw [hc] at hc1 hc2 hc3
  have hclt : c < s.t.length := by have := hc2.1.2; omega
  have hpl : placeL (kidsAt s.t c) (-1) = ((kidsAt s.t c).length : Int) := by unfold placeL; rw [if_pos rfl]
  have e : Plc.write s x = { s with t := (writeT s.t (c : Int) (-1) x).1 } := by unfold Plc.write; rw [hc3]
  have hpl2 : ¬ placeL (kidsAt s.t c) (-1) < 0 := by rw [hpl]; omega
  rw [e] at hO ⊢
  by_cases hx0 : x = []
  · have e2 : (writeT s.t (c : Int) (-1) x).1 = s.t := by
      unfold writeT
      split
      · rfl
      · first | rfl | rw [if_pos hx0]
    rw [e2, hx0, List.append_nil]
    exact h
  · have hcase : writeT s.t (c : Int) (-1) x = if h : 0 < (kidsAt s.t c).length ∧ kindAt s.t ((kidsAt s.t c).getD ((kidsAt s.t c).length - 1) 0) = 2 then (upd s.t ((kidsAt s.t c).getD ((kidsAt s.t c).length - 1) 0) fun y => addText y x, true) else putT (s.t ++ [⟨bareP (.mk 2 0 [] [] x []), -1, []⟩]) (c : Int) (-1) s.t.length := by
      unfold writeT
      rw [show ((c : Int)).toNat = c by omega, if_neg (fun q => q.elim (fun q => q hc2) hpl2), if_neg hx0, hpl]
      rfl
    by_cases hk : 0 < (kidsAt s.t c).length ∧ kindAt s.t ((kidsAt s.t c).getD ((kidsAt s.t c).length - 1) 0) = 2
    · rw [dif_pos hk] at hcase
      obtain ⟨l, hl⟩ : ∃ l, (kidsAt s.t c).getD ((kidsAt s.t c).length - 1) 0 = l := ⟨_, rfl⟩
      rw [hl] at hcase hk
      have hL : kidsAt s.t c = (kidsAt s.t c).dropLast ++ [l] := by
        have hne : kidsAt s.t c ≠ [] := List.length_pos_iff.1 hk.1
        rw [← hl, List.getD_eq_getElem?_getD, ← List.getLast?_eq_getElem?, List.getLast?_eq_some_getLast hne]
        exact (List.dropLast_concat_getLast hne).symm
      have hlm : l ∈ kidsAt s.t c := by rw [hL]; simp
      have hlt := (h.ok.good.kid c l hlm).1
      rw [hcase] at hO ⊢
      have hat : ∀ j, nodeAt (upd s.t l fun y => addText y x) j = if j = l then addText (nodeAt s.t l) x else nodeAt s.t j := upd_at s.t l _ hlt
      have hkk : ∀ j, kidsAt (upd s.t l fun y => addText y x) j = kidsAt s.t j := fun j => by
        unfold kidsAt
        rw [hat]
        split
        · rename_i q; rw [q]; rfl
        · rfl
      have hB : Behind s.t (upd s.t l fun y => addText y x) c x := ⟨fun j _ _ => hkk j, .inr ⟨l, hkk c, ⟨_, hL⟩, hk.2, by
        unfold ownT kindAt
        rw [hat, if_pos rfl]
        have h2 : (nodeAt s.t l).nd.kind = 2 := hk.2
        show (if (addText (nodeAt s.t l) x).nd.kind = 2 then _ else _) = _
        rw [if_pos (show (addText (nodeAt s.t l) x).nd.kind = 2 from h2), if_pos h2]
        rfl, fun j _ hj => own_of (by rw [hat, if_neg hj])⟩⟩
      refine ⟨hO, h.fo, ?_, fun f hl2 hf => h.turn (by rw [hc]; exact hB) f hf (by have : (upd s.t l fun y => addText y x).length ≤ 300 := hl2; rw [upd_len] at this; exact this)⟩
      exact h.path.same h.ok.good (fun j _ => hkk j)
    · rw [dif_neg hk] at hcase
      obtain ⟨u, hu, hul, hkk, hn, hx⟩ := app_new h.ok.good hc2 (bareP (.mk 2 0 [] [] x [])) ⟨by rw [bareP_kind]; show 1 ≤ 2; omega, by rw [bareP_kind]; show 2 ≤ 3; omega⟩
      rw [hcase, hu] at hO ⊢
      have hB := behind_new h.ok.good hclt hkk hn hx
      rw [if_pos (show (bareP (.mk 2 0 [] [] x [])).kind = 2 from by rw [bareP_kind]; rfl)] at hB
      have hB : Behind s.t u c x := hB
      refine ⟨hO, h.fo, ?_, fun f hl2 hf => h.turn (by rw [hc]; exact hB) f hf (by have : u.length ≤ 300 := hl2; omega)⟩
      exact h.path.same h.ok.good (fun j hj => by rw [hkk, if_neg (fun q => hj (by rw [q, hc]))])
end
end Go.Proofs.Ytlgmjnnfndedbaa.Plc
namespace Go.Proofs.Ytlgmjnnfndedbaa
open Go.RowKit Go.Lib
set_option maxRecDepth 100000
set_option linter.unusedVariables false
/-- All texts of nodes, in order. -/
def txtF : Nat → List Dom.N → List UInt8
  | 0, _ => []
  | d + 1, ns => ns.flatMap fun x => (if x.kind = 2 then x.text else []) ++ txtF d x.kids
theorem tt_cat (a b : List UInt8) : bs a ++ bs b = bs (a ++ b) := by
  apply ByteArray.ext
  simp [bs, ByteArray.data_append]
theorem txt_len : ∀ d ns, (txtF d ns).length ≤ 8 * Dom.sumW d ns
  | 0, _ => Nat.zero_le _
  | d + 1, ns => by
    have key : ∀ l : List Dom.N, (l.flatMap fun x => (if x.kind = 2 then x.text else []) ++ txtF d x.kids).length ≤ 8 * Dom.sumL (fun x => (1 + x.text.length / 8 + x.name.length / 8) + Dom.sumA x.atts + Dom.sumW d x.kids) l := by
      intro l
      induction l with
      | nil => exact Nat.zero_le _
      | cons x r ih =>
        rw [List.flatMap_cons, List.length_append, List.length_append]
        have h1 := txt_len d x.kids
        have h2 : (if x.kind = 2 then x.text else []).length ≤ x.text.length := by split <;> simp
        show _ ≤ 8 * (((1 + x.text.length / 8 + x.name.length / 8) + Dom.sumA x.atts + Dom.sumW d x.kids) + Dom.sumL _ r)
        omega
    exact key ns
/-- The same, of a tree. -/
theorem txt_whole (t : Dom.T) : ∀ f i, txtF f (Dom.wholeF f t i) = Plc.tw f t i
  | 0, i => rfl
  | f + 1, i => by
    show ((Dom.kidsAt t i).map fun k => Dom.withKids (Dom.bareP (Dom.nodeAt t k).nd) (Dom.wholeF f t k)).flatMap _ = (Dom.kidsAt t i).flatMap _
    rw [List.flatMap_map]
    refine Plc.flat_same fun k _ => ?_
    have h1 : (Dom.withKids (Dom.bareP (Dom.nodeAt t k).nd) (Dom.wholeF f t k)).kids = Dom.wholeF f t k := rfl
    rw [h1, txt_whole t f k]
    congr 1
    unfold Plc.ownT Dom.kindAt Dom.bareP
    by_cases hk : (Dom.nodeAt t k).nd.kind = 1
    · rw [if_pos hk, if_neg (show ¬ (Dom.nodeAt t k).nd.kind = 2 by omega)]
      exact if_neg (by show ¬ (Dom.nodeAt t k).nd.kind = 2; omega)
    · rw [if_neg hk]
      rfl
def TxtG (d : Nat) : Prop := ∀ (S : Nat → Prop) (ns : List Dom.N) (a : Option Addr) (n c : Nat) (w : World), IsN S d w a n ns → Dom.sumW d ns ≤ 500000000 →
  Calls Try.prog 25 #[.slice a n c] w fun e w' => e = .returned (.string (bs (txtF d ns))) ∧ Below w.heap.size w w'
set_option maxHeartbeats 2000000 in
theorem txtG_zero : TxtG 0 := by
  intro S ns a n c w h hw
  obtain ⟨rfl, rfl⟩ := h
  clear hw
  go_enter Try.func25, Try.ntmps25
  go_wp2
  go_loopg [3, 4] 0 (fun g sv iv wr => sv = .string ⟨#[]⟩ ∧ iv = .int .i64 0 ∧ wr = w)
  case atStart => exact ⟨rfl, rfl, rfl⟩
  case round =>
    obtain ⟨rfl, rfl, rfl⟩ := hrel
    go_wp2
    go_ret
    exact ⟨rfl, Below.refl _ _⟩
set_option maxHeartbeats 8000000 in
theorem txtG_succ (d : Nat) (IH : TxtG d) : TxtG (d + 1) := by
  intro S ns a n c w h hw
  have HH := hid h
  have HW := hid hw
  have hlen := h.len
  have hn : n ≤ 1000000000 := by have := Dom.sumW_len d ns; omega
  have HLN := hid hlen
  have HFIN := hid (show ∀ k, n ≤ k → txtF (d + 1) (ns.take k) = txtF (d + 1) ns from fun k hk => by rw [List.take_of_length_le (by omega)])
  obtain ⟨R, hR⟩ : ∃ R, txtF (d + 1) ns = R := ⟨_, rfl⟩
  have hRl : R.length ≤ 4000000000 := by rw [← hR]; have := txt_len (d + 1) ns; omega
  have HPRE := hid (show ∀ k, (txtF (d + 1) (ns.take k)).length ≤ R.length from fun k => by
    rw [← hR]
    conv => rhs; rw [← List.take_append_drop k ns]
    show ((ns.take k).flatMap _).length ≤ ((ns.take k ++ ns.drop k).flatMap _).length
    rw [List.flatMap_append, List.length_append]
    omega)
  rw [hR] at HFIN ⊢
  clear h hw hlen hR
  go_enter Try.func25, Try.ntmps25
  go_wp2
  go_loopg [3, 4] n (fun g sv iv wr => ∃ k : Nat, k + g = n ∧ sv = .string (bs (txtF (d + 1) (ns.take k))) ∧ iv = .int .i64 k ∧ Hid (Below w.heap.size w wr))
  case atStart => exact ⟨0, by omega, rfl, rfl, hid (Below.refl _ _)⟩
  case round =>
    obtain ⟨k, hk, rfl, rfl, hB⟩ := hrel
    by_cases hlt : k < n
    · have d1 : decide (k < n) = true := decide_eq_true hlt
      have hltI : (k : Int) < (n : Int) := by omega
      obtain ⟨x, hx⟩ : ∃ x, ns[k]? = some x := ⟨_, List.getElem?_eq_getElem (by have := HLN.out; omega)⟩
      have hwx := Dom.sumW_mem (d := d) (List.mem_of_getElem? hx)
      obtain ⟨b1, o1, rfl, _, hat⟩ := (HH.out.below hB.out).at (by omega)
      obtain ⟨aa, an, ac, ka, kn, kc, X⟩ := hat k x hx
      have x0 := X.c0
      have x4 := X.c4
      have x5 := X.c5
      have HI := hid (IH S x.kids ka kn kc wr X.kids (by have := HW.out; omega))
      have hst : txtF (d + 1) (ns.take (k + 1)) = txtF (d + 1) (ns.take k) ++ ((if x.kind = 2 then x.text else []) ++ txtF d x.kids) := by
        show (ns.take (k + 1)).flatMap _ = (ns.take k).flatMap _ ++ _
        rw [List.take_add_one, hx, Option.toList_some, List.flatMap_append]
        simp
      have hp1 := HPRE.out (k + 1)
      rw [hst, List.length_append, List.length_append] at hp1
      obtain ⟨A, hA⟩ : ∃ A, txtF (d + 1) (ns.take k) = A := ⟨_, rfl⟩
      obtain ⟨K, hK⟩ : ∃ K, txtF d x.kids = K := ⟨_, rfl⟩
      rw [hA, hK] at hp1 hst
      rw [hA]
      rw [hK] at HI
      have HST := hid hst
      clear hst hA hK hwx hx hat X
      by_cases h2 : x.kind = 2
      · rw [if_pos h2] at hp1 HST
        rw [h2, show ((2 : Nat) : Int) = 2 from rfl] at x0
        have m1 : ¬ 9223372036854775807 < (bs A).size + (bs x.text).size := by show ¬ 9223372036854775807 < A.length + x.text.length; omega
        have m2 : ¬ 9223372036854775807 < (bs (A ++ x.text)).size + (bs K).size := by show ¬ 9223372036854775807 < (A ++ x.text).length + K.length; rw [List.length_append]; omega
        have hc1 := tt_cat A x.text
        have hc2 := tt_cat (A ++ x.text) K
        have HE : Hid (bs (A ++ x.text ++ K) = bs (txtF (d + 1) (ns.take (k + 1)))) := hid (by rw [HST.out, List.append_assoc])
        clear HST hp1
        generalize bs x.text = TX at *
        generalize bs (A ++ x.text ++ K) = Q2 at *
        generalize bs (A ++ x.text) = Q1 at *
        generalize bs A = QA at *
        generalize bs K = QK at *
        go_wp2_with fail
        refine HI.out.mono ?_
        rintro e w2 ⟨rfl, b2⟩
        have HB2 := hid (hB.out.trans (b2.mono hB.out.size))
        clear b2 x0 x4 x5 HI
        go_wp2_with fail
        go_roundg (n - (k + 1))
        case measure => omega
        case rel => exact ⟨k + 1, by omega, by rw [HE.out], by go_num, HB2⟩
      · rw [if_neg h2] at hp1 HST
        have e2 : decide (x.kind = 2) = false := decide_eq_false h2
        have e2b : ((x.kind : Int) == 2) = false := by simp; omega
        have m2 : ¬ 9223372036854775807 < (bs A).size + (bs K).size := by show ¬ 9223372036854775807 < A.length + K.length; omega
        have hc2 := tt_cat A K
        have HE : Hid (bs (A ++ K) = bs (txtF (d + 1) (ns.take (k + 1)))) := hid (by rw [HST.out, List.nil_append])
        clear HST hp1
        generalize bs (A ++ K) = Q2 at *
        generalize bs A = QA at *
        generalize bs K = QK at *
        go_wp2_with fail
        refine HI.out.mono ?_
        rintro e w2 ⟨rfl, b2⟩
        have HB2 := hid (hB.out.trans (b2.mono hB.out.size))
        clear b2 x0 x4 x5 HI
        go_wp2_with fail
        go_roundg (n - (k + 1))
        case measure => omega
        case rel => exact ⟨k + 1, by omega, by rw [HE.out], by go_num, HB2⟩
    · have d1 : decide (k < n) = false := decide_eq_false hlt
      have hltI : ¬ (k : Int) < (n : Int) := by omega
      have HE := hid (HFIN.out k (by omega))
      clear HFIN HPRE HH
      go_wp2_with fail
      go_ret
      exact ⟨by rw [HE.out]; rfl, hB.out⟩
theorem txtG_any : ∀ d, TxtG d
  | 0 => txtG_zero
  | d + 1 => txtG_succ d (txtG_any d)
end Go.Proofs.Ytlgmjnnfndedbaa
