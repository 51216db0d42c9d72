/- Walks over what the statements of layer 12 share: own marks (their attributes in own lists, too). -/
import Derived.Test.YtmgbjkekfejnfaaMarkPu
import Derived.Test.YtmgbjkekfejnfaaAppT
namespace Go.Proofs.Ytmgbjkekfejnfaa
open Go.RowKit Go.Lib
set_option maxRecDepth 100000
set_option linter.unusedVariables false
theorem isA_heap {w w' : World} {a : Option Addr} {n : Nat} {ls : List (List UInt8 × List UInt8)} (h : IsA w a n ls) (hk : ∀ x, a = some x → w'.heap[x.block]? = w.heap[x.block]?) : IsA w' a n ls := by
  refine ⟨h.1, h.2.elim .inl fun ⟨b, off, e, hat⟩ => .inr ⟨b, off, e, fun i l hi => ?_⟩⟩
  have hb := hk _ e
  exact ⟨(World.cell?_of_block (a := ⟨b, off + i * 2, none⟩) hb).trans (hat i l hi).1, (World.cell?_of_block (a := ⟨b, off + i * 2 + 1, none⟩) hb).trans (hat i l hi).2⟩
/-- The attributes lie in blocks of attributes. -/
def AttsT (w : World) (rs : List MR) : Prop := ∀ r ∈ rs, TypB w r.aa
theorem AttsT.below {w w' : World} {rs : List MR} (h : AttsT w rs) (hb : Below w.heap.size w w') : AttsT w' rs := fun r hr => (h r hr).below hb
/-- They stand where a row of marks has grown. -/
theorem atts_grow {w w' : World} {base m : Nat} {v : Value} {xs : List Value} {rs : List MR} {ys : List Mk.M} (h : AttsM w rs ys) (t : AttsT w rs) (ho : w.ownsRow base 25 3 v m xs) (hg : w.grownBy w' v.ownBlock) : AttsM w' rs ys ∧ AttsT w' rs := by
  have hk : ∀ r ∈ rs, ∀ x, r.aa = some x → w'.heap[x.block]? = w.heap[x.block]? := fun r hr x hx => by
    refine hg.block _ ((t r hr).lt x hx) fun e => ?_
    obtain ⟨_, ⟨rfl, _⟩ | ⟨g, cap, cur, rfl, _, hq, _⟩⟩ := ho
    · simp [Value.ownBlock] at e
    · simp [Value.ownBlock] at e
      exact (t r hr).ne hq (by decide) x hx e
  exact ⟨⟨h.1, fun i r y hr hy => { h.2 i r y hr hy with atts := isA_heap (h.2 i r y hr hy).atts (hk r (List.mem_of_getElem? hr)) }⟩, fun r hr => (t r hr).heap (hk r hr)⟩
set_option maxHeartbeats 4000000 in
theorem lentA2_any (a : Option Addr) (n c : Nat) (ats : List (List UInt8 × List UInt8)) (w : World) (h : IsA w a n ats) (hnil : a = none → c = 0) (hn : n ≤ 4294967296) :
    Calls Try.prog 21 #[.slice a n c] w fun e w' => (∃ a' c', e = .returned (.slice a' n c') ∧ IsA w' a' n ats ∧ TypB w' a' ∧ n ≤ c' ∧ c' ≤ maxLen ∧ (a' = none → c' = 0)) ∧ Below w.heap.size w w' := by
  have HA := hid h
  have HN := hid hnil
  clear h hnil
  go_enter Try.func21, Try.ntmps21
  go_wp2_with (at_builtin; refine append_T rfl _ _ rfl w.heap.size _ [] rfl (World.ownsRow_nil _ _ _ _) a n c ats rfl HA.out HN.out (by simp; omega) (Nat.le_refl _) ?_)
  intro v' w' hown hgr
  have hb : Below w.heap.size w w' := (Below.refl _ w).grown hgr (Nat.le_refl _) (fun k e => by simp [Value.ownBlock] at e)
  obtain ⟨a', cap, hv, hI, h1, h2, hge, hx⟩ := own_isT' hown
  have ht : TypB w' a' := by rw [hv] at hown; exact own_typ hown
  rw [HA.out.1] at hv hI h1
  have hR := hid (show (∃ a' c', v' = .slice a' n c' ∧ IsA w' a' n ats ∧ TypB w' a' ∧ n ≤ c' ∧ c' ≤ maxLen ∧ (a' = none → c' = 0)) ∧ Below w.heap.size w w' from ⟨⟨a', cap, hv, hI, ht, h1, h2, hx⟩, hb⟩)
  clear hown hgr hb hv hI hge hx ht h1 h2
  go_wp2
  go_ret
  obtain ⟨⟨a', c', h1, h2⟩, h5⟩ := hR.out
  exact ⟨⟨a', c', by rw [h1]; first | done | rfl, h2⟩, h5⟩
/-- Own marks, in a row of the call's own. -/
def LentM (w w' : World) (e : Ending) (n : Nat) (xs : List Mk.M) : Prop := ∃ v rs, e = .returned v ∧ w'.ownsRow w.heap.size 25 3 v rs.length (mL rs) ∧ rs.length = n ∧ AttsM w' rs xs ∧ AttsT w' rs
set_option maxHeartbeats 8000000 in
theorem lentM_any (a : Option Addr) (n c : Nat) (rs : List MR) (xs : List Mk.M) (w : World) (h : MarksIn a n c rs xs w) (hn : n ≤ 4000000) (hfew : ∀ r ∈ rs, r.an ≤ 4294967296) :
    Calls Try.prog 8 #[.slice a n c] w fun e w' => LentM w w' e n xs ∧ Below w.heap.size w w' := by
  have HM := hid h
  have hln := h.len
  have HFW := hid hfew
  clear h hfew
  go_enter Try.func8, Try.ntmps8
  go_wp2
  go_loopw [3, 4] (fun v vi wr => ∃ (k : Nat) (ss : List MR), vi = .int .i64 k ∧ k ≤ n ∧ ss.length = k ∧ wr.ownsRow w.heap.size 25 3 v ss.length (mL ss) ∧ Hid (AttsM wr ss (xs.take k) ∧ AttsT wr ss) ∧ Below w.heap.size w wr) (fun _ vi _ => n - (RowKit.intOf vi).toNat)
  case atStart => exact ⟨0, [], rfl, Nat.zero_le _, rfl, World.ownsRow_nil _ _ _ _, hid ⟨AttsM.nil w, fun r hr => by cases hr⟩, Below.refl _ _⟩
  case round =>
    obtain ⟨k, ss, rfl, hk, hsl, hown, hA, hb⟩ := hrel
    by_cases hlt : k < n
    · have d1 : decide (k < n) = true := decide_eq_true hlt
      have hltI : (k : Int) < (n : Int) := by omega
      obtain ⟨blk, off, r, x, rfl, hr, hx, f, c0, c1, c2⟩ := (HM.out.below hb).get hlt
      have c0' : wr.cell? ⟨blk, off + k * 3, none⟩ = some (.int .i64 r.id) := by rw [c0, f.id]
      have c1' : wr.cell? ⟨blk, off + k * 3 + 1, none⟩ = some (.string (bs r.name)) := by rw [c1, f.name]
      have ba := (Below.refl wr.heap.size wr).alloc (Nat.le_refl _) (.cells #[.int .i64 r.id, .string (bs r.name), .slice r.aa r.an r.ac] 25)
      have HBX := hid (BlkW.new wr #[.int .i64 r.id, .string (bs r.name), .slice r.aa r.an r.ac] 25)
      have HL := hid (lentA2_any r.aa r.an r.ac x.atts _ (f.atts.below ba) f.nil (HFW.out r (List.mem_of_getElem? hr)))
      have HBA := hid ba
      have hbz := hb.size
      have HF := hid f
      have HXT := hid (show xs.take (k + 1) = xs.take k ++ [x] by rw [List.take_add_one, hx]; rfl)
      clear c0 c1 ba f hr hx
      go_wp2_with fail
      refine HL.out.mono ?_
      rintro e w2 ⟨⟨a', c', rfl, i1, i2, i3, i4, i5⟩, b2⟩
      have szl : wr.heap.size < (wr.alloc (.cells #[.int .i64 r.id, .string (bs r.name), .slice r.aa r.an r.ac] 25)).heap.size := by simp
      have BX := HBX.out.below b2 szl
      have BXS := BX.set_ 2 (.slice a' r.an c')
      have hfr := BX.free 2
      have b12 := HBA.out.trans (b2.mono HBA.out.size)
      have b13 : Below wr.heap.size wr (w2.setCell ⟨wr.heap.size, 2, none⟩ (.slice a' r.an c')) := b12.setCell (p := ⟨wr.heap.size, 2, none⟩) (Nat.le_refl _) _
      have y0 := BXS.cell 0
      have y1 := BXS.cell 1
      have y2 := BXS.cell 2
      simp only [List.getElem?_toArray, List.getElem?_cons_zero, List.getElem?_cons_succ, List.setIfInBounds_toArray, List.set_cons_succ, List.set_cons_zero] at y0 y1 y2
      have x0 := BX.cell 0
      have x1 := BX.cell 1
      have x2 := BX.cell 2
      simp only [List.getElem?_toArray, List.getElem?_cons_zero, List.getElem?_cons_succ] at x0 x1 x2
      have hkeep : ∀ z, a' = some z → (w2.setCell ⟨wr.heap.size, 2, none⟩ (.slice a' r.an c')).heap[z.block]? = w2.heap[z.block]? := fun z hz => Below.heap_setCell _ _ _ _ (i2.ne BX (by decide) z hz)
      have HFX := hid (show FitM (w2.setCell ⟨wr.heap.size, 2, none⟩ (.slice a' r.an c')) ⟨r.id, r.name, a', r.an, c'⟩ x from ⟨HF.out.id, HF.out.name, isA_heap i1 hkeep, i3, by unfold maxLen at i4; omega, i5⟩)
      have HTX := hid (i2.heap hkeep)
      have HO3 := hid (own_below hown b13)
      have HA3 := hid (And.intro (hA.out.1.below b13) (hA.out.2.below b13))
      have HB3 := hid (hb.trans (b13.mono hb.size))
      clear i1 i2 i3 i4 i5 b2 szl BX BXS b12 b13 hkeep hown hA hb HL HBX HBA HF c0' c1' c2
      have hs3 : (w2.setCell ⟨wr.heap.size, 2, none⟩ (.slice a' r.an c')).heap.size = w2.heap.size := by simp
      have al := (Below.refl (w2.setCell ⟨wr.heap.size, 2, none⟩ (.slice a' r.an c')).heap.size (w2.setCell ⟨wr.heap.size, 2, none⟩ (.slice a' r.an c'))).alloc (Nat.le_refl _) (.cells #[.int .i64 r.id, .string (bs r.name), .slice a' r.an c'] 25)
      have hnw := BlkW.new (w2.setCell ⟨wr.heap.size, 2, none⟩ (.slice a' r.an c')) #[.int .i64 r.id, .string (bs r.name), .slice a' r.an c'] 25
      rw [hs3] at hnw
      have HNW := hid hnw
      have HOW := hid (own_below HO3.out al)
      have HAW := hid (And.intro ((HA3.out.1.below al).snoc (HFX.out.below al)) (show AttsT _ (ss ++ [⟨r.id, r.name, a', r.an, c'⟩]) from fun q hq => by
        rcases List.mem_append.1 hq with hq | hq
        · exact (HA3.out.2.below al) q hq
        · rw [List.mem_singleton.1 hq]
          exact HTX.out.below al))
      have HB4 := hid (HB3.out.trans (al.mono HB3.out.size))
      have hz4 := HB4.out.size
      clear hs3 al hnw HO3 HA3 HFX HTX HB3
      go_wp2_with (at_builtin; refine append_m rfl _ _ rfl w.heap.size _ ss rfl HOW.out w2.heap.size _ ⟨r.id, r.name, a', r.an, c'⟩ rfl HNW.out (by omega) hz4 ?_)
      intro v' w' o1 g1
      have BB := hid (HB4.out.grown g1 hz4 (own_ge HOW.out))
      have HA5 := hid (atts_grow HAW.out.1 HAW.out.2 HOW.out g1)
      have HO5 := hid o1
      clear o1 g1 HOW HAW HNW HB4 hz4 hfr x0 x1 x2 y0 y1 y2
      go_wp2
      go_roundw
      case rel => exact ⟨k + 1, ss ++ [⟨r.id, r.name, a', r.an, c'⟩], by go_num, by omega, by rw [List.length_append, hsl]; rfl, row_lenM (by rw [List.length_append]; first | rfl | (rw [hsl]; rfl)) HO5.out, hid (by rw [HXT.out]; exact HA5.out), BB.out⟩
      case measure => simp [RowKit.intOf]; omega
    · have d1 : decide (k < n) = false := decide_eq_false hlt
      have hltI : ¬ (k : Int) < (n : Int) := by omega
      obtain rfl : k = n := by omega
      have HR := hid (show LentM w wr (.returned _) k xs from ⟨_, ss, rfl, hown, hsl, by have := hA.out.1; rwa [List.take_of_length_le (by omega)] at this, hA.out.2⟩)
      have HBb := hid hb
      clear hown hA hb
      go_wp2
      go_ret
      exact ⟨HR.out, HBb.out⟩
end Go.Proofs.Ytmgbjkekfejnfaa
