/- Walks over the program's package dom: what only reads a tree: has, Parent, takes, ahead. -/
import Derived.Test.YtlgmjnnfndedbaaLinkM
import Derived.Test.YtlgmjnnfndedbaaMarkM
namespace Go.Proofs.Ytlgmjnnfndedbaa
open Go.RowKit Go.Lib
set_option maxRecDepth 100000
set_option linter.unusedVariables false

set_option maxHeartbeats 2000000 in
theorem phas_any (w : World) (R g n cap : Nat) (i : Int) (h1 : w.cell? ⟨R, 0, none⟩ = some (.slice (some ⟨g, 0, none⟩) n cap)) (h2 : n ≤ 1000000) :
    Calls Try.prog 58 #[.pointer (some ⟨R, 0, none⟩), .int .i64 i] w fun e w' => e = .returned (.bool (decide (0 ≤ i ∧ i < (n : Int)))) ∧ w' = w := by
  by_cases g1 : 0 ≤ i
  · have d1 : decide (0 ≤ i) = true := decide_eq_true g1
    by_cases g2 : i < n
    · have d2 : decide (i < (n : Int)) = true := decide_eq_true g2
      have hR : decide (0 ≤ i ∧ i < (n : Int)) = true := decide_eq_true ⟨g1, g2⟩
      rw [hR]
      clear hR
      go_enter Try.func58, Try.ntmps58
      go_wp2
      go_ret
      exact ⟨rfl, rfl⟩
    · have d2 : decide (i < (n : Int)) = false := decide_eq_false g2
      have hR : decide (0 ≤ i ∧ i < (n : Int)) = false := decide_eq_false fun h => g2 h.2
      rw [hR]
      clear hR
      go_enter Try.func58, Try.ntmps58
      go_wp2
      go_ret
      exact ⟨rfl, rfl⟩
  · have d1 : decide (0 ≤ i) = false := decide_eq_false g1
    have hR : decide (0 ≤ i ∧ i < (n : Int)) = false := decide_eq_false fun h => g1 h.1
    rw [hR]
    clear hR
    go_enter Try.func58, Try.ntmps58
    go_wp2
    go_ret
    exact ⟨rfl, rfl⟩
/-- What is read of a tree. -/
structure ReadK (w : World) (base R : Nat) (S : Nat → Prop) (g cap : Nat) (rs : List PR) (t : Dom.T) : Prop where
  tree : TreeL w base R S (.slice (some ⟨g, 0, none⟩) t.length cap) rs
  mod : Models rs t
  ne : t ≠ []
  few : t.length ≤ 1000000
theorem TreeK.read {w : World} {base R : Nat} {S : Nat → Prop} {t : Dom.T} (h : TreeK w base R S t) (hG : Dom.Good t) (hf : t.length ≤ 1000000) : ∃ g cap rs, ReadK w base R S g cap rs t := by
  obtain ⟨v, rs, h, hm⟩ := h
  have h0 : rs ≠ [] := fun e => hG.some (by have := hm.len; rw [e] at this; exact List.length_eq_zero_iff.1 this.symm)
  obtain ⟨g, cap, rfl, hnc⟩ := h.addr h0
  refine ⟨g, cap, rs, ?_, hm, hG.some, hf⟩
  rw [← hm.len]
  exact h
theorem ReadK.top {w : World} {base R g cap : Nat} {S : Nat → Prop} {rs : List PR} {t : Dom.T} (h : ReadK w base R S g cap rs t) : w.cell? ⟨R, 0, none⟩ = some (.slice (some ⟨g, 0, none⟩) t.length cap) := h.tree.top.cell 0
/-- The cells of a node of the tree. -/
structure CellsT (w : World) (g i : Nat) (t : Dom.T) (l : Dom.Lk) (ad : Option Addr) (an ac : Nat) (tv : Value) : Prop where
  c0 : w.cell? ⟨g, i * 10, none⟩ = some (.int .u8 (Dom.kindAt t i))
  c1 : w.cell? ⟨g, i * 10 + 1, none⟩ = some (.int .u8 (Dom.nodeAt t i).nd.space)
  c2 : w.cell? ⟨g, i * 10 + 2, none⟩ = some (.string (bs (Dom.nodeAt t i).nd.name))
  c3 : w.cell? ⟨g, i * 10 + 3, none⟩ = some (.slice ad an ac)
  c4 : w.cell? ⟨g, i * 10 + 4, none⟩ = some tv
  c5 : w.cell? ⟨g, i * 10 + 5, none⟩ = some (.int .i64 (Dom.parAt t i))
  c6 : w.cell? ⟨g, i * 10 + 6, none⟩ = some (.int .i64 (Dom.headI (Dom.kidsAt t i)))
  c7 : w.cell? ⟨g, i * 10 + 7, none⟩ = some (.int .i64 (Dom.lastI (Dom.kidsAt t i)))
  c8 : w.cell? ⟨g, i * 10 + 8, none⟩ = some (.int .i64 l.prev)
  c9 : w.cell? ⟨g, i * 10 + 9, none⟩ = some (.int .i64 l.next)
  atts : IsA w ad an (Dom.nodeAt t i).nd.atts
  anil : ad = none → ac = 0
theorem ReadK.at_ {w : World} {base R g cap : Nat} {S : Nat → Prop} {rs : List PR} {t : Dom.T} (h : ReadK w base R S g cap rs t) {i : Nat} (hi : i < t.length) : ∃ r, rs[i]? = some r ∧ CellsT w g i t (lkOf rs i) r.ad r.an r.ac r.tv ∧ FitsP w base S r ∧ r.nd = (Dom.nodeAt t i).nd := by
  obtain ⟨r, hr⟩ : ∃ r, rs[i]? = some r := ⟨_, List.getElem?_eq_getElem (by rw [h.mod.len]; exact hi)⟩
  have C := h.tree.cells hr
  have e := h.mod.nds i r hr
  have el := lkOf_get hr
  have hp := h.mod.lks.par i hi
  have hc := h.mod.lks.chain i hi
  have F := h.tree.fits i r hr
  refine ⟨r, hr, ⟨?_, ?_, ?_, C.c3, C.c4, ?_, ?_, ?_, ?_, ?_, ?_, F.anil⟩, F, e⟩
  · unfold Dom.kindAt; rw [← e]; exact C.c0
  · rw [← e]; exact C.c1
  · rw [← e]; exact C.c2
  · rw [← hp, el]; exact C.c5
  · rw [← hc.first, el]; exact C.c6
  · rw [← hc.last, el]; exact C.c7
  · rw [el]; exact C.c8
  · rw [el]; exact C.c9
  · rw [← e]; exact F.atts
theorem phas_t {w : World} {base R g cap : Nat} {S : Nat → Prop} {rs : List PR} {t : Dom.T} (h : ReadK w base R S g cap rs t) (i : Int) :
    Calls Try.prog 58 #[.pointer (some ⟨R, 0, none⟩), .int .i64 i] w fun e w' => e = .returned (.bool (decide (Dom.there t i))) ∧ w' = w := phas_any w R g t.length cap i h.top h.few
set_option maxHeartbeats 4000000 in
theorem pparent_any (w : World) (base R g cap : Nat) (S : Nat → Prop) (rs : List PR) (t : Dom.T) (i : Int) (h : ReadK w base R S g cap rs t) :
    Calls Try.prog 29 #[.pointer (some ⟨R, 0, none⟩), .int .i64 i] w fun e w' => e = .returned (.int .i64 (Dom.parentT t i)) ∧ w' = w := by
  have h1 := h.top
  have h2 := h.few
  have HT := hid (phas_t h i)
  unfold Dom.parentT
  by_cases g1 : Dom.there t i
  · rw [if_pos g1]
    have hR : decide (Dom.there t i) = true := decide_eq_true g1
    rw [hR] at HT
    obtain ⟨i1, i2⟩ := g1
    obtain ⟨r, _, X, _⟩ := h.at_ (i := i.toNat) (by omega)
    have x5 := X.c5
    obtain ⟨P, hP⟩ : ∃ P, Dom.parAt t i.toNat = P := ⟨_, rfl⟩
    rw [hP] at x5 ⊢
    obtain ⟨n, hn⟩ : ∃ n, List.length t = n := ⟨_, rfl⟩
    rw [hn] at h1 h2 i2
    clear X h hn hR hP
    have hlt : i.toNat < n := by omega
    go_enter Try.func29, Try.ntmps29
    go_wp2_with fail
    refine (HT.out).mono ?_
    rintro e w1 ⟨rfl, rfl⟩
    go_wp2
    go_ret
    exact ⟨rfl, rfl⟩
  · rw [if_neg g1]
    have hR : decide (Dom.there t i) = false := decide_eq_false g1
    rw [hR] at HT
    clear h
    go_enter Try.func29, Try.ntmps29
    go_wp2_with fail
    refine (HT.out).mono ?_
    rintro e w1 ⟨rfl, rfl⟩
    go_wp2
    go_ret
    exact ⟨rfl, rfl⟩
/-- What may be put there. -/
def Takes (t : Dom.T) (p b : Int) : Prop := Dom.holds t p ∧ (b = -1 ∨ Dom.parentT t b = p)
instance (t : Dom.T) (p b : Int) : Decidable (Takes t p b) := inferInstanceAs (Decidable (_ ∧ _))
set_option maxHeartbeats 8000000 in
theorem ptakes_any (w : World) (base R g cap : Nat) (S : Nat → Prop) (rs : List PR) (t : Dom.T) (p b : Int) (h : ReadK w base R S g cap rs t) :
    Calls Try.prog 74 #[.pointer (some ⟨R, 0, none⟩), .int .i64 p, .int .i64 b] w fun e w' => e = .returned (.bool (decide (Takes t p b))) ∧ w' = w := by
  have h1 := h.top
  have h2 := h.few
  have HT := hid (phas_t h p)
  have HP := hid (pparent_any w base R g cap S rs t b h)
  by_cases g1 : Dom.there t p
  · have hR : decide (Dom.there t p) = true := decide_eq_true g1
    rw [hR] at HT
    have g1' := g1
    obtain ⟨i1, i2⟩ := g1
    obtain ⟨r, _, X, _⟩ := h.at_ (i := p.toNat) (by omega)
    have x0 := X.c0
    obtain ⟨n, hn⟩ : ∃ n, List.length t = n := ⟨_, rfl⟩
    rw [hn] at h1 h2 i2
    have hlt : p.toNat < n := by omega
    by_cases g2 : Dom.holds t p
    · by_cases g3 : b = -1
      · subst g3
        have hD : decide (Takes t p (-1)) = true := decide_eq_true ⟨g2, .inl rfl⟩
        rw [hD]
        by_cases g4 : p = 0
        · subst g4
          clear X h hn hR g2 hD g1'
          go_enter Try.func74, Try.ntmps74
          go_wp2_with fail
          refine (HT.out).mono ?_
          rintro e w1 ⟨rfl, rfl⟩
          go_wp2
          go_ret
          exact ⟨rfl, rfl⟩
        · have d4 : (p != 0) = true := by simp; exact g4
          have hk : Dom.kindAt t p.toNat = 1 := g2.2.resolve_left g4
          rw [hk] at x0
          clear X h hn hR g2 hD g1' hk
          go_enter Try.func74, Try.ntmps74
          go_wp2_with fail
          refine (HT.out).mono ?_
          rintro e w1 ⟨rfl, rfl⟩
          go_wp2
          go_ret
          exact ⟨rfl, rfl⟩
      · have d3 : (b == -1) = false := by simp; exact g3
        have hD : decide (Takes t p b) = (Dom.parentT t b == p) := by
          by_cases e : Dom.parentT t b = p
          · rw [decide_eq_true ⟨g2, .inr e⟩, e]
            simp
          · rw [decide_eq_false fun q => e (q.2.resolve_left g3)]
            simp [e]
        rw [hD]
        generalize Dom.parentT t b = Q at *
        by_cases g4 : p = 0
        · subst g4
          clear X h hn hR g2 hD g1'
          go_enter Try.func74, Try.ntmps74
          go_wp2_with fail
          refine (HT.out).mono ?_
          rintro e w1 ⟨rfl, rfl⟩
          go_wp2_with fail
          refine (HP.out).mono ?_
          rintro e w2 ⟨rfl, rfl⟩
          go_wp2
          go_ret
          exact ⟨rfl, rfl⟩
        · have d4 : (p != 0) = true := by simp; exact g4
          have hk : Dom.kindAt t p.toNat = 1 := g2.2.resolve_left g4
          rw [hk] at x0
          clear X h hn hR g2 hD g1' hk
          go_enter Try.func74, Try.ntmps74
          go_wp2_with fail
          refine (HT.out).mono ?_
          rintro e w1 ⟨rfl, rfl⟩
          go_wp2_with fail
          refine (HP.out).mono ?_
          rintro e w2 ⟨rfl, rfl⟩
          go_wp2
          go_ret
          exact ⟨rfl, rfl⟩
    · have g4 : p ≠ 0 := fun e => g2 ⟨g1', .inl e⟩
      have d4 : (p != 0) = true := by simp; exact g4
      have hk : ¬ Dom.kindAt t p.toNat = 1 := fun e => g2 ⟨g1', .inr e⟩
      have hD : decide (Takes t p b) = false := decide_eq_false fun q => g2 q.1
      rw [hD]
      obtain ⟨K, hK⟩ : ∃ K, Dom.kindAt t p.toNat = K := ⟨_, rfl⟩
      rw [hK] at x0 hk
      have d5 : ((K : Int) != 1) = true := by simp; omega
      clear X h hn hR g2 hD g1' hk hK
      go_enter Try.func74, Try.ntmps74
      go_wp2_with fail
      refine (HT.out).mono ?_
      rintro e w1 ⟨rfl, rfl⟩
      go_wp2
      go_ret
      exact ⟨rfl, rfl⟩
  · have hR : decide (Dom.there t p) = false := decide_eq_false g1
    rw [hR] at HT
    have hD : decide (Takes t p b) = false := decide_eq_false fun q => g1 q.1.1
    rw [hD]
    clear h hR hD
    go_enter Try.func74, Try.ntmps74
    go_wp2_with fail
    refine (HT.out).mono ?_
    rintro e w1 ⟨rfl, rfl⟩
    go_wp2
    go_ret
    exact ⟨rfl, rfl⟩
set_option maxHeartbeats 4000000 in
/-- The kid ahead of another one, or the last one. -/
theorem pahead_any (w : World) (base R g n cap : Nat) (S : Nat → Prop) (rs : List PR) (h : TreeL w base R S (.slice (some ⟨g, 0, none⟩) n cap) rs) (hn : n = rs.length) (h2 : n ≤ 1000000) (p : Nat) (hp : p < n) (b : Int) (hb : b = -1 ∨ ∃ y : Nat, b = y ∧ y < n) :
    Calls Try.prog 75 #[.pointer (some ⟨R, 0, none⟩), .int .i64 p, .int .i64 b] w fun e w' => e = .returned (.int .i64 (Dom.prv (lkOf rs) p b)) ∧ w' = w := by
  have h1 : w.cell? ⟨R, 0, none⟩ = some (.slice (some ⟨g, 0, none⟩) n cap) := h.top.cell 0
  unfold Dom.prv
  rcases hb with rfl | ⟨y, rfl, hy⟩
  · rw [if_pos rfl]
    obtain ⟨r, hr⟩ : ∃ r, rs[p]? = some r := ⟨_, List.getElem?_eq_getElem (by omega)⟩
    rw [lkOf_get hr]
    have x7 := (h.cells hr).c7
    generalize r.lk.last = L at *
    have hp3 : (p : Int) < (n : Int) := by omega
    have z1 : ((p : Int)).toNat = p := by omega
    clear h hr hn
    go_enter Try.func75, Try.ntmps75
    go_wp2
    go_ret
    exact ⟨rfl, rfl⟩
  · rw [if_neg (by omega), show ((y : Int)).toNat = y by omega]
    obtain ⟨r, hr⟩ : ∃ r, rs[y]? = some r := ⟨_, List.getElem?_eq_getElem (by omega)⟩
    rw [lkOf_get hr]
    have x8 := (h.cells hr).c8
    generalize r.lk.prev = L at *
    have hp3 : (y : Int) < (n : Int) := by omega
    have z1 : ((y : Int)).toNat = y := by omega
    have d1 : ((y : Int) == -1) = false := by simp
    clear h hr hn
    go_enter Try.func75, Try.ntmps75
    go_wp2
    go_ret
    exact ⟨rfl, rfl⟩
end Go.Proofs.Ytlgmjnnfndedbaa
