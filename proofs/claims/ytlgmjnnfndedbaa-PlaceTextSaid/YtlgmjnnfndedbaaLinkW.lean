/- Walks over the program's package dom: Write. -/
import Derived.Test.YtlgmjnnfndedbaaLinkP
import Derived.Test.YtlgmjnnfndedbaaLinkE
namespace Go.Proofs.Ytlgmjnnfndedbaa
open Go.RowKit Go.Lib
set_option maxRecDepth 100000
set_option linter.unusedVariables false

/-- A node's text is another one. -/
def PR.retext (r : PR) (v' : Value) (l : List UInt8) : PR := { r with tv := v', nd := .mk r.nd.kind r.nd.space r.nd.name r.nd.atts l r.nd.kids }
theorem TreeL.retext {w w' : World} {base R g : Nat} {S : Nat → Prop} {v v' : Value} {rs : List PR} {i : Nat} {r : PR} {l : List UInt8} (h : TreeL w base R S v rs) (hv : v.ownBlock = some g) (hr : rs[i]? = some r)
    (own' : OwnM w' base v' l) (gr : w.grownBy w' r.tv.ownBlock) (loc : v'.ownBlock = r.tv.ownBlock ∨ ∀ k, v'.ownBlock = some k → w.heap.size ≤ k) (hbase : base ≤ w.heap.size) :
    ∃ S', TreeL (w'.setCell ⟨g, i * 10 + 4, none⟩ v') base R S' v (rs.set i (r.retext v' l)) ∧ Turn S S' w (w'.setCell ⟨g, i * 10 + 4, none⟩ v') := by
  have hi : i < rs.length := (List.getElem?_eq_some_iff.1 hr).1
  have Fi := h.fits i r hr
  obtain ⟨cg, hg⟩ := own_cells h.own hv
  have hgS := h.vS g hv
  have hglt := (h.inb g hgS).2
  have hs := gr.size
  have hgR := h.gR hv
  have tvg : r.tv.ownBlock ≠ some g := fun e => by
    obtain ⟨ds, fr, hd⟩ := Fi.text.cells e
    exact blk_neM hg hd pnode_ne_u8 rfl
  have v'g : v'.ownBlock ≠ some g := fun e => by
    rcases loc with q | q
    · exact tvg (q ▸ e)
    · have := q g e; omega
  have hk : ∀ k, k < w.heap.size → k ≠ g → r.tv.ownBlock ≠ some k → (w'.setCell ⟨g, i * 10 + 4, none⟩ v').heap[k]? = w.heap[k]? := fun k h1 h2 h3 => by
    rw [Below.heap_setCell _ _ _ _ h2]
    exact gr.block k h1 fun e => h3 e.symm
  have hsz : (w'.setCell ⟨g, i * 10 + 4, none⟩ v').heap.size = w'.heap.size := by simp
  have fitK : ∀ {rk : PR}, FitsP w base S rk → (∀ p, rk.ad = some p → (w'.setCell ⟨g, i * 10 + 4, none⟩ v').heap[p.block]? = w.heap[p.block]?) := fun {rk} F p hp => by
    have h1 := F.typ.lt p hp
    refine hk _ h1 (F.typ.ne hg pnode_ne_attr p hp) fun e => ?_
    obtain ⟨ds, fr, hd⟩ := Fi.text.cells e
    obtain ⟨cs, fr2, hc⟩ := F.typ p hp
    rw [hd] at hc
    injection hc with hc
    injection hc with _ hc _
    exact absurd hc (by decide)
  refine ⟨fun k => S k ∨ (w.heap.size ≤ k ∧ k < w'.heap.size), ⟨?_, .inl h.rS, ?_, fun b hb => .inl (h.vS b hb), fun k rk hrk => ?_, fun a b ra rb hab hra hrb c hc => ?_, ?_⟩, ?_⟩
  · refine (hk R (h.inb R h.rS).2 (fun e => hgR e.symm) fun e => ?_).trans h.top
    obtain ⟨ds, fr, hd⟩ := Fi.text.cells e
    exact blk_neM h.top hd (by decide) rfl
  · have o1 : w'.ownsRow base 86 10 v rs.length (rowsP rs) := own_keep h.own fun k hk2 => by
      rw [hv] at hk2
      obtain rfl := Option.some.inj hk2
      exact gr.block _ hglt fun e => tvg e.symm
    rw [rowsP_set (r' := r.retext v' l) (j := 4) (u := v') hr (by decide) rfl, List.length_set]
    exact own_set o1 hv _ v'
  · rw [List.getElem?_set] at hrk
    split at hrk
    · rename_i e
      subst e
      injection hrk with hrk
      subst hrk
      have fk := fitK Fi
      exact ⟨isA_in Fi.atts (S := fun k => ∃ p, r.ad = some p ∧ p.block = k) (.inr fun p hp => ⟨p, hp, rfl⟩) (by rintro k ⟨p, hp, rfl⟩; exact fk p hp), Fi.typ.heap fk, fun p hp => .inl (Fi.inS p hp), Fi.anil,
        own'.keep fun b hb => Below.heap_setCell _ _ _ _ (fun e => v'g (by rw [hb, e])), fun b hb => by
          rcases loc with q | q
          · exact .inl (Fi.tS b (q ▸ hb))
          · exact .inr ⟨q b hb, (own'.lt hb).2⟩⟩
    · rename_i e
      have F := h.fits k rk hrk
      have fk := fitK F
      refine ⟨isA_in F.atts (S := fun k => ∃ p, rk.ad = some p ∧ p.block = k) (.inr fun p hp => ⟨p, hp, rfl⟩) (by rintro k ⟨p, hp, rfl⟩; exact fk p hp), F.typ.heap fk, fun p hp => .inl (F.inS p hp), F.anil,
        F.text.keep fun b hb => hk b (F.text.lt hb).2 (fun e2 => ?_) (fun e2 => h.apart i k r rk e hr hrk b e2 hb), fun b hb => .inl (F.tS b hb)⟩
      subst e2
      obtain ⟨ds, fr, hd⟩ := F.text.cells hb
      exact blk_neM hg hd pnode_ne_u8 rfl
  · rw [List.getElem?_set] at hra hrb
    split at hra
    · rename_i e
      subst e
      injection hra with hra
      subst hra
      rw [if_neg hab] at hrb
      have hc' : v'.ownBlock = some c := hc
      intro e2
      rcases loc with q | q
      · exact h.apart i b r rb hab hr hrb c (by rw [← q]; exact hc') e2
      · have h1 := q c hc'
        have h2 := (h.inb c ((h.fits b rb hrb).tS c e2)).2
        omega
    · split at hrb
      · rename_i e1 e
        subst e
        injection hrb with hrb
        subst hrb
        intro e2
        have e2' : v'.ownBlock = some c := e2
        rcases loc with q | q
        · exact h.apart i a r ra (fun e => hab e.symm) hr hra c (by rw [← q]; exact e2') hc
        · have h1 := q c e2'
          have h2 := (h.inb c ((h.fits a ra hra).tS c hc)).2
          omega
      · exact h.apart a b ra rb hab hra hrb c hc
  · rintro k (q | q)
    · have := h.inb k q
      exact ⟨this.1, by rw [hsz]; omega⟩
    · exact ⟨by omega, by rw [hsz]; exact q.2⟩
  · refine ⟨gr.os, gr.tape, gr.output, by rw [hsz]; exact hs, fun k h1 h2 => hk k h1 (fun e => h2 (e ▸ hgS)) (fun e => h2 (Fi.tS k e)), fun k q => q.imp (fun e => e) fun q => q.1⟩
/-- The tree whose node has more text. -/
theorem models_text {rs : List PR} {t : Dom.T} (hm : Models rs t) {i : Nat} {r : PR} (hr : rs[i]? = some r) (v' : Value) (s : List UInt8) : Models (rs.set i (r.retext v' (r.nd.text ++ s))) (Dom.upd t i fun x => Dom.addText x s) := by
  have hi : i < rs.length := (List.getElem?_eq_some_iff.1 hr).1
  have hit : i < t.length := by rw [← hm.len]; exact hi
  refine ⟨by rw [List.length_set, Dom.upd_len]; exact hm.len, fun k rk hrk => ?_, ?_⟩
  · rw [Dom.upd_at _ _ _ hit]
    rw [List.getElem?_set] at hrk
    split at hrk
    · rename_i e
      subst e
      injection hrk with hrk
      subst hrk
      rw [if_pos rfl]
      have := hm.nds i r hr
      unfold PR.retext Dom.addText
      rw [this]
    · rename_i e
      rw [if_neg (fun q => e q.symm)]
      exact hm.nds k rk hrk
  · have e : lkOf (rs.set i (r.retext v' (r.nd.text ++ s))) = lkOf rs := by
      funext k
      unfold lkOf
      rw [List.getElem?_set]
      by_cases q : i = k
      · subst q
        rw [if_pos rfl, if_pos hi, hr]
        rfl
      · rw [if_neg q]
    rw [e]
    refine hm.lks.text (Dom.upd_len _ _ _) (fun k => ?_) fun k => ?_
    · unfold Dom.parAt
      rw [Dom.upd_at _ _ _ hit]
      split
      · rename_i q; rw [q]; rfl
      · rfl
    · unfold Dom.kidsAt
      rw [Dom.upd_at _ _ _ hit]
      split
      · rename_i q; rw [q]; rfl
      · rfl
theorem bs_toL (l : List UInt8) : (bs l).toList = l := by rw [ByteArray.toList_eq]; rfl
theorem put_new {t : Dom.T} (hG : Dom.Good t) {i p : Nat} {b : Int} (hi : i < t.length) (h0 : i ≠ 0) (hT : Takes t p b) (hp : p < t.length) (hne : p ≠ i) (hbi : b ≠ i) (hpar : Dom.parAt t i = -1) (hk : Dom.kidsAt t i = []) :
    Dom.putT t (p : Int) b (i : Int) = (Dom.insT t p (Dom.placeL (Dom.kidsAt t p) b).toNat i, true) := by
  have hc : Dom.cutT t (i : Int) = (t, false) := by
    unfold Dom.cutT
    rw [show ((i : Int)).toNat = i by omega, hpar, if_pos (.inr (by omega))]
  unfold Dom.putT
  rw [if_neg]
  · rw [hc, show ((p : Int)).toNat = p by omega, show ((i : Int)).toNat = i by omega]
    rfl
  · rw [show ((p : Int)).toNat = p by omega, show ((i : Int)).toNat = i by omega]
    have hpl := (placeL_takes hG hp).1 hT.2
    rintro (q | q | q | q | q | q)
    · exact q hT.1
    · exact q ⟨by omega, by omega⟩
    · omega
    · exact hbi q
    · exact hne ((up_leaf hG hk).1 q)
    · omega
/-- What Write does, where it writes. -/
theorem write_split {t : Dom.T} (hG : Dom.Good t) {p : Nat} {b : Int} {s : List UInt8} (hp : p < t.length) (hT : Takes t p b) (hs : s ≠ []) : ∃ A B, Dom.kidsAt t p = A ++ B ∧ Dom.headI B = b ∧ A.length = (Dom.placeL (Dom.kidsAt t p) b).toNat ∧
    ((∃ x : Nat, Dom.lastI A = x ∧ x ∈ A ∧ Dom.kindAt t x = 2 ∧ Dom.writeT t p b s = (Dom.upd t x fun y => Dom.addText y s, true)) ∨
     ((Dom.lastI A = -1 ∨ ∃ x : Nat, Dom.lastI A = x ∧ x ∈ A ∧ Dom.kindAt t x ≠ 2) ∧ Dom.writeT t p b s = Dom.putT (t ++ [⟨Dom.bareP (.mk 2 0 [] [] s []), -1, []⟩]) p b t.length)) := by
  have hpl := (placeL_takes hG hp).1 hT.2
  obtain ⟨A, B, h1, h2, h3⟩ := placeL_split hpl
  refine ⟨A, B, h1, h3, h2, ?_⟩
  have hW : Dom.writeT t p b s = if h : 0 < A.length ∧ Dom.kindAt t ((Dom.kidsAt t p).getD (A.length - 1) 0) = 2 then (Dom.upd t ((Dom.kidsAt t p).getD (A.length - 1) 0) fun x => Dom.addText x s, true) else Dom.putT (t ++ [⟨Dom.bareP (.mk 2 0 [] [] s []), -1, []⟩]) p b t.length := by
    unfold Dom.writeT
    rw [if_neg, if_neg hs, show ((p : Int)).toNat = p by omega, ← h2]
    rw [show ((p : Int)).toNat = p by omega]
    rintro (q | q)
    · exact q hT.1
    · omega
  rw [hW]
  have hlast : ∀ (A : List Nat), A ≠ [] → ∃ C, A = C ++ [(A.getD (A.length - 1) 0)] := by
    intro A hA
    refine ⟨A.dropLast, ?_⟩
    have := List.dropLast_concat_getLast hA
    rw [List.getLast_eq_getElem] at this
    rw [List.getD_eq_getElem?_getD, List.getElem?_eq_getElem (by have := List.length_pos_iff.2 hA; omega)]
    exact this.symm
  by_cases hA : A = []
  · subst hA
    right
    exact ⟨.inl rfl, by rw [dif_neg (by simp)]⟩
  · obtain ⟨C, hC⟩ := hlast A hA
    have hpos := List.length_pos_iff.2 hA
    have hg : (Dom.kidsAt t p).getD (A.length - 1) 0 = A.getD (A.length - 1) 0 := by
      rw [h1, List.getD_eq_getElem?_getD, List.getD_eq_getElem?_getD, List.getElem?_append_left (by omega)]
    rw [hg]
    generalize A.getD (A.length - 1) 0 = x at *
    have hl : Dom.lastI A = (x : Int) := by rw [hC]; exact Dom.lastI_snoc C x
    have hm := Dom.lastI_mem hl
    by_cases hk : Dom.kindAt t x = 2
    · left
      exact ⟨x, hl, hm, hk, by rw [dif_pos ⟨hpos, hk⟩]⟩
    · right
      exact ⟨.inr ⟨x, hl, hm, hk⟩, by rw [dif_neg (fun q => hk q.2)]⟩
set_option maxHeartbeats 4000000 in
theorem pwrite_no (w : World) (base R : Nat) (S : Nat → Prop) (t : Dom.T) (p b : Int) (s : List UInt8) (h : TreeK w base R S t) (hG : Dom.Good t) (hf : t.length ≤ 1000000) (hT : ¬ Takes t p b) :
    Calls Try.prog 43 #[.pointer (some ⟨R, 0, none⟩), .int .i64 p, .int .i64 b, .string (bs s)] w fun e w' => e = .returned (.bool false) ∧ w' = w := by
  obtain ⟨g, cap, rs, h⟩ := h.read hG hf
  have HTK := ptakes_any w base R g cap S rs t p b h
  rw [decide_eq_false hT] at HTK
  have HTK := hid HTK
  clear h hG hT
  go_enter Try.func43, Try.ntmps43
  go_wp2_with fail
  refine (HTK.out).mono ?_
  rintro e w2 ⟨rfl, rfl⟩
  go_wp2
  go_ret
  exact ⟨rfl, rfl⟩
set_option maxHeartbeats 4000000 in
theorem pwrite_nil (w : World) (base R : Nat) (S : Nat → Prop) (t : Dom.T) (p b : Int) (h : TreeK w base R S t) (hG : Dom.Good t) (hf : t.length ≤ 1000000) (hT : Takes t p b) :
    Calls Try.prog 43 #[.pointer (some ⟨R, 0, none⟩), .int .i64 p, .int .i64 b, .string (bs [])] w fun e w' => e = .returned (.bool true) ∧ w' = w := by
  obtain ⟨g, cap, rs, h⟩ := h.read hG hf
  have HTK := ptakes_any w base R g cap S rs t p b h
  rw [decide_eq_true hT] at HTK
  have HTK := hid HTK
  rw [show bs [] = ⟨#[]⟩ from rfl]
  clear h hG hT
  go_enter Try.func43, Try.ntmps43
  go_wp2_with fail
  refine (HTK.out).mono ?_
  rintro e w2 ⟨rfl, rfl⟩
  go_wp2
  go_ret
  exact ⟨rfl, rfl⟩
set_option maxHeartbeats 4000000 in
/-- Text ahead of it grows. -/
theorem pwrite_more (w : World) (base R : Nat) (S : Nat → Prop) (t : Dom.T) (p x : Nat) (b : Int) (s : List UInt8) (A B : List Nat) (h : TreeK w base R S t) (hG : Dom.Good t) (hf : t.length ≤ 1000000) (hbase : base ≤ w.heap.size) (hT : Takes t p b) (hs : s ≠ []) (hsl : s.length ≤ 4000000) (hp : p < t.length)
    (h1 : Dom.kidsAt t p = A ++ B) (h3 : Dom.headI B = b) (hl : Dom.lastI A = x) (hx : x ∈ A) (hk : Dom.kindAt t x = 2) (hxt : (Dom.nodeAt t x).nd.text.length ≤ 4000000) :
    Calls Try.prog 43 #[.pointer (some ⟨R, 0, none⟩), .int .i64 p, .int .i64 b, .string (bs s)] w fun e w' => e = .returned (.bool true) ∧ TurnedK w w' base R S (Dom.upd t x fun y => Dom.addText y s) := by
  obtain ⟨g, cap, rs, h⟩ := h.read hG hf
  have HTK := ptakes_any w base R g cap S rs t p b h
  rw [decide_eq_true hT] at HTK
  have HTK := hid HTK
  have hlen := h.mod.len
  have hkid : ∀ y ∈ A ++ B, y < t.length := fun y hy => (hG.kid p y (by rw [h1]; exact hy)).1
  have hxl := hkid x (List.mem_append_left _ hx)
  have HAH := pahead_any w base R g t.length cap S rs h.tree hlen.symm h.few p hp b (by rw [← h3]; exact (Dom.headI_is B).imp (fun e => e) fun ⟨y, e, hy⟩ => ⟨y, e, hkid y (List.mem_append_right _ hy)⟩)
  have eA : Dom.prv (lkOf rs) p b = (x : Int) := by
    rw [← h3, ← hl]
    exact (h.mod.lks.chain p hp A B h1).2
  rw [eA] at HAH
  have HAH := hid HAH
  have htop := h.top
  obtain ⟨r, hr, X, F, eN⟩ := h.at_ hxl
  have x0 := X.c0
  rw [hk] at x0
  have x4 := X.c4
  have f4 := h.tree.free (x * 10 + 4)
  have hgt := h.tree
  have hM := h.mod
  have HR := hid fun (w' : World) v' own' gr loc => (show TurnedK w (w'.setCell ⟨g, x * 10 + 4, none⟩ v') base R S (Dom.upd t x fun y => Dom.addText y s) from by
    obtain ⟨S', T', Tu⟩ := hgt.retext (g := g) (w' := w') (v' := v') (l := r.nd.text ++ s) rfl hr own' gr loc hbase
    exact ⟨S', ⟨_, _, T', models_text hM hr v' s⟩, Tu⟩)
  have HG8 := hid (own_cells h.tree.own (g := g) rfl)
  have HTVG := hid (show ∀ gg, r.tv.ownBlock = some gg → gg ≠ g ∧ gg ≠ R from fun gg e => by
    obtain ⟨cs, hc⟩ := HG8.out
    obtain ⟨ds, fr, hd⟩ := F.text.cells e
    exact ⟨fun q => blk_neM (q ▸ hc) hd pnode_ne_u8 rfl, fun q => blk_neM (q ▸ h.tree.top) hd (by decide) rfl⟩)
  have HOWN := hid F.text
  obtain ⟨ta, tc, htv, hTB⟩ := F.text.isB
  rw [htv] at HR HTVG HOWN x4
  rw [eN] at HR HOWN HTVG x4
  generalize (Dom.nodeAt t x).nd.text = txt at *
  generalize (Dom.upd t x fun y => Dom.addText y s) = RES at *
  obtain ⟨n, hn⟩ : ∃ n, List.length t = n := ⟨_, rfl⟩
  rw [hn] at htop hxl
  have hx3 : (x : Int) < (n : Int) := by omega
  have zx : ((x : Int)).toNat = x := by omega
  have dx : ((x : Int) != -1) = true := by simp
  have hE : (bs s).toList.isEmpty = false := by
    rw [bs_toL]
    cases s with
    | nil => exact absurd rfl hs
    | cons a r => rfl
  have hss := bs_len s
  have hst : (bs s).data.toList = s := by simp [bs]
  have HST := hid hst
  have HSL := hid (show txt.length + (bs s).size ≤ 4294967296 by rw [hss]; omega)
  obtain ⟨SS, hSS⟩ : ∃ SS, bs s = SS := ⟨_, rfl⟩
  rw [hSS] at HSL HST hE ⊢
  clear h hr X F eN hgt hM hG hT hlen hkid eA h1 h3 hl hx hk htv hTB hn hss hst hxt hsl
  go_enter Try.func43, Try.ntmps43
  go_wp2_with fail
  refine (HTK.out).mono ?_
  rintro e w2 ⟨rfl, rfl⟩
  go_wp2_with fail
  refine (HAH.out).mono ?_
  rintro e w3 ⟨rfl, rfl⟩
  go_wp2_with (at_builtin; refine append_M rfl _ _ rfl base _ txt rfl HOWN.out SS rfl HSL.out hbase ?_; intro v' w' own2 gr2 loc2; rw [HST.out] at own2; have HX := hid (HR.out w' v' own2 gr2 loc2); obtain ⟨cs8, hg8⟩ := HG8.out; have hne8 : some g ≠ (Value.slice ta txt.length tc).ownBlock := (fun e => (HTVG.out g e.symm).1 rfl); have hg9 := hg8.grow gr2 hne8; have f9 := hg9.free (x * 10 + 4); have c9 := (World.cell?_of_block (a := ⟨g, x * 10 + 4, none⟩) (gr2.block g hg8.lt hne8)).trans x4; obtain ⟨a6, c6, e6, _⟩ := own2.isB; obtain ⟨ln, hln⟩ : ∃ ln, (txt ++ s).length = ln := ⟨_, rfl⟩; rw [hln] at e6; subst e6; clear own2 gr2 loc2 hg8 hg9 hne8 hln)
  go_ret
  exact ⟨rfl, HX.out⟩
open Classical in
set_option maxHeartbeats 4000000 in
/-- A new text is put there. -/
theorem pwrite_new (w : World) (base R : Nat) (S : Nat → Prop) (t : Dom.T) (p : Nat) (b : Int) (s : List UInt8) (A B : List Nat) (h : TreeK w base R S t) (hG : Dom.Good t) (hf : t.length ≤ 100000) (hbase : base ≤ w.heap.size) (hT : Takes t p b) (hs : s ≠ []) (hsl : s.length ≤ 4000000) (hp : p < t.length)
    (h1 : Dom.kidsAt t p = A ++ B) (h3 : Dom.headI B = b) (hl : Dom.lastI A = -1 ∨ ∃ x : Nat, Dom.lastI A = x ∧ x ∈ A ∧ Dom.kindAt t x ≠ 2) :
    (Dom.putT (t ++ [⟨Dom.bareP (.mk 2 0 [] [] s []), -1, []⟩]) p b t.length).2 = true ∧ Calls Try.prog 43 #[.pointer (some ⟨R, 0, none⟩), .int .i64 p, .int .i64 b, .string (bs s)] w fun e w' => e = .returned (.bool true) ∧ TurnedK w w' base R S (Dom.putT (t ++ [⟨Dom.bareP (.mk 2 0 [] [] s []), -1, []⟩]) p b t.length).1 := by
  have hK := h
  have hf6 : t.length ≤ 1000000 := by omega
  obtain ⟨g, cap, rs, h⟩ := h.read hG hf6
  have HTK := ptakes_any w base R g cap S rs t p b h
  rw [decide_eq_true hT] at HTK
  have HTK := hid HTK
  have hlen := h.mod.len
  have hkid : ∀ y ∈ A ++ B, y < t.length := fun y hy => (hG.kid p y (by rw [h1]; exact hy)).1
  have HAH := pahead_any w base R g t.length cap S rs h.tree hlen.symm h.few p hp b (by rw [← h3]; exact (Dom.headI_is B).imp (fun e => e) fun ⟨y, e, hy⟩ => ⟨y, e, hkid y (List.mem_append_right _ hy)⟩)
  have eA : Dom.prv (lkOf rs) p b = Dom.lastI A := by
    rw [← h3]
    exact (h.mod.lks.chain p hp A B h1).2
  rw [eA] at HAH
  have HAH := hid HAH
  have htop := h.top
  -- the new node
  have HM := hid (show Calls Try.prog 60 #[.pointer (some ⟨R, 0, none⟩), .agg #[.int .u8 2, .int .u8 0, .string ⟨#[]⟩, .slice none 0 0, .string (bs s), .slice none 0 0]] w fun e w' => e = .returned (.int .i64 t.length) ∧ TurnedK w w' base R S (t ++ [⟨Dom.bareP (.mk 2 0 [] [] s []), -1, []⟩]) from
    pmake_text w base R S t hK hG hf6 hbase (.mk 2 0 [] [] s []) (.inl rfl) none 0 0 none 0 0 (by show s.length ≤ 8000000; omega))
  -- it is put there
  have hG1 : Dom.Good (t ++ [⟨Dom.bareP (.mk 2 0 [] [] s []), -1, []⟩]) := Dom.good_snoc hG _ (by rw [Dom.bareP_kind]; show 1 ≤ 2 ∧ 2 ≤ 3; omega)
  have hk1 : Dom.kidsAt (t ++ [⟨Dom.bareP (.mk 2 0 [] [] s []), -1, []⟩]) p = Dom.kidsAt t p := by
    unfold Dom.kidsAt
    rw [Dom.nodeAt_snoc, if_neg (by omega)]
  have hpar1 : Dom.parAt (t ++ [⟨Dom.bareP (.mk 2 0 [] [] s []), -1, []⟩]) t.length = -1 := by
    unfold Dom.parAt
    rw [Dom.nodeAt_snoc, if_pos rfl]
  have hkn1 : Dom.kidsAt (t ++ [⟨Dom.bareP (.mk 2 0 [] [] s []), -1, []⟩]) t.length = [] := by
    unfold Dom.kidsAt
    rw [Dom.nodeAt_snoc, if_pos rfl]
  have hpl := (placeL_takes hG hp).1 hT.2
  have hl1 : (t ++ [(⟨Dom.bareP (.mk 2 0 [] [] s []), -1, []⟩ : Dom.TN)]).length = t.length + 1 := by simp
  have hT1 : Takes (t ++ [⟨Dom.bareP (.mk 2 0 [] [] s []), -1, []⟩]) p b := by
    refine ⟨⟨⟨by omega, by rw [hl1]; omega⟩, hT.1.2.imp (fun e => e) fun e => ?_⟩, (placeL_takes hG1 (by rw [hl1]; omega)).2 (by rw [hk1]; exact hpl)⟩
    rw [show ((p : Int)).toNat = p by omega] at e ⊢
    unfold Dom.kindAt
    rw [Dom.nodeAt_snoc, if_neg (by omega)]
    exact e
  have hbi : b ≠ (t.length : Int) := fun e => by
    rcases Dom.headI_is B with q | ⟨y, q, hy⟩
    · omega
    · have := hkid y (List.mem_append_right _ hy)
      omega
  have h0 := List.length_pos_iff.2 hG.some
  have hput := put_new hG1 (i := t.length) (by rw [hl1]; omega) (by omega) hT1 (by rw [hl1]; omega) (by omega) hbi hpar1 hkn1
  have HIN := hid fun (w5 : World) S5 (hT5 : Turn S S5 w w5) (hK5 : TreeK w5 base R S5 (t ++ [⟨Dom.bareP (.mk 2 0 [] [] s []), -1, []⟩])) =>
    (pins_any w5 base R S5 _ hK5 hG1 (by rw [hl1]; omega) p t.length b (by rw [hl1]; omega) (by rw [hl1]; omega) (by omega) hpar1 (by rw [hk1]; exact hpl)).mono fun e w' ⟨q1, q2⟩ =>
      (show e = Ending.returned (.tuple #[]) ∧ TurnedK w w' base R S (Dom.putT (t ++ [(⟨Dom.bareP (.mk 2 0 [] [] s []), -1, []⟩ : Dom.TN)]) p b t.length).1 from ⟨q1, by rw [hput]; exact TurnedK.after hT5 q2⟩)
  refine ⟨by rw [hput], ?_⟩
  generalize (Dom.putT (t ++ [(⟨Dom.bareP (.mk 2 0 [] [] s []), -1, []⟩ : Dom.TN)]) p b t.length).1 = RES at *
  generalize t ++ [(⟨Dom.bareP (.mk 2 0 [] [] s []), -1, []⟩ : Dom.TN)] = T1 at *
  have hE : (bs s).toList.isEmpty = false := by
    rw [bs_toL]
    cases s with
    | nil => exact absurd rfl hs
    | cons a r => rfl
  obtain ⟨SS, hSS⟩ : ∃ SS, bs s = SS := ⟨_, rfl⟩
  rw [hSS] at HM hE ⊢
  rcases hl with hl | ⟨x, hl, hx, hk⟩
  · rw [hl] at HAH
    clear h hK hG hT hlen hkid eA h1 h3 hl hSS hG1 hk1 hpar1 hkn1 hpl hl1 hT1 hbi h0 hput hs hsl
    go_enter Try.func43, Try.ntmps43
    go_wp2_with fail
    refine (HTK.out).mono ?_
    rintro e w2 ⟨rfl, rfl⟩
    go_wp2_with fail
    refine (HAH.out).mono ?_
    rintro e w3 ⟨rfl, rfl⟩
    go_wp2_with fail
    refine (HM.out).mono ?_
    rintro e w4 ⟨rfl, S4, hK4, hT4⟩
    have HI := hid (HIN.out _ _ hT4 hK4)
    clear hK4 hT4
    go_wp2_with fail
    refine (HI.out).mono ?_
    rintro e w5 ⟨rfl, hR⟩
    have HR := hid hR
    clear hR
    go_wp2
    go_ret
    exact ⟨rfl, HR.out⟩
  · rw [hl] at HAH
    have hxl := hkid x (List.mem_append_left _ hx)
    obtain ⟨r, hr, X, F, eN⟩ := h.at_ hxl
    have x0 := X.c0
    obtain ⟨K, hKK⟩ : ∃ K, Dom.kindAt t x = K := ⟨_, rfl⟩
    rw [hKK] at x0 hk
    have dk : ((K : Int) == 2) = false := by simp; omega
    obtain ⟨n, hn⟩ : ∃ n, List.length t = n := ⟨_, rfl⟩
    rw [hn] at htop hxl HM HIN
    have hx3 : (x : Int) < (n : Int) := by omega
    have zx : ((x : Int)).toNat = x := by omega
    have dx : ((x : Int) != -1) = true := by simp
    clear h hK hG hT hlen hkid eA h1 h3 hl hSS hG1 hk1 hpar1 hkn1 hpl hl1 hT1 hbi h0 hput hs hsl hr X F eN hx hn hk hKK
    go_enter Try.func43, Try.ntmps43
    go_wp2_with fail
    refine (HTK.out).mono ?_
    rintro e w2 ⟨rfl, rfl⟩
    go_wp2_with fail
    refine (HAH.out).mono ?_
    rintro e w3 ⟨rfl, rfl⟩
    go_wp2_with fail
    refine (HM.out).mono ?_
    rintro e w4 ⟨rfl, S4, hK4, hT4⟩
    have HI := hid (HIN.out _ _ hT4 hK4)
    clear hK4 hT4
    go_wp2_with fail
    refine (HI.out).mono ?_
    rintro e w5 ⟨rfl, hR⟩
    have HR := hid hR
    clear hR
    go_wp2
    go_ret
    exact ⟨rfl, HR.out⟩
/-- Write, of whatever numbers. -/
theorem pwrite_any (w : World) (base R : Nat) (S : Nat → Prop) (t : Dom.T) (p b : Int) (s : List UInt8) (h : TreeK w base R S t) (hG : Dom.Good t) (hf : t.length ≤ 100000) (hbase : base ≤ w.heap.size) (hsl : s.length ≤ 4000000) (htx : ∀ i, (Dom.nodeAt t i).nd.text.length ≤ 4000000) :
    Calls Try.prog 43 #[.pointer (some ⟨R, 0, none⟩), .int .i64 p, .int .i64 b, .string (bs s)] w fun e w' => e = .returned (.bool (Dom.writeT t p b s).2) ∧ TurnedK w w' base R S (Dom.writeT t p b s).1 := by
  have hf6 : t.length ≤ 1000000 := by omega
  by_cases hT : Takes t p b
  · obtain ⟨n, rfl, hp, _⟩ := Dom.holds_nat hT.1
    by_cases hs : s = []
    · subst hs
      have e : Dom.writeT t (n : Int) b [] = (t, true) := by
        unfold Dom.writeT
        rw [if_neg, if_pos rfl]
        rw [show ((n : Int)).toNat = n by omega]
        have := (placeL_takes hG hp).1 hT.2
        rintro (q | q)
        · exact q hT.1
        · omega
      rw [e]
      exact (pwrite_nil w base R S t n b h hG hf6 hT).mono fun e w' ⟨h1, h2⟩ => ⟨h1, by rw [h2]; exact TurnedK.same h (Below.refl _ _)⟩
    · obtain ⟨A, B, h1, h3, h2, ⟨x, hl, hx, hk, e⟩ | ⟨hl, e⟩⟩ := write_split hG hp hT hs
      · rw [e]
        exact pwrite_more w base R S t n x b s A B h hG hf6 hbase hT hs hsl hp h1 h3 hl hx hk (htx x)
      · have h9 := pwrite_new w base R S t n b s A B h hG hf hbase hT hs hsl hp h1 h3 hl
        rw [e]
        rw [h9.1]
        exact h9.2
  · have e : Dom.writeT t p b s = (t, false) := by
      unfold Dom.writeT
      rw [if_pos]
      by_cases g : Dom.holds t p
      · obtain ⟨n, rfl, hp, _⟩ := Dom.holds_nat g
        right
        rw [show ((n : Int)).toNat = n by omega]
        have : ¬ 0 ≤ Dom.placeL (Dom.kidsAt t n) b := fun q => hT ⟨g, (placeL_takes hG hp).2 q⟩
        omega
      · exact .inl g
    rw [e]
    exact (pwrite_no w base R S t p b s h hG hf6 hT).mono fun e w' ⟨h1, h2⟩ => ⟨h1, by rw [h2]; exact TurnedK.same h (Below.refl _ _)⟩
end Go.Proofs.Ytlgmjnnfndedbaa
