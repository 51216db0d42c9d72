/- Walks over the program's package dom: cloned, bare. Walks over the program's package dom: add, New. -/
import Derived.Test.YthbklcpjbeelhaaAppT
import Derived.Test.YthbklcpjbeelhaaNodeArg
import Derived.Test.YthbklcpjbeelhaaShelf
import Derived.Test.YthbklcpjbeelhaaTreeGrow
import Derived.Test.YthbklcpjbeelhaaLinkA
import Derived.Deep.RegionLaw
import Derived.Deep.RegionHeld3
import Derived.Deep.LoopGhost
namespace Go.Proofs.Ythbklcpjbeelhaa
open Go.RowKit Go.Lib
set_option maxRecDepth 100000
set_option linter.unusedVariables false

theorem tclone (s : ByteArray) (w : World) (hlim : s.size ≤ 281474976710656) :
    Calls Try.prog 36 #[.string s] w fun e w' => e = .returned (.string s) ∧ Below w.heap.size w w' := by
  have H := hid fun W => Try.stringslite_Clone s W hlim
  go_enter Try.func36, Try.ntmps36
  go_wp2_with fail
  refine (H.out _).mono ?_
  rintro e w1 ⟨rfl, b1⟩
  go_wp2
  go_ret
  exact ⟨rfl, b1⟩
theorem bs_len (l : List UInt8) : (bs l).size = l.length := by rw [size_eq]; rfl
/-- Attributes that are not too long. -/
def ShortA (L : List (List UInt8 × List UInt8)) : Prop := ∀ x ∈ L, x.1.length ≤ 281474976710656 ∧ x.2.length ≤ 281474976710656
set_option maxHeartbeats 8000000 in
theorem pcloned_any (w : World) (aa : Option Addr) (an ac : Nat) (L : List (List UInt8 × List UInt8)) (hA : IsA w aa an L) (hn : an ≤ 1000000000) (hs : ShortA L) :
    Calls Try.prog 37 #[.slice aa an ac] w fun e w' => ∃ v, e = .returned v ∧ w'.ownsRow w.heap.size 67 2 v L.length (pairL L) ∧ Below w.heap.size w w' := by
  have hl := hA.1
  have HA := hid hA
  have HS := hid hs
  have HLN := hid hl
  clear hA hs hl
  go_enter Try.func37, Try.ntmps37
  go_wp2
  go_loopg [3, 8] an (fun gg ov iv wr => ∃ (j : Nat) (v : Value), v = ov ∧ j + gg = an ∧ iv = .int .i64 j ∧ Hid (wr.ownsRow w.heap.size 67 2 v (L.take j).length (pairL (L.take j))) ∧ Hid (Below w.heap.size w wr))
  case atStart => exact ⟨0, _, rfl, by omega, rfl, hid (World.ownsRow_nil _ _ _ _), hid (Below.refl _ _)⟩
  case round =>
    obtain ⟨j, v, rfl, hj, rfl, hO, hB⟩ := hrel
    by_cases hlt : j < an
    · have d1 : decide (j < an) = true := decide_eq_true hlt
      have hltI : (j : Int) < (an : Int) := by omega
      obtain ⟨x, hx⟩ : ∃ x, L[j]? = some x := ⟨_, List.getElem?_eq_getElem (by have := HLN.out; omega)⟩
      obtain ⟨b0, o0, rfl, hat⟩ := HA.out.2.resolve_left (by omega)
      obtain ⟨c0, c1⟩ := hat j x hx
      have c0' := cell_up c0 hB.out
      have c1' := cell_up c1 hB.out
      obtain ⟨hs1, hs2⟩ := HS.out x (List.mem_of_getElem? hx)
      have HC1 := hid fun W => tclone (bs x.1) W (by rw [bs_len]; exact hs1)
      have HC2 := hid fun W => tclone (bs x.2) W (by rw [bs_len]; exact hs2)
      have j1 : (0 : Int) ≤ (j : Int) := by omega
      have j3 : ((j : Int)).toNat = j := by omega
      have N1 := BlkW.new wr #[.string (bs x.1), .string (bs x.2)] 67
      have HTk : Hid (L.take (j + 1) = L.take j ++ [x]) := hid (by rw [List.take_add_one, hx]; rfl)
      have hln : (L.take j).length + 1 ≤ 4294967296 := by rw [List.length_take]; omega
      obtain ⟨A, hAe⟩ : ∃ A, L.take j = A := ⟨_, rfl⟩
      rw [hAe] at hO HTk hln
      have e2 : Below wr.heap.size wr (wr.alloc (.cells #[.string (bs x.1), .string (bs x.2)] 67)) := (Below.refl _ wr).alloc (Nat.le_refl _) _
      have HOW := hid fun W (hW : Below wr.heap.size wr W) => own_below hO.out hW
      have HOLD := hid fun W (hW : Below wr.heap.size wr W) => hB.out.trans (hW.mono hB.out.size)
      have hsz := hid hB.out.size
      obtain ⟨X1, hX1⟩ : ∃ X1, bs x.1 = X1 := ⟨_, rfl⟩
      obtain ⟨X2, hX2⟩ : ∃ X2, bs x.2 = X2 := ⟨_, rfl⟩
      have HX1 := hid hX1
      have HX2 := hid hX2
      rw [hX1] at HC1 c0' N1 e2
      rw [hX2] at HC2 c1' N1 e2
      rw [hX1] at c0
      rw [hX2] at c1
      have y0 : ∀ W, Below (wr.alloc (.cells #[.string X1, .string X2] 67)).heap.size (wr.alloc (.cells #[.string X1, .string X2] 67)) W → W.cell? ⟨wr.heap.size, 0, none⟩ = some (.string X1) := fun W hW => cell_up (N1.cell 0) hW
      have y1 : ∀ W, Below (wr.alloc (.cells #[.string X1, .string X2] 67)).heap.size (wr.alloc (.cells #[.string X1, .string X2] 67)) W → W.cell? ⟨wr.heap.size, 1, none⟩ = some (.string X2) := fun W hW => cell_up (N1.cell 1) hW
      clear hat hx hX1 hX2 hO hB hAe N1 c0 c1 hs1 hs2
      go_wp2
      obtain ⟨W1, hW1⟩ : ∃ W1, wr.alloc (.cells #[.string X1, .string X2] 67) = W1 := ⟨_, rfl⟩
      rw [hW1] at y0 y1 e2 ⊢
      clear hW1
      have e0 := (Below.refl W1.heap.size W1).drew
      have e1 := Below.refl W1.heap.size W1
      have z0 := y0 _ e0
      have z1 := y1 _ e0
      have z2 := y0 _ e1
      have z3 := y1 _ e1
      go_region_law (first
        | (refine step_call rfl rfl (enters_of Try.func36 (by kernel_rfl) rfl) ?_
           first
             | (refine (HC1.out _).mono ?_)
             | (refine (HC2.out _).mono ?_)
           rintro e w5 ⟨rfl, b5⟩
           refine ⟨_, rfl, ?_⟩
           replace e0 := e0.trans (b5.mono e0.size)
           have z0 := y0 _ e0
           have z1 := y1 _ e0
           clear b5)
        | (have e5 := e2.trans (e0.mono e2.size)
           have NB := BlkW.new w5 #[.string X1, .string X2] 67
           have al := (Below.refl w5.heap.size w5).alloc (Nat.le_refl _) (.cells #[.string X1, .string X2] 67)
           have e6 := hid (e5.trans (al.mono e5.size))
           refine step_T1 rfl _ _ rfl w.heap.size _ A rfl (HOW.out _ e6.out) ⟨w5.heap.size, 0, none⟩ 1 x rfl (by rw [HX1.out]; exact NB.cell 0) (by rw [HX2.out]; exact NB.cell 1) hln (Nat.le_trans hsz.out e6.out.size) ?_
           intro v' w' own2 gr2
           have HE := hid own2
           have HBW := hid (show Below w.heap.size w w' from (HOLD.out _ e6.out).grown gr2 (HOLD.out _ e6.out).size (own_ge (HOW.out _ (Below.refl _ _))))
           clear own2 gr2 NB al))
      all_goals go_wp2
      all_goals go_roundg (an - (j + 1))
      all_goals first
        | exact ⟨j + 1, v', rfl, by omega, by go_num, by rw [HTk.out]; exact HE, HBW⟩
        | omega
    · have d1 : decide (j < an) = false := decide_eq_false hlt
      obtain rfl : j = an := by omega
      rw [List.take_of_length_le (by have := HLN.out; omega)] at hO
      go_wp2
      go_ret
      exact ⟨_, rfl, hO.out, hB.out⟩
theorem own_wide {w : World} {base base' : Nat} {e : TypeId} {size : Nat} {v : Value} {n : Nat} {xs : List Value} (h : w.ownsRow base e size v n xs) (hb : base' ≤ base) : w.ownsRow base' e size v n xs := by
  obtain ⟨q, q2⟩ := h
  exact ⟨q, q2.imp (fun e => e) fun ⟨g', cap, cur, a1, a2, a3⟩ => ⟨g', cap, cur, a1, by omega, a3⟩⟩
set_option maxHeartbeats 4000000 in
/-- A node without its kids, as a value. -/
theorem pbare_any (w : World) (base R g cap : Nat) (S : Nat → Prop) (rs : List PR) (t : Dom.T) (i : Nat) (h : ReadK w base R S g cap rs t) (hi : i < t.length)
    (hs : ShortA (Dom.nodeAt t i).nd.atts) (hsn : (Dom.nodeAt t i).nd.name.length ≤ 281474976710656) (han : (Dom.nodeAt t i).nd.atts.length ≤ 1000000000) :
    Calls Try.prog 40 #[.pointer (some ⟨R, 0, none⟩), .int .i64 i] w fun e w' => BareV w w' e (Dom.nodeAt t i).nd ∧ Below w.heap.size w w' := by
  have h1 := h.top
  obtain ⟨r, hr, X, F, eN⟩ := h.at_ hi
  have hA := X.atts
  have hT := F.text
  rw [eN] at hT
  obtain ⟨ta, tc, htv, hTB⟩ := hT.isB
  have x0 := X.c0
  have x1 := X.c1
  have x2 := X.c2
  have x3 := X.c3
  have x4 := X.c4
  rw [htv] at x4
  unfold Dom.kindAt at x0
  unfold BareV
  generalize (Dom.nodeAt t i).nd = y at *
  obtain ⟨NM, hNM⟩ : ∃ NM, bs y.name = NM := ⟨_, rfl⟩
  obtain ⟨TX, hTX⟩ : ∃ TX, bs y.text = TX := ⟨_, rfl⟩
  obtain ⟨K, hK⟩ : ∃ K, y.kind = K := ⟨_, rfl⟩
  obtain ⟨SP, hSP⟩ : ∃ SP, y.space = SP := ⟨_, rfl⟩
  obtain ⟨ats, hat⟩ : ∃ ats, y.atts = ats := ⟨_, rfl⟩
  have HCV := hid fun W (hW : Below w.heap.size w W) => (show (convert 55 9 (.slice ta y.text.length tc)).run Try.prog W = .ok (.string TX) W from by
    rw [← hTX]
    exact conv_bytes (hTB.below hW) tc)
  have HCL := hid fun W => tclone NM W (by rw [← hNM, bs_len]; exact hsn)
  rw [hat] at hA hs han ⊢
  have hal := hA.1
  generalize r.ad = aa at *
  generalize r.an = an at *
  generalize r.ac = ac at *
  have HCD := hid fun W (hW : Below w.heap.size w W) => pcloned_any W aa an ac ats (hA.below hW) (by omega) hs
  rw [hK] at x0
  rw [hSP] at x1
  rw [hNM] at x2
  generalize y.text.length = tn at *
  rw [hNM, hTX, hK, hSP]
  obtain ⟨n, hn⟩ : ∃ n, List.length t = n := ⟨_, rfl⟩
  rw [hn] at h1 hi
  have hi3 : (i : Int) < (n : Int) := by omega
  have zi : ((i : Int)).toNat = i := by omega
  have HU := hid fun W (hW : Below w.heap.size w W) => And.intro (cell_up x0 hW) (And.intro (cell_up x1 hW) (And.intro (cell_up x2 hW) (And.intro (cell_up x3 hW) (cell_up x4 hW))))
  have b1 : Below w.heap.size w (w.alloc (.cells #[.int .u8 0, .int .u8 0, .string ⟨#[]⟩, .slice none 0 0, .string ⟨#[]⟩, .slice none 0 0] 32)) := (Below.refl w.heap.size w).alloc (Nat.le_refl _) _
  have P := BlkW.new w #[.int .u8 0, .int .u8 0, .string ⟨#[]⟩, .slice none 0 0, .string ⟨#[]⟩, .slice none 0 0] 32
  have h1' := cell_up h1 b1
  clear x0 x1 x2 x3 x4 X F hr h hn hT hTB hA htv hNM hTX hK hSP hat hs hsn eN hal
  go_enter Try.func40, Try.ntmps40
  go_wp2
  obtain ⟨W1, hW1⟩ : ∃ W1, w.alloc (.cells #[.int .u8 0, .int .u8 0, .string ⟨#[]⟩, .slice none 0 0, .string ⟨#[]⟩, .slice none 0 0] 32) = W1 := ⟨_, rfl⟩
  rw [hW1] at b1 P ⊢
  clear hW1 h1'
  have E0 := b1
  have E1 := b1.drew
  have e0 : Below W1.heap.size W1 W1.drew := (Below.refl _ W1).drew
  have hs1 : w.heap.size < W1.heap.size := P.lt
  obtain ⟨H, hH⟩ : ∃ H, w.heap.size = H := ⟨_, rfl⟩
  rw [hH] at HCD HU HCV E0 E1 P hs1 ⊢
  have HH := hid hH
  clear hH
  have HP := hid P
  have HO := hid True.intro
  have HS1 := hid hs1
  have SF := hid (And.intro (HU.out _ E1) (HCV.out _ E1))
  have SG := hid (And.intro (HU.out _ E0) (HCV.out _ E0))
  clear P b1 hs1
  go_region_held3 (fun w' => (w'.cell? ⟨g, i * 10, none⟩ = some (.int .u8 K) ∧ w'.cell? ⟨g, i * 10 + 1, none⟩ = some (.int .u8 SP) ∧ w'.cell? ⟨g, i * 10 + 2, none⟩ = some (.string NM) ∧ w'.cell? ⟨g, i * 10 + 3, none⟩ = some (.slice aa an ac) ∧ w'.cell? ⟨g, i * 10 + 4, none⟩ = some (.slice ta tn tc)) ∧ (convert 55 9 (.slice ta tn tc)).run Try.prog w' = .ok (.string TX) w') (first | with_reducible exact SZ.out | with_reducible exact SF.out | with_reducible exact SG.out)
    (first
      | (go_at_call 36; (with_reducible refine (HCL.out _).mono ?_); rintro e w5 ⟨rfl, b5⟩; replace E1 := E1.trans (b5.mono (Nat.le_trans (Nat.le_of_lt HS1.out) e0.size)); replace e0 := e0.trans (b5.mono e0.size); have SF := hid (And.intro (HU.out _ E1) (HCV.out _ E1)); (first | (have HO := hid (own_below HO.out b5); have E7 := (((((E1.setCell (p := ⟨H, 0, none⟩) (Nat.le_refl _) (.int .u8 K)).setCell (p := ⟨H, 1, none⟩) (Nat.le_refl _) (.int .u8 SP)).setCell (p := ⟨H, 2, none⟩) (Nat.le_refl _) (.string NM)).setCell (p := ⟨H, 3, none⟩) (Nat.le_refl _) (.slice a5 ats.length c5)).setCell (p := ⟨H, 4, none⟩) (Nat.le_refl _) (.string TX)).setCell (p := ⟨H, 5, none⟩) (Nat.le_refl _) (.slice none 0 0); have SZ := hid (And.intro (HU.out _ E7) (HCV.out _ E7)); clear E7) | skip); have P5 := HP.out.below e0 HS1.out; have r0 := P5.cell 0; have r1 := P5.cell 1; have r2 := P5.cell 2; have r3 := P5.cell 3; have r4 := P5.cell 4; have r5 := P5.cell 5; have f0 := P5.free 0; have f1 := P5.free 1; have f2 := P5.free 2; have f3 := P5.free 3; have f4 := P5.free 4; have f5 := P5.free 5; simp only [List.getElem?_toArray, List.getElem?_cons_zero, List.getElem?_cons_succ] at r0 r1 r2 r3 r4 r5; clear P5 b5)
      | (go_at_call 37; (with_reducible refine (HCD.out _ E1).mono ?_); rintro e w5 ⟨v5, rfl, own5, b5⟩; obtain ⟨a5, c5, hv5, _⟩ := own_isT' own5; subst hv5; have HO := hid (own_wide (base' := W1.heap.size) own5 e0.size); replace E1 := E1.trans (b5.mono (Nat.le_trans (Nat.le_of_lt HS1.out) e0.size)); replace e0 := e0.trans (b5.mono e0.size); have SF := hid (And.intro (HU.out _ E1) (HCV.out _ E1)); have E7 := (((((E1.setCell (p := ⟨H, 0, none⟩) (Nat.le_refl _) (.int .u8 K)).setCell (p := ⟨H, 1, none⟩) (Nat.le_refl _) (.int .u8 SP)).setCell (p := ⟨H, 2, none⟩) (Nat.le_refl _) (.string NM)).setCell (p := ⟨H, 3, none⟩) (Nat.le_refl _) (.slice a5 ats.length c5)).setCell (p := ⟨H, 4, none⟩) (Nat.le_refl _) (.string TX)).setCell (p := ⟨H, 5, none⟩) (Nat.le_refl _) (.slice none 0 0); have SZ := hid (And.intro (HU.out _ E7) (HCV.out _ E7)); clear E7; have P5 := HP.out.below e0 HS1.out; have r0 := P5.cell 0; have r1 := P5.cell 1; have r2 := P5.cell 2; have r3 := P5.cell 3; have r4 := P5.cell 4; have r5 := P5.cell 5; have f0 := P5.free 0; have f1 := P5.free 1; have f2 := P5.free 2; have f3 := P5.free 3; have f4 := P5.free 4; have f5 := P5.free 5; simp only [List.getElem?_toArray, List.getElem?_cons_zero, List.getElem?_cons_succ] at r0 r1 r2 r3 r4 r5; clear P5 b5; clear own5))
  all_goals
    have P5 := HP.out.below e0 HS1.out
    obtain ⟨W7, hW7, z0, z1, z2, z3, z4, z5, hb7, hk7⟩ := node_store P5 E1 (Nat.le_refl _) (.int .u8 K) (.int .u8 SP) (.string NM) (.slice a5 ats.length c5) (.string TX) (.slice none 0 0)
    have own5 := HO.out
    have hty := own_typ own5
    have hob := own_blk own5
    obtain ⟨a6, c6, e6, hI, _, _, hge, hx⟩ := own_isT' own5
    injection e6 with e6 _ e7
    subst e6
    subst e7
    have hlt := HS1.out
    have HR := hid (show IsA W7 a5 ats.length ats ∧ InS (fun k => H ≤ k) a5 ats.length ∧ (a5 = none → c5 = 0) ∧ TypB W7 a5 ∧ (∀ p, a5 = some p → H ≤ p.block) ∧ OwnB W7 67 a5 ats.length from
      ⟨isA_in hI (S := fun k => W1.heap.size ≤ k) (.inr hge) (fun k hk => hk7 k (by omega)), .inr (fun q hq => by have := hge q hq; omega), hx, hty.heap fun p hp => hk7 _ (by have := hge p hp; omega), fun p hp => by have := hge p hp; omega, hob.keep (S := fun k => k ≠ H) (.inr fun p hp => by have := hge p hp; omega) fun k hk => hk7 k hk⟩)
    have HB7 := hid hb7
    rw [hW7]
    clear hW7 hb7 hk7 hI hge hx hty hob own5 P5 HO SZ SF SG r0 r1 r2 r3 r4 r5 f0 f1 f2 f3 f4 f5 E0 E1 e0 hlt
    go_wp2
    refine bodyPost_ret (v := .agg #[.int .u8 K, .int .u8 SP, .string NM, .slice a5 ats.length c5, .string TX, .slice none 0 0]) (by simp [results, Try.results40, go_sem, z0, z1, z2, z3, z4, z5]) rfl ?_
    obtain ⟨k1, k2, k3, k4, k5, k6⟩ := HR.out
    rw [HH.out]
    exact ⟨⟨a5, c5, rfl, k1, k2, k3, k4, k5, k6⟩, HB7.out⟩
end Go.Proofs.Ythbklcpjbeelhaa
namespace Go.Proofs.Ythbklcpjbeelhaa
open Go.RowKit Go.Lib
set_option maxRecDepth 100000
set_option linter.unusedVariables false

theorem info_pnode : (Try.prog.info? 57).map (fun i => (i.zero, i.size, i.bytes)) = some (some (.agg #[.int .u8 0, .int .u8 0, .string ⟨#[]⟩, .slice none 0 0, .slice none 0 0, .int .i64 0, .int .i64 0, .int .i64 0, .int .i64 0, .int .i64 0]), 10, 112) := by kernel_rfl
/-- 'append(l, n)', l the call's own row of nodes. -/
theorem step_P {w : World} {ops : Array Oper} {o : Oper} {a : Act} {K : Act → World → Prop} {Q : Exit → Act → World → Prop} {E : Prop} (hgd : o.guard = none) (s x : Operand)
    (ho : o.op = .call { callee := .builtin .append, args := #[s, x], argTypes := #[51, 51] })
    (base n : Nat) (v : Value) (rs : List PR) (hs : a.eval s = v) (hown : w.ownsRow base 57 10 v n (rowsP rs))
    (ad : Addr) (c : Nat) (r : PR) (hx : a.eval x = .slice (some ad) 1 c) (hnew : ∀ j, j < 10 → w.cell? (ad.add j) = (rowP r)[j]?) (hone : r.tv.oneCell' = true)
    (hlen : n + 1 ≤ 1000000000) (hbase : base ≤ w.heap.size)
    (h : ∀ v' w', w'.ownsRow base 57 10 v' (n + 1) (rowsP (rs ++ [r])) → w.grownBy w' v.ownBlock → (v'.ownBlock = v.ownBlock ∨ v'.ownBlock = some w.heap.size) → K (a.put o.dst v') w') :
    if Region.wanted o (yielded ops a.tmps) = true then Oper.wp Try.prog o a w K Q else E := by
  have hw : Region.wanted o (yielded ops a.tmps) = true := by simp [Region.wanted, hgd]
  rw [if_pos hw]
  obtain ⟨i0, hi, hz0, hz1, hz2⟩ := info_parts info_pnode
  obtain ⟨v', w', hr, h2, h3, _, h5⟩ := run_append_own_at (P := Try.prog) w base 51 o.type 57 i0 _ 10 112 Try.underlying51 hi hz0 hz1 hz2 rfl (by decide) v n (rowsP rs) hown ad 1 c (rowP r) rfl
    (fun j u hj => by
      by_cases hj8 : j < 10
      · rw [hnew j hj8, hj]
      · rw [List.getElem?_eq_none (by rw [rowP_len]; omega)] at hj; cases hj) (rowP_one r hone) (by unfold maxLen; omega) (by omega) hbase
  unfold Oper.wp execOp
  simp only [ho, resolve, invoke, builtin, Sem.run_bind, Sem.run_pure, Result.andThen_ok, List.map_toArray, List.map_cons, List.map_nil, hs, hx, hr]
  refine h v' w' ?_ h3 h5
  rw [rowsP_append]
  simpa [rowsP] using h2
/-- The tree with a new node at the end. -/
theorem TreeL.push {w w6 w7 : World} {base R : Nat} {S Q : Nat → Prop} {v v' : Value} {rs : List PR} (h : TreeL w base R S v rs) (hb : Below w.heap.size w w6) (hbase : base ≤ w.heap.size) {r : PR}
    (own' : w7.ownsRow base 57 10 v' (rs.length + 1) (rowsP (rs ++ [r]))) (gr : w6.grownBy w7 v.ownBlock) (loc : v'.ownBlock = v.ownBlock ∨ v'.ownBlock = some w6.heap.size)
    (hfit : FitsP w base Q r) (hQ : ∀ k, Q k → base ≤ k ∧ k < w.heap.size) (hap : ∀ (i : Nat) ri, rs[i]? = some ri → ∀ g, ri.tv.ownBlock = some g → r.tv.ownBlock ≠ some g) :
    ∃ S', TreeL (w7.setCell ⟨R, 0, none⟩ v') base R S' v' (rs ++ [r]) ∧ Turn (fun k => S k ∨ Q k) S' w (w7.setCell ⟨R, 0, none⟩ v') := by
  have h6 := h.below hb
  have tyN : ∀ g, v.ownBlock = some g → ∃ cs, BlkW w6 g cs 57 := fun g hg => own_cells h6.own hg
  have keepF : ∀ {Q : Nat → Prop} {r : PR}, FitsP w6 base Q r → (∀ p, r.ad = some p → p.block ≠ R) → (∀ g, r.tv.ownBlock = some g → g ≠ R) → FitsP (w7.setCell ⟨R, 0, none⟩ v') base Q r := by
    intro Q r F ha hk
    have e1 : ∀ p, r.ad = some p → (w7.setCell ⟨R, 0, none⟩ v').heap[p.block]? = w6.heap[p.block]? := fun p hp => by
      rw [Below.heap_setCell _ _ _ _ (ha p hp)]
      refine gr.block _ (F.typ.lt p hp) fun e => ?_
      obtain ⟨cs, hc⟩ := tyN p.block e.symm
      exact F.typ.ne hc pnode_ne_attr p hp rfl
    exact ⟨isA_in F.atts (S := fun k => ∃ p, r.ad = some p ∧ p.block = k) (.inr fun p hp => ⟨p, hp, rfl⟩) (by rintro k ⟨p, hp, rfl⟩; exact e1 p hp), F.typ.heap e1, F.inS, F.anil,
      F.text.keep fun g hg => by
        rw [Below.heap_setCell _ _ _ _ (hk g hg)]
        obtain ⟨ds, fr, hd⟩ := F.text.cells hg
        refine gr.block _ (F.text.lt hg).2 fun e => ?_
        obtain ⟨cs, hc⟩ := tyN g e.symm
        exact blk_neM hc hd pnode_ne_u8 rfl, F.tS⟩
  have hRlt : R < w.heap.size := (h.inb R h.rS).2
  have hs7 := gr.size
  have hs6 := hb.size
  have hfit6 : FitsP w6 base Q r := hfit.keep (fun _ e => e) fun k hk => hb.block k (hQ k hk).2
  have tR : BlkW w7 R #[v] 53 := (gr.block R h6.top.lt fun e => by
    obtain ⟨cs, hc⟩ := tyN R e.symm
    exact blk_ne hc h6.top pnode_ne_tree rfl).trans h6.top
  have v7 := own'.lt
  have nR : ∀ g, v'.ownBlock = some g → R ≠ g := fun g hg e => by
    obtain ⟨cs, hc⟩ := own_cells own' hg
    subst e
    exact blk_ne hc tR pnode_ne_tree rfl
  refine ⟨fun k => (S k ∨ Q k) ∨ (w.heap.size ≤ k ∧ k < w7.heap.size), ⟨?_, .inl (.inl h.rS), ?_, ?_, ?_, ?_, ?_⟩, ?_⟩
  · have := tR.set_ 0 v'
    exact this
  · rw [List.length_append]
    exact own_keep own' fun g hg => Below.heap_setCell _ _ _ _ (fun e => nR g hg e.symm)
  · intro g hg
    rcases loc with e | e
    · rw [e] at hg
      exact .inl (.inl (h.vS g hg))
    · have := v7 g hg
      rw [e] at hg
      have := Option.some.inj hg
      exact .inr ⟨by omega, by omega⟩
  · intro i ri hri
    by_cases hi : i < rs.length
    · rw [List.getElem?_append_left hi] at hri
      have F := h6.fits i ri hri
      refine (keepF F (fun p hp e => ?_) (fun g hg e => ?_)).keep (fun k hk => .inl (.inl hk)) fun _ _ => rfl
      · exact F.typ.ne h6.top (by decide) p hp e
      · obtain ⟨ds, fr, hd⟩ := F.text.cells hg
        subst e
        exact blk_neM h6.top hd (by decide) rfl
    · rw [List.getElem?_append_right (by omega)] at hri
      have e0 : i - rs.length = 0 := by
        have := (List.getElem?_eq_some_iff.1 hri).1
        simp at this
        omega
      rw [e0] at hri
      injection hri with hri
      subst hri
      refine (keepF hfit6 (fun p hp e => ?_) (fun g hg e => ?_)).keep (fun k hk => .inl (.inr hk)) fun _ _ => rfl
      · exact hfit6.typ.ne h6.top (by decide) p hp e
      · obtain ⟨ds, fr, hd⟩ := hfit6.text.cells hg
        subst e
        exact blk_neM h6.top hd (by decide) rfl
  · intro i j ri rj hij hri hrj g hg
    by_cases hi : i < rs.length
    · rw [List.getElem?_append_left hi] at hri
      by_cases hj : j < rs.length
      · rw [List.getElem?_append_left hj] at hrj
        exact h.apart i j ri rj hij hri hrj g hg
      · rw [List.getElem?_append_right (by omega)] at hrj
        have e0 : j - rs.length = 0 := by
          have := (List.getElem?_eq_some_iff.1 hrj).1
          simp at this
          omega
        rw [e0] at hrj
        injection hrj with hrj
        subst hrj
        exact hap i ri hri g hg
    · rw [List.getElem?_append_right (by omega)] at hri
      have e0 : i - rs.length = 0 := by
        have := (List.getElem?_eq_some_iff.1 hri).1
        simp at this
        omega
      rw [e0] at hri
      injection hri with hri
      subst hri
      have hj : j < rs.length := by
        have := (List.getElem?_eq_some_iff.1 hrj).1
        simp at this
        omega
      rw [List.getElem?_append_left hj] at hrj
      exact fun e => hap j rj hrj g e hg
  · rintro k ((hk | hk) | hk)
    · have := h.inb k hk
      exact ⟨this.1, by simp [World.setCell]; omega⟩
    · have := hQ k hk
      exact ⟨this.1, by simp [World.setCell]; omega⟩
    · exact ⟨by omega, by simp [World.setCell]; exact hk.2⟩
  · refine ⟨gr.os.trans hb.os, gr.tape.trans hb.tape, gr.output.trans hb.output, by simp [World.setCell]; omega, fun k hk hn => ?_, fun k hk => hk.imp (fun e => e) fun q => q.1⟩
    rw [Below.heap_setCell _ _ _ _ (fun e => hn (by rw [e]; exact .inl h.rS))]
    exact (gr.block k (by omega) fun e => hn (.inl (h.vS k e.symm))).trans (hb.block k hk)
set_option maxHeartbeats 4000000 in
theorem padd_any (w : World) (base R : Nat) (S Q : Nat → Prop) (v : Value) (rs : List PR) (r : PR) (a0 a1 a2 a3 a4 : Int) (h : TreeL w base R S v rs) (hlen : rs.length ≤ 1000000) (hbase : base ≤ w.heap.size)
    (hfit : FitsP w base Q r) (hQ : ∀ k, Q k → base ≤ k ∧ k < w.heap.size) (hap : ∀ (i : Nat) ri, rs[i]? = some ri → ∀ g, ri.tv.ownBlock = some g → r.tv.ownBlock ≠ some g) (hlk : r.lk = Dom.Lk.none) (hone : r.tv.oneCell' = true) :
    Calls Try.prog 34 #[.pointer (some ⟨R, 0, none⟩), .agg #[.int .u8 r.nd.kind, .int .u8 r.nd.space, .string (bs r.nd.name), .slice r.ad r.an r.ac, r.tv, .int .i64 a0, .int .i64 a1, .int .i64 a2, .int .i64 a3, .int .i64 a4]] w fun e w' =>
      e = .returned (.int .i64 rs.length) ∧ ∃ S' v', TreeL w' base R S' v' (rs ++ [r]) ∧ Turn (fun k => S k ∨ Q k) S' w w' := by
  have h1 := h.top.cell 0
  have HP := hid fun (w6 w7 : World) v' hb own' gr loc => h.push (w6 := w6) (w7 := w7) (v' := v') (r := r) (Q := Q) hb hbase own' gr loc hfit hQ hap
  have HOW := hid fun W (hW : Below w.heap.size w W) => own_below h.own hW
  have HT7 := hid fun W (hW : Below w.heap.size w W) => h.top.below hW (h.inb R h.rS).2
  have HGR := hid fun g (hg : v.ownBlock = some g) => h.gR hg
  have HROW := hid (show rowP r = [.int .u8 r.nd.kind, .int .u8 r.nd.space, .string (bs r.nd.name), .slice r.ad r.an r.ac, r.tv, .int .i64 (-1), .int .i64 (-1), .int .i64 (-1), .int .i64 (-1), .int .i64 (-1)] by unfold rowP; rw [hlk]; rfl)
  simp only [List.getElem?_toArray, List.getElem?_cons_zero] at h1
  obtain ⟨n, hn⟩ : ∃ n, rs.length = n := ⟨_, rfl⟩
  rw [hn] at HP HOW hlen ⊢
  generalize hK : r.nd.kind = K at *
  generalize hSP : r.nd.space = SP at *
  generalize hNM : bs r.nd.name = NM at *
  generalize hAD : r.ad = aa at *
  generalize hAN : r.an = an at *
  generalize hAC : r.ac = ac at *
  generalize hTV : r.tv = tv at *
  have HTV : r.tv.oneCell' = true := by rw [hTV]; exact hone
  clear h hn hfit hQ hap hlk hK hSP hNM hAD hAN hAC
  go_enter Try.func34, Try.ntmps34
  go_wp2
  have N1 := BlkW.new w #[.int .u8 K, .int .u8 SP, .string NM, .slice aa an ac, tv, .int .i64 (-1), .int .i64 (-1), .int .i64 (-1), .int .i64 (-1), .int .i64 (-1)] 57
  have L1 := (Below.refl w.heap.size w).alloc (Nat.le_refl _) (.cells #[.int .u8 K, .int .u8 SP, .string NM, .slice aa an ac, tv, .int .i64 (-1), .int .i64 (-1), .int .i64 (-1), .int .i64 (-1), .int .i64 (-1)] 57)
  obtain ⟨W1, hW1⟩ : ∃ W1, w.alloc (.cells #[.int .u8 K, .int .u8 SP, .string NM, .slice aa an ac, tv, .int .i64 (-1), .int .i64 (-1), .int .i64 (-1), .int .i64 (-1), .int .i64 (-1)] 57) = W1 := ⟨_, rfl⟩
  rw [hW1] at N1 L1 ⊢
  clear hW1
  have L1d := L1.drew
  have h1' : W1.drew.cell? ⟨R, 0, none⟩ = some v := cell_up h1 L1d
  have n0 : W1.drew.cell? ⟨w.heap.size, 0, none⟩ = _ := N1.cell 0
  have n1 : W1.drew.cell? ⟨w.heap.size, 1, none⟩ = _ := N1.cell 1
  have n2 : W1.drew.cell? ⟨w.heap.size, 2, none⟩ = _ := N1.cell 2
  have n3 : W1.drew.cell? ⟨w.heap.size, 3, none⟩ = _ := N1.cell 3
  have n4 : W1.drew.cell? ⟨w.heap.size, 4, none⟩ = _ := N1.cell 4
  have n5 : W1.drew.cell? ⟨w.heap.size, 5, none⟩ = _ := N1.cell 5
  have n6 : W1.drew.cell? ⟨w.heap.size, 6, none⟩ = _ := N1.cell 6
  have n7 : W1.drew.cell? ⟨w.heap.size, 7, none⟩ = _ := N1.cell 7
  have n8 : W1.drew.cell? ⟨w.heap.size, 8, none⟩ = _ := N1.cell 8
  have n9 : W1.drew.cell? ⟨w.heap.size, 9, none⟩ = _ := N1.cell 9
  simp only [List.getElem?_toArray, List.getElem?_cons_zero, List.getElem?_cons_succ] at n0 n1 n2 n3 n4 n5 n6 n7 n8 n9
  obtain ⟨W2, hW2⟩ : ∃ W2, W1.drew = W2 := ⟨_, rfl⟩
  have L6 := L1d.alloc L1d.size (.cells #[.int .u8 K, .int .u8 SP, .string NM, .slice aa an ac, tv, .int .i64 (-1), .int .i64 (-1), .int .i64 (-1), .int .i64 (-1), .int .i64 (-1)] 57)
  have N6 := BlkW.new W1.drew #[.int .u8 K, .int .u8 SP, .string NM, .slice aa an ac, tv, .int .i64 (-1), .int .i64 (-1), .int .i64 (-1), .int .i64 (-1), .int .i64 (-1)] 57
  have NC := hid (show ∀ j, j < 10 → (W1.drew.alloc (.cells #[.int .u8 K, .int .u8 SP, .string NM, .slice aa an ac, tv, .int .i64 (-1), .int .i64 (-1), .int .i64 (-1), .int .i64 (-1), .int .i64 (-1)] 57)).cell? ((⟨W1.drew.heap.size, 0, none⟩ : Addr).add j) = (rowP r)[j]? from fun j _ => by
    rw [addr_add, Nat.zero_add, N6.cell j, HROW.out]
    simp)
  have HL6 := hid L6
  have h1'' : (W1.alloc (.cells #[.int .u8 K, .int .u8 SP, .string NM, .slice aa an ac, tv, .int .i64 (-1), .int .i64 (-1), .int .i64 (-1), .int .i64 (-1), .int .i64 (-1)] 57)).drew.cell? ⟨R, 0, none⟩ = some v := cell_up h1 L6
  clear N6 L6 N1 L1 hW2
  go_region_law (refine step_P rfl _ _ rfl base n _ rs rfl (HOW.out _ HL6.out) ⟨W1.drew.heap.size, 0, none⟩ 1 r rfl NC.out HTV (by omega) (Nat.le_trans hbase HL6.out.size) ?_
                 intro v' w' own2 gr2 loc2
                 have tR := (HT7.out _ HL6.out).grow gr2 (fun e => HGR.out R e.symm rfl)
                 have HR := hid (HP.out _ w' v' HL6.out own2 gr2 loc2)
                 obtain ⟨g', cap', hv', hc'⟩ := own_addr own2 (by omega)
                 subst hv'
                 have r0 := tR.cell 0
                 have q0 := tR.free 0
                 simp only [List.getElem?_toArray, List.getElem?_cons_zero] at r0
                 clear own2 gr2 loc2 tR)
  all_goals go_wp2
  all_goals go_ret
  all_goals
    obtain ⟨S', hT, hTu⟩ := HR.out
    exact ⟨rfl, S', _, hT, hTu⟩
/-- The root. -/
def zeroP : PR := ⟨.mk 0 0 [] [] [] [], none, 0, 0, .slice none 0 0, Dom.Lk.none⟩
theorem models_new : Models [zeroP] Dom.tNew := by
  refine ⟨rfl, fun i r hr => ?_, ?_⟩
  · have hi : i = 0 := by have := (List.getElem?_eq_some_iff.1 hr).1; simp at this; exact this
    subst hi
    injection hr with hr
    subst hr
    rfl
  · have : lkOf [zeroP] = fun _ => Dom.Lk.none := by
      funext k
      cases k with
      | zero => rfl
      | succ k => rfl
    rw [this]
    exact Dom.linked_new
set_option maxHeartbeats 4000000 in
theorem pnew_any (w : World) (base : Nat) (hbase : base ≤ w.heap.size) :
    Calls Try.prog 9 #[] w fun e w' => ∃ R, e = .returned (.pointer (some ⟨R, 0, none⟩)) ∧ TurnedK w w' base R (fun _ => False) Dom.tNew := by
  have P := BlkW.new w #[.slice none 0 0] 53
  have b1 := (Below.refl w.heap.size w).alloc (Nat.le_refl _) (.cells #[.slice none 0 0] 53)
  have HT : TreeL (w.alloc (.cells #[.slice none 0 0] 53)) base w.heap.size (fun k => k = w.heap.size) (.slice none 0 0) [] :=
    ⟨P, rfl, World.ownsRow_nil _ _ _ _, (fun g e => by cases e), (fun i r e => by cases e), (fun i j ri rj _ e => by cases e), fun k e => by subst e; simp; exact hbase⟩
  have HF : FitsP (w.alloc (.cells #[.slice none 0 0] 53)) base (fun _ => False) zeroP :=
    ⟨⟨rfl, .inl rfl⟩, (fun p e => by cases e), (fun p e => by cases e), fun _ => rfl, OwnM.nil _ _, fun g e => by cases e⟩
  have HA := padd_any _ base w.heap.size _ (fun _ => False) _ [] zeroP 0 0 0 0 0 HT (Nat.zero_le _) (Nat.le_trans hbase b1.size) HF (fun _ e => e.elim) (fun i ri e => by cases e) rfl rfl
  have HA := hid HA
  have HB1 := hid b1
  clear P b1 HT HF
  go_enter Try.func9, Try.ntmps9
  go_wp2_with fail
  refine (HA.out).mono ?_
  rintro e w2 ⟨rfl, S', v', hT, hTu⟩
  have HR := hid (show TurnedK w w2 base w.heap.size (fun _ => False) Dom.tNew from ⟨S', ⟨v', _, hT, models_new⟩, ⟨hTu.os.trans HB1.out.os, hTu.tape.trans HB1.out.tape, hTu.output.trans HB1.out.output, Nat.le_trans HB1.out.size hTu.size, fun k hk _ => (hTu.block k (by have := HB1.out.size; omega) (by rintro (e | e); omega; exact e)).trans (HB1.out.block k hk), fun k hk => .inr (by
    rcases hTu.sub k hk with (e | e) | e
    · omega
    · exact e.elim
    · have := HB1.out.size; omega)⟩⟩)
  clear hT hTu
  go_wp2
  go_ret
  exact ⟨_, rfl, HR.out⟩
end Go.Proofs.Ythbklcpjbeelhaa
