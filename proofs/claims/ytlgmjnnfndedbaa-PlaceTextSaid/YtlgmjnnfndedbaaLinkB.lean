/- Walks over the program's package dom: cloned, bare. -/
import Derived.Test.YtlgmjnnfndedbaaAppT
import Derived.Test.YtlgmjnnfndedbaaNodeM
import Derived.Test.YtlgmjnnfndedbaaShelf
import Derived.Test.YtlgmjnnfndedbaaRefWhole
import Derived.Test.YtlgmjnnfndedbaaLinkA
import Derived.Deep.RegionLaw
import Derived.Deep.RegionHeld3
import Derived.Deep.LoopGhost
namespace Go.Proofs.Ytlgmjnnfndedbaa
open Go.RowKit Go.Lib
set_option maxRecDepth 100000
set_option linter.unusedVariables false

theorem tclone (s : ByteArray) (w : World) (hlim : s.size ≤ 281474976710656) :
    Calls Try.prog 34 #[.string s] w fun e w' => e = .returned (.string s) ∧ Below w.heap.size w w' := by
  have H := hid fun W => Try.stringslite_Clone s W hlim
  go_enter Try.func34, Try.ntmps34
  go_wp2_with fail
  refine (H.out _).mono ?_
  rintro e w1 ⟨rfl, b1⟩
  go_wp2
  go_ret
  exact ⟨rfl, b1⟩
theorem bs_len (l : List UInt8) : (bs l).size = l.length := by rw [size_eq]; rfl
/-- Attributes that are not too long. -/
def ShortA (L : List (List UInt8 × List UInt8)) : Prop := ∀ x ∈ L, x.1.length ≤ 281474976710656 ∧ x.2.length ≤ 281474976710656
set_option maxHeartbeats 8000000 in
theorem pcloned_any (w : World) (aa : Option Addr) (an ac : Nat) (L : List (List UInt8 × List UInt8)) (hA : IsA w aa an L) (hn : an ≤ 1000000000) (hs : ShortA L) :
    Calls Try.prog 81 #[.slice aa an ac] w fun e w' => ∃ v, e = .returned v ∧ w'.ownsRow w.heap.size 91 2 v L.length (pairL L) ∧ Below w.heap.size w w' := by
  have hl := hA.1
  have HA := hid hA
  have HS := hid hs
  have HLN := hid hl
  clear hA hs hl
  go_enter Try.func81, Try.ntmps81
  go_wp2
  go_loopg [3, 8] an (fun gg ov iv wr => ∃ (j : Nat) (v : Value), v = ov ∧ j + gg = an ∧ iv = .int .i64 j ∧ Hid (wr.ownsRow w.heap.size 91 2 v (L.take j).length (pairL (L.take j))) ∧ Hid (Below w.heap.size w wr))
  case atStart => exact ⟨0, _, rfl, by omega, rfl, hid (World.ownsRow_nil _ _ _ _), hid (Below.refl _ _)⟩
  case round =>
    obtain ⟨j, v, rfl, hj, rfl, hO, hB⟩ := hrel
    by_cases hlt : j < an
    · have d1 : decide (j < an) = true := decide_eq_true hlt
      have hltI : (j : Int) < (an : Int) := by omega
      obtain ⟨x, hx⟩ : ∃ x, L[j]? = some x := ⟨_, List.getElem?_eq_getElem (by have := HLN.out; omega)⟩
      obtain ⟨b0, o0, rfl, hat⟩ := HA.out.2.resolve_left (by omega)
      obtain ⟨c0, c1⟩ := hat j x hx
      have c0' := cell_up c0 hB.out
      have c1' := cell_up c1 hB.out
      obtain ⟨hs1, hs2⟩ := HS.out x (List.mem_of_getElem? hx)
      have HC1 := hid fun W => tclone (bs x.1) W (by rw [bs_len]; exact hs1)
      have HC2 := hid fun W => tclone (bs x.2) W (by rw [bs_len]; exact hs2)
      have j1 : (0 : Int) ≤ (j : Int) := by omega
      have j3 : ((j : Int)).toNat = j := by omega
      have N1 := BlkW.new wr #[.string (bs x.1), .string (bs x.2)] 91
      have HTk : Hid (L.take (j + 1) = L.take j ++ [x]) := hid (by rw [List.take_add_one, hx]; rfl)
      have hln : (L.take j).length + 1 ≤ 4294967296 := by rw [List.length_take]; omega
      obtain ⟨A, hAe⟩ : ∃ A, L.take j = A := ⟨_, rfl⟩
      rw [hAe] at hO HTk hln
      have e2 : Below wr.heap.size wr (wr.alloc (.cells #[.string (bs x.1), .string (bs x.2)] 91)) := (Below.refl _ wr).alloc (Nat.le_refl _) _
      have HOW := hid fun W (hW : Below wr.heap.size wr W) => own_below hO.out hW
      have HOLD := hid fun W (hW : Below wr.heap.size wr W) => hB.out.trans (hW.mono hB.out.size)
      have hsz := hid hB.out.size
      obtain ⟨X1, hX1⟩ : ∃ X1, bs x.1 = X1 := ⟨_, rfl⟩
      obtain ⟨X2, hX2⟩ : ∃ X2, bs x.2 = X2 := ⟨_, rfl⟩
      have HX1 := hid hX1
      have HX2 := hid hX2
      rw [hX1] at HC1 c0' N1 e2
      rw [hX2] at HC2 c1' N1 e2
      rw [hX1] at c0
      rw [hX2] at c1
      have y0 : ∀ W, Below (wr.alloc (.cells #[.string X1, .string X2] 91)).heap.size (wr.alloc (.cells #[.string X1, .string X2] 91)) W → W.cell? ⟨wr.heap.size, 0, none⟩ = some (.string X1) := fun W hW => cell_up (N1.cell 0) hW
      have y1 : ∀ W, Below (wr.alloc (.cells #[.string X1, .string X2] 91)).heap.size (wr.alloc (.cells #[.string X1, .string X2] 91)) W → W.cell? ⟨wr.heap.size, 1, none⟩ = some (.string X2) := fun W hW => cell_up (N1.cell 1) hW
      clear hat hx hX1 hX2 hO hB hAe N1 c0 c1 hs1 hs2
      go_wp2
      obtain ⟨W1, hW1⟩ : ∃ W1, wr.alloc (.cells #[.string X1, .string X2] 91) = W1 := ⟨_, rfl⟩
      rw [hW1] at y0 y1 e2 ⊢
      clear hW1
      have e0 := (Below.refl W1.heap.size W1).drew
      have e1 := Below.refl W1.heap.size W1
      have z0 := y0 _ e0
      have z1 := y1 _ e0
      have z2 := y0 _ e1
      have z3 := y1 _ e1
      go_region_law (first
        | (refine step_call rfl rfl (enters_of Try.func34 (by kernel_rfl) rfl) ?_
           first
             | (refine (HC1.out _).mono ?_)
             | (refine (HC2.out _).mono ?_)
           rintro e w5 ⟨rfl, b5⟩
           refine ⟨_, rfl, ?_⟩
           replace e0 := e0.trans (b5.mono e0.size)
           have z0 := y0 _ e0
           have z1 := y1 _ e0
           clear b5)
        | (have e5 := e2.trans (e0.mono e2.size)
           have NB := BlkW.new w5 #[.string X1, .string X2] 91
           have al := (Below.refl w5.heap.size w5).alloc (Nat.le_refl _) (.cells #[.string X1, .string X2] 91)
           have e6 := hid (e5.trans (al.mono e5.size))
           refine step_T1 rfl _ _ rfl w.heap.size _ A rfl (HOW.out _ e6.out) ⟨w5.heap.size, 0, none⟩ 1 x rfl (by rw [HX1.out]; exact NB.cell 0) (by rw [HX2.out]; exact NB.cell 1) hln (Nat.le_trans hsz.out e6.out.size) ?_
           intro v' w' own2 gr2
           have HE := hid own2
           have HBW := hid (show Below w.heap.size w w' from (HOLD.out _ e6.out).grown gr2 (HOLD.out _ e6.out).size (own_ge (HOW.out _ (Below.refl _ _))))
           clear own2 gr2 NB al))
      all_goals go_wp2
      all_goals go_roundg (an - (j + 1))
      all_goals first
        | exact ⟨j + 1, v', rfl, by omega, by go_num, by rw [HTk.out]; exact HE, HBW⟩
        | omega
    · have d1 : decide (j < an) = false := decide_eq_false hlt
      obtain rfl : j = an := by omega
      rw [List.take_of_length_le (by have := HLN.out; omega)] at hO
      go_wp2
      go_ret
      exact ⟨_, rfl, hO.out, hB.out⟩
theorem own_wide {w : World} {base base' : Nat} {e : TypeId} {size : Nat} {v : Value} {n : Nat} {xs : List Value} (h : w.ownsRow base e size v n xs) (hb : base' ≤ base) : w.ownsRow base' e size v n xs := by
  obtain ⟨q, q2⟩ := h
  exact ⟨q, q2.imp (fun e => e) fun ⟨g', cap, cur, a1, a2, a3⟩ => ⟨g', cap, cur, a1, by omega, a3⟩⟩
set_option maxHeartbeats 4000000 in
/-- A node without its kids, as a value. -/
theorem pbare_any (w : World) (base R g cap : Nat) (S : Nat → Prop) (rs : List PR) (t : Dom.T) (i : Nat) (h : ReadK w base R S g cap rs t) (hi : i < t.length)
    (hs : ShortA (Dom.nodeAt t i).nd.atts) (hsn : (Dom.nodeAt t i).nd.name.length ≤ 281474976710656) (han : (Dom.nodeAt t i).nd.atts.length ≤ 1000000000) :
    Calls Try.prog 55 #[.pointer (some ⟨R, 0, none⟩), .int .i64 i] w fun e w' => BareV w w' e (Dom.nodeAt t i).nd ∧ Below w.heap.size w w' := by
  have h1 := h.top
  obtain ⟨r, hr, X, F, eN⟩ := h.at_ hi
  have hA := X.atts
  have hT := F.text
  rw [eN] at hT
  obtain ⟨ta, tc, htv, hTB⟩ := hT.isB
  have x0 := X.c0
  have x1 := X.c1
  have x2 := X.c2
  have x3 := X.c3
  have x4 := X.c4
  rw [htv] at x4
  unfold Dom.kindAt at x0
  unfold BareV
  generalize (Dom.nodeAt t i).nd = y at *
  obtain ⟨NM, hNM⟩ : ∃ NM, bs y.name = NM := ⟨_, rfl⟩
  obtain ⟨TX, hTX⟩ : ∃ TX, bs y.text = TX := ⟨_, rfl⟩
  obtain ⟨K, hK⟩ : ∃ K, y.kind = K := ⟨_, rfl⟩
  obtain ⟨SP, hSP⟩ : ∃ SP, y.space = SP := ⟨_, rfl⟩
  obtain ⟨ats, hat⟩ : ∃ ats, y.atts = ats := ⟨_, rfl⟩
  have HCV := hid fun W (hW : Below w.heap.size w W) => (show (convert 84 9 (.slice ta y.text.length tc)).run Try.prog W = .ok (.string TX) W from by
    rw [← hTX]
    exact conv_bytes (hTB.below hW) tc)
  have HCL := hid fun W => tclone NM W (by rw [← hNM, bs_len]; exact hsn)
  rw [hat] at hA hs han ⊢
  have hal := hA.1
  generalize r.ad = aa at *
  generalize r.an = an at *
  generalize r.ac = ac at *
  have HCD := hid fun W (hW : Below w.heap.size w W) => pcloned_any W aa an ac ats (hA.below hW) (by omega) hs
  rw [hK] at x0
  rw [hSP] at x1
  rw [hNM] at x2
  generalize y.text.length = tn at *
  rw [hNM, hTX, hK, hSP]
  obtain ⟨n, hn⟩ : ∃ n, List.length t = n := ⟨_, rfl⟩
  rw [hn] at h1 hi
  have hi3 : (i : Int) < (n : Int) := by omega
  have zi : ((i : Int)).toNat = i := by omega
  have HU := hid fun W (hW : Below w.heap.size w W) => And.intro (cell_up x0 hW) (And.intro (cell_up x1 hW) (And.intro (cell_up x2 hW) (And.intro (cell_up x3 hW) (cell_up x4 hW))))
  have b1 : Below w.heap.size w (w.alloc (.cells #[.int .u8 0, .int .u8 0, .string ⟨#[]⟩, .slice none 0 0, .string ⟨#[]⟩, .slice none 0 0] 61)) := (Below.refl w.heap.size w).alloc (Nat.le_refl _) _
  have P := BlkW.new w #[.int .u8 0, .int .u8 0, .string ⟨#[]⟩, .slice none 0 0, .string ⟨#[]⟩, .slice none 0 0] 61
  have h1' := cell_up h1 b1
  clear x0 x1 x2 x3 x4 X F hr h hn hT hTB hA htv hNM hTX hK hSP hat hs hsn eN hal
  go_enter Try.func55, Try.ntmps55
  go_wp2
  obtain ⟨W1, hW1⟩ : ∃ W1, w.alloc (.cells #[.int .u8 0, .int .u8 0, .string ⟨#[]⟩, .slice none 0 0, .string ⟨#[]⟩, .slice none 0 0] 61) = W1 := ⟨_, rfl⟩
  rw [hW1] at b1 P ⊢
  clear hW1 h1'
  have E0 := b1
  have E1 := b1.drew
  have e0 : Below W1.heap.size W1 W1.drew := (Below.refl _ W1).drew
  have hs1 : w.heap.size < W1.heap.size := P.lt
  obtain ⟨H, hH⟩ : ∃ H, w.heap.size = H := ⟨_, rfl⟩
  rw [hH] at HCD HU HCV E0 E1 P hs1 ⊢
  have HH := hid hH
  clear hH
  have HP := hid P
  have HO := hid True.intro
  have HS1 := hid hs1
  have SF := hid (And.intro (HU.out _ E1) (HCV.out _ E1))
  have SG := hid (And.intro (HU.out _ E0) (HCV.out _ E0))
  clear P b1 hs1
  go_region_held3 (fun w' => (w'.cell? ⟨g, i * 10, none⟩ = some (.int .u8 K) ∧ w'.cell? ⟨g, i * 10 + 1, none⟩ = some (.int .u8 SP) ∧ w'.cell? ⟨g, i * 10 + 2, none⟩ = some (.string NM) ∧ w'.cell? ⟨g, i * 10 + 3, none⟩ = some (.slice aa an ac) ∧ w'.cell? ⟨g, i * 10 + 4, none⟩ = some (.slice ta tn tc)) ∧ (convert 84 9 (.slice ta tn tc)).run Try.prog w' = .ok (.string TX) w') (first | with_reducible exact SZ.out | with_reducible exact SF.out | with_reducible exact SG.out)
    (first
      | (go_at_call 34; (with_reducible refine (HCL.out _).mono ?_); rintro e w5 ⟨rfl, b5⟩; replace E1 := E1.trans (b5.mono (Nat.le_trans (Nat.le_of_lt HS1.out) e0.size)); replace e0 := e0.trans (b5.mono e0.size); have SF := hid (And.intro (HU.out _ E1) (HCV.out _ E1)); (first | (have HO := hid (own_below HO.out b5); have E7 := (((((E1.setCell (p := ⟨H, 0, none⟩) (Nat.le_refl _) (.int .u8 K)).setCell (p := ⟨H, 1, none⟩) (Nat.le_refl _) (.int .u8 SP)).setCell (p := ⟨H, 2, none⟩) (Nat.le_refl _) (.string NM)).setCell (p := ⟨H, 3, none⟩) (Nat.le_refl _) (.slice a5 ats.length c5)).setCell (p := ⟨H, 4, none⟩) (Nat.le_refl _) (.string TX)).setCell (p := ⟨H, 5, none⟩) (Nat.le_refl _) (.slice none 0 0); have SZ := hid (And.intro (HU.out _ E7) (HCV.out _ E7)); clear E7) | skip); have P5 := HP.out.below e0 HS1.out; have r0 := P5.cell 0; have r1 := P5.cell 1; have r2 := P5.cell 2; have r3 := P5.cell 3; have r4 := P5.cell 4; have r5 := P5.cell 5; have f0 := P5.free 0; have f1 := P5.free 1; have f2 := P5.free 2; have f3 := P5.free 3; have f4 := P5.free 4; have f5 := P5.free 5; simp only [List.getElem?_toArray, List.getElem?_cons_zero, List.getElem?_cons_succ] at r0 r1 r2 r3 r4 r5; clear P5 b5)
      | (go_at_call 81; (with_reducible refine (HCD.out _ E1).mono ?_); rintro e w5 ⟨v5, rfl, own5, b5⟩; obtain ⟨a5, c5, hv5, _⟩ := own_isT' own5; subst hv5; have HO := hid (own_wide (base' := W1.heap.size) own5 e0.size); replace E1 := E1.trans (b5.mono (Nat.le_trans (Nat.le_of_lt HS1.out) e0.size)); replace e0 := e0.trans (b5.mono e0.size); have SF := hid (And.intro (HU.out _ E1) (HCV.out _ E1)); have E7 := (((((E1.setCell (p := ⟨H, 0, none⟩) (Nat.le_refl _) (.int .u8 K)).setCell (p := ⟨H, 1, none⟩) (Nat.le_refl _) (.int .u8 SP)).setCell (p := ⟨H, 2, none⟩) (Nat.le_refl _) (.string NM)).setCell (p := ⟨H, 3, none⟩) (Nat.le_refl _) (.slice a5 ats.length c5)).setCell (p := ⟨H, 4, none⟩) (Nat.le_refl _) (.string TX)).setCell (p := ⟨H, 5, none⟩) (Nat.le_refl _) (.slice none 0 0); have SZ := hid (And.intro (HU.out _ E7) (HCV.out _ E7)); clear E7; have P5 := HP.out.below e0 HS1.out; have r0 := P5.cell 0; have r1 := P5.cell 1; have r2 := P5.cell 2; have r3 := P5.cell 3; have r4 := P5.cell 4; have r5 := P5.cell 5; have f0 := P5.free 0; have f1 := P5.free 1; have f2 := P5.free 2; have f3 := P5.free 3; have f4 := P5.free 4; have f5 := P5.free 5; simp only [List.getElem?_toArray, List.getElem?_cons_zero, List.getElem?_cons_succ] at r0 r1 r2 r3 r4 r5; clear P5 b5; clear own5))
  all_goals
    have P5 := HP.out.below e0 HS1.out
    obtain ⟨W7, hW7, z0, z1, z2, z3, z4, z5, hb7, hk7⟩ := node_store P5 E1 (Nat.le_refl _) (.int .u8 K) (.int .u8 SP) (.string NM) (.slice a5 ats.length c5) (.string TX) (.slice none 0 0)
    have own5 := HO.out
    have hty := own_typ own5
    have hob := own_blk own5
    obtain ⟨a6, c6, e6, hI, _, _, hge, hx⟩ := own_isT' own5
    injection e6 with e6 _ e7
    subst e6
    subst e7
    have hlt := HS1.out
    have HR := hid (show IsA W7 a5 ats.length ats ∧ InS (fun k => H ≤ k) a5 ats.length ∧ (a5 = none → c5 = 0) ∧ TypB W7 a5 ∧ (∀ p, a5 = some p → H ≤ p.block) ∧ OwnB W7 91 a5 ats.length from
      ⟨isA_in hI (S := fun k => W1.heap.size ≤ k) (.inr hge) (fun k hk => hk7 k (by omega)), .inr (fun q hq => by have := hge q hq; omega), hx, hty.heap fun p hp => hk7 _ (by have := hge p hp; omega), fun p hp => by have := hge p hp; omega, hob.keep (S := fun k => k ≠ H) (.inr fun p hp => by have := hge p hp; omega) fun k hk => hk7 k hk⟩)
    have HB7 := hid hb7
    rw [hW7]
    clear hW7 hb7 hk7 hI hge hx hty hob own5 P5 HO SZ SF SG r0 r1 r2 r3 r4 r5 f0 f1 f2 f3 f4 f5 E0 E1 e0 hlt
    go_wp2
    refine bodyPost_ret (v := .agg #[.int .u8 K, .int .u8 SP, .string NM, .slice a5 ats.length c5, .string TX, .slice none 0 0]) (by simp [results, Try.results55, go_sem, z0, z1, z2, z3, z4, z5]) rfl ?_
    obtain ⟨k1, k2, k3, k4, k5, k6⟩ := HR.out
    rw [HH.out]
    exact ⟨⟨a5, c5, rfl, k1, k2, k3, k4, k5, k6⟩, HB7.out⟩
end Go.Proofs.Ytlgmjnnfndedbaa
