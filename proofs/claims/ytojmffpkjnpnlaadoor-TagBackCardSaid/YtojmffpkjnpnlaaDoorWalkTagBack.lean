/- The walk of the statement TagBack. -/
import Derived.Test.YtojmffpkjnpnlaaDoorFrameE
import Derived.Test.YtojmffpkjnpnlaaDoorTagRow
import Derived.Test.YtojmffpkjnpnlaaDoorTagName
import Derived.Test.YtojmffpkjnpnlaaDoorArgs
namespace Go.Proofs.YtojmffpkjnpnlaaDoor.tagBack
open Go.ChangeShapes Go.WideShapes Go.ChangeAt Go.RowKit Go.Lib
open Go.ChangeMaps (open_string shut_string)
set_option maxRecDepth 100000
set_option linter.unusedVariables false

def fB (x : List UInt8) : Nat := min x.length 3000 + 1
def nB (m : Nat) (ls : List (List UInt8)) (k : Nat) : Nat := m + ((ls.take k).map fB).sum
theorem nB_zero (m : Nat) (ls : List (List UInt8)) : nB m ls 0 = m := by unfold nB; simp
theorem nB_succ {m : Nat} {ls : List (List UInt8)} {k : Nat} {x : List UInt8} (h : ls[k]? = some x) : nB m ls (k + 1) = nB m ls k + fB x := by
  unfold nB
  rw [List.take_add_one, h, List.map_append, List.sum_append]
  simp
  omega
theorem fB_sum : ∀ (ls : List (List UInt8)), (ls.map fB).sum ≤ 3000 → (ls.map List.length).sum ≤ (ls.map fB).sum ∧ ∀ x ∈ ls, x.length ≤ 3000
  | [], h => ⟨by simp, fun x hx => (by cases hx)⟩
  | y :: r, h => by
    rw [List.map_cons, List.sum_cons] at h ⊢
    obtain ⟨h1, h2⟩ := fB_sum r (by omega)
    have hy : y.length ≤ 3000 ∧ y.length ≤ fB y := by unfold fB at h ⊢; omega
    refine ⟨?_, fun x hx => ?_⟩
    · rw [List.map_cons, List.sum_cons]; omega
    · rcases List.mem_cons.1 hx with rfl | hx
      · exact hy.1
      · exact h2 x hx
theorem textF_len : ∀ (ls : List (List UInt8)) (i : Nat), (Tag.textF ls i).length ≤ 28 * ls.length + 6 * (ls.map List.length).sum
  | [], i => by simp [Tag.textF]
  | x :: r, i => by
    have h1 := textF_len r (i + 1)
    have h2 := (Tag.name_ne x i).2
    have h3 := Tag.escq_le x
    show (Tag.partP x i ++ Tag.textF r (i + 1)).length ≤ _
    unfold Tag.partP
    simp only [List.length_append, List.length_cons, List.length_nil, List.map_cons, List.sum_cons]
    omega
theorem textF_take (ls : List (List UInt8)) (k : Nat) : (Tag.textF (ls.take k) 0).length ≤ (Tag.textF ls 0).length := by
  have h := Tag.textF_append (ls.take k) (ls.drop k) 0
  rw [List.take_append_drop] at h
  rw [h, List.length_append]
  omega
set_option maxHeartbeats 4000000 in
theorem walk (w : World) (hT : EntW w) (a : Option Addr) (len cap : Nat) (ls : List (List UInt8)) (hB : IsS w a len ls) (hlc : len ≤ cap) (hcm : cap ≤ maxLen) (hna : a = none → cap = 0) (cl : Bool) (s : ByteArray) (ws : s.size ≤ maxLen) :
    Calls Tryd.prog 5 #[.slice a len cap, .bool cl, .string s] w fun e w' => e = .returned (.bool true) ∧ Below w.heap.size w w' := by
  unfold maxLen at ws hcm
  have HT := hid hT
  have HK := hid known6_any
  have HS := hid hB
  have hll := hB.1
  have HLL := hid hll
  clear hT hB hna hll
  go_enter Tryd.func5, Tryd.ntmps5
  go_wp2
  go_loopg [7, 8] len (fun g nv iv wr => ∃ k : Nat, k + g = len ∧ iv = .int .i64 k ∧ nv = .int .i64 (nB s.size ls k) ∧ nB s.size ls k ≤ 9223372036854775807 ∧ w = wr)
  case atStart => exact ⟨0, by omega, rfl, by rw [nB_zero], by rw [nB_zero]; omega, rfl⟩
  case round =>
    obtain ⟨k, hk, rfl, rfl, hn, rfl⟩ := hrel
    by_cases hgo : k < len ∧ nB s.size ls k ≤ 3000
    · obtain ⟨hlt, h3⟩ := hgo
      have d1 : decide (k < len) = true := decide_eq_true hlt
      have hltI : (k : Int) < (len : Int) := by omega
      obtain ⟨_, z0 | ⟨g1, o1, rfl, hat⟩⟩ := HS.out
      · omega
      obtain ⟨x, hx⟩ : ∃ x, ls[k]? = some x := ⟨_, List.getElem?_eq_getElem (by have := HLL.out; omega)⟩
      have u0 := hat k _ hx
      have hsc := nB_succ (m := s.size) hx
      obtain ⟨X, hX⟩ : ∃ X : ByteArray, (⟨x.toArray⟩ : ByteArray) = X := ⟨_, rfl⟩
      have hXs : X.size = x.length := by rw [← hX, size_eq]
      rw [hX] at u0
      obtain ⟨N, hN⟩ : ∃ N, nB s.size ls k = N := ⟨_, rfl⟩
      rw [hN] at h3 hsc hn ⊢
      have d2 : decide (N ≤ 3000) = true := decide_eq_true h3
      have d2I : decide ((N : Int) ≤ 3000) = true := decide_eq_true (by omega)
      unfold fB at hsc
      rw [← hXs] at hsc
      have HSC := hid hsc
      clear hat hx hX hXs hN hsc
      go_wp2
      go_roundg (len - (k + 1))
      case measure => omega
      case rel => exact ⟨k + 1, by omega, by go_num, by rw [HSC.out]; go_num, by rw [HSC.out]; omega, rfl⟩
    · obtain ⟨N, hN⟩ : ∃ N, nB s.size ls k = N := ⟨_, rfl⟩
      rw [hN] at hgo hn ⊢
      have HNN := hid hN
      clear hN
      by_cases hbig : 3000 < N
      · have b1 : decide (3000 < N) = true := decide_eq_true hbig
        have b1I : decide ((3000 : Int) < (N : Int)) = true := decide_eq_true (by omega)
        have d2 : decide (N ≤ 3000) = false := decide_eq_false (by omega)
        have d2I : decide ((N : Int) ≤ 3000) = false := decide_eq_false (by omega)
        clear hgo
        by_cases hlt : k < len
        · have d1 : decide (k < len) = true := decide_eq_true hlt
          have hltI : (k : Int) < (len : Int) := by omega
          go_wp2_with fail
          refine (HK.out _ HT.out).mono ?_
          rintro e w1 ⟨rfl, b1⟩
          go_wp2
          go_ret
          exact ⟨rfl, b1⟩
        · have d1 : decide (k < len) = false := decide_eq_false hlt
          have hltI : ¬ (k : Int) < (len : Int) := by omega
          go_wp2_with fail
          refine (HK.out _ HT.out).mono ?_
          rintro e w1 ⟨rfl, b1⟩
          go_wp2
          go_ret
          exact ⟨rfl, b1⟩
      have b1 : decide (3000 < N) = false := decide_eq_false hbig
      have b1I : decide ((3000 : Int) < (N : Int)) = false := decide_eq_false (by omega)
      have hkl : k = len := by
        by_cases h : k < len
        · exact absurd ⟨h, by omega⟩ hgo
        · omega
      have hlt : ¬ k < len := by omega
      have d1 : decide (k < len) = false := decide_eq_false hlt
      have hltI : ¬ (k : Int) < (len : Int) := by omega
      by_cases h60 : 60 < len
      · have b2 : decide (60 < len) = true := decide_eq_true h60
        have b2I : decide ((60 : Int) < (len : Int)) = true := decide_eq_true (by omega)
        clear hgo hkl
        go_wp2_with fail
        refine (HK.out _ HT.out).mono ?_
        rintro e w1 ⟨rfl, b1⟩
        go_wp2
        go_ret
        exact ⟨rfl, b1⟩
      have b2 : decide (60 < len) = false := decide_eq_false h60
      have b2I : decide ((60 : Int) < (len : Int)) = false := decide_eq_false (by omega)
      have hsum : s.size ≤ 3000 ∧ (∀ x ∈ ls, x.length ≤ 3000) ∧ (Tag.textF ls 0).length ≤ 28 * 60 + 6 * 3000 := by
        have h := HNN.out
        rw [hkl, ← HLL.out] at h
        unfold nB at h
        rw [List.take_length] at h
        have h2 := fB_sum ls (by omega)
        have h3 := textF_len ls 0
        have h4 := HLL.out
        refine ⟨by omega, h2.2, by omega⟩
      obtain ⟨hs3, hx3, htx⟩ := hsum
      have HX3 := hid hx3
      have HTX := hid htx
      clear hgo hkl hlt hx3 htx
      go_wp2_with fail
      refine (HK.out _ HT.out).mono ?_
      rintro e w1 ⟨rfl, bk1⟩
      have B1 := hid bk1
      clear bk1 d1 hltI
      go_wp2
      go_loopg [9, 10] len (fun g ov iv wr => ∃ (k : Nat) (O : ByteArray), k + g = len ∧ iv = .int .i64 k ∧ ov = .string O ∧ Hid (O = bs ([60, 120, 121] ++ Tag.textF (ls.take k) 0)) ∧ Below w.heap.size w wr)
      case atStart => exact ⟨0, _, by omega, rfl, rfl, hid rfl, B1.out⟩
      case round =>
        obtain ⟨k, O, hk, rfl, rfl, hO, hb⟩ := hrel
        have hOs : O.size ≤ 30000 := by
          rw [hO.out, bs_size, List.length_append]
          have h1 := textF_take ls k
          have h2 := HTX.out
          simp only [List.length_cons, List.length_nil]
          omega
        have hOsI : (O.size : Int) ≤ 30000 := by omega
        by_cases hlt : k < len
        · have d1 : decide (k < len) = true := decide_eq_true hlt
          have hltI : (k : Int) < (len : Int) := by omega
          obtain ⟨_, z0 | ⟨g1, o1, rfl, hat⟩⟩ := HS.out.below hb
          · omega
          obtain ⟨x, hx⟩ : ∃ x, ls[k]? = some x := ⟨_, List.getElem?_eq_getElem (by have := HLL.out; omega)⟩
          have u0 : wr.cell? ⟨g1, o1 + k, none⟩ = some (.string (bs x)) := hat k _ hx
          have hxl := HX3.out x (List.mem_of_getElem? hx)
          have HQ := fun W => quoted_any (bs x) W (by rw [bs_size]; omega)
          have HNM := fun W => name_any (bs x) k W (by rw [bs_size]; omega) (by omega)
          rw [show (bs x).data.toList = x from rfl] at HQ HNM
          obtain ⟨X, hX⟩ : ∃ X, bs x = X := ⟨_, rfl⟩
          obtain ⟨Q, hQ⟩ : ∃ Q, bs ([34] ++ Tag.escq x ++ [34]) = Q := ⟨_, rfl⟩
          obtain ⟨M, hM⟩ : ∃ M, bs (Tag.nameP x k) = M := ⟨_, rfl⟩
          have hQs : Q.size ≤ 30000 := by
            rw [← hQ, bs_size]
            have := Tag.escq_le x
            simp only [List.length_append, List.length_cons, List.length_nil]
            omega
          have hMs : M.size ≤ 30 := by
            rw [← hM, bs_size]
            have := (Tag.name_ne x k).2
            omega
          rw [hX, hQ] at HQ
          rw [hX, hM] at HNM
          rw [hX] at u0
          have HQ := hid HQ
          have HNM := hid HNM
          have HNX := hid (show O ++ ⟨#[32]⟩ ++ M ++ ⟨#[32, 61, 32]⟩ ++ Q = bs ([60, 120, 121] ++ Tag.textF (ls.take (k + 1)) 0) by
            rw [hO.out, ← hM, ← hQ, show (⟨#[32]⟩ : ByteArray) = bs [32] from rfl, show (⟨#[32, 61, 32]⟩ : ByteArray) = bs [32, 61, 32] from rfl, bs_cat, bs_cat, bs_cat, bs_cat, Tag.textF_snoc ls k x hx]
            unfold Tag.partP
            simp only [List.append_assoc])
          have e0 : Below wr.heap.size wr wr := Below.refl _ _
          have n0 : ∀ V, Below wr.heap.size wr V → V.cell? ⟨g1, o1 + k, none⟩ = some (.string X) := fun V hV => (hV.cell (p := ⟨g1, o1 + k, none⟩) (World.block_lt_of_cell? _ _ u0)).trans u0
          have hs1 : (O ++ (⟨#[32]⟩ : ByteArray)).size = O.size + 1 := by rw [ByteArray.size_append]; rfl
          have hs2 : (O ++ (⟨#[32]⟩ : ByteArray) ++ M).size = O.size + 1 + M.size := by rw [ByteArray.size_append, hs1]
          have hs4 : (O ++ (⟨#[32]⟩ : ByteArray) ++ M ++ (⟨#[32, 61, 32]⟩ : ByteArray)).size = O.size + 1 + M.size + 3 := by rw [ByteArray.size_append, hs2]; rfl
          have m1 : ¬ 9223372036854775807 < O.size + 1 := by omega
          have m2 : ¬ 9223372036854775807 < O.size + 1 + M.size := by omega
          have m3 : ¬ 9223372036854775807 < O.size + 1 + M.size + 3 := by omega
          have m4 : ¬ 9223372036854775807 < O.size + 1 + M.size + 3 + Q.size := by omega
          have HBB := hid hb
          clear hat hx hX hQ hM hO u0 hxl
          go_wp2
          go_region_held3 (fun w' => w'.cell? ⟨g1, o1 + k, none⟩ = some (.string X) ∧ Below wr.heap.size wr w') (first | exact ⟨n0 _ e1, e1⟩ | exact ⟨n0 _ e0.drew, e0.drew⟩ | exact ⟨n0 _ e0, e0⟩)
            (first
              | (go_at_call 14; with_reducible refine (HNM.out _).mono ?_; rintro e w3 ⟨rfl, b3⟩; have e1 := e0.drew.trans (b3.mono e0.drew.size))
              | (go_at_call 15; with_reducible refine (HQ.out _).mono ?_; rintro e w4 ⟨rfl, rfl⟩))
          have hb2 := hid (HBB.out.trans (e1.mono HBB.out.size))
          go_wp2
          go_roundg (len - (k + 1))
          case measure => omega
          case rel => exact ⟨k + 1, _, by omega, by go_num, rfl, HNX, hb2.out⟩
        · have d1 : decide (k < len) = false := decide_eq_false hlt
          have hltI : ¬ (k : Int) < (len : Int) := by omega
          have hkl : k = len := by omega
          have hO2 : O = bs ([60, 120, 121] ++ Tag.textF ls 0) := by
            rw [hO.out, List.take_of_length_le (by have := HLL.out; omega)]
          cases cl with
          | false =>
            obtain ⟨T, hT⟩ : ∃ T, O ++ (⟨#[62]⟩ : ByteArray) = T := ⟨_, rfl⟩
            have hTb : T = bs (Tag.tagP ls false) := by
              rw [← hT]
              rw [hO2, show (⟨#[62]⟩ : ByteArray) = bs [62] from rfl, bs_cat]
              unfold Tag.tagP Tag.tailP
              simp
            have m1 : ¬ 9223372036854775807 < O.size + 1 := by omega
            have m2 : ¬ 9223372036854775807 < O.size + 1 + s.size := by omega
            have hs2 : (O ++ (⟨#[62]⟩ : ByteArray)).size = O.size + 1 := by rw [ByteArray.size_append]; rfl
            have hTs : T.size ≤ 40000 := by rw [← hT, hs2]; omega
            obtain ⟨hbeg, hread⟩ := Tag.tag_read ls false s.data.toList (by have := HLL.out; omega)
            have hTd : (T ++ s).data.toList = Tag.tagP ls false ++ s.data.toList := by
              rw [hTb, ByteArray.data_append]
              simp [bs]
            have hTl : (Tag.tagP ls false).length = T.size := by rw [hTb, bs_size]
            have HRd : Hid (∀ W, EntW W → Calls Tryd.prog 8 #[.string (T ++ s), .int .i64 0] W fun e w' => (∃ ad c, e = .returned (.tuple #[.agg #[.int .u8 2, .string ⟨#[120, 121]⟩, .slice ad len c, .bool false, .string ⟨#[]⟩], .int .i64 T.size, .bool true]) ∧ IsA w' ad len (Tag.attsF ls 0)) ∧ Below W.heap.size W w') := hid fun W hW => by
              refine (tread_yes (T ++ s) 0 W hW (by rw [ByteArray.size_append]; omega) (by rw [hTd]; exact hbeg)).mono fun e w' ⟨h1, h2⟩ => ⟨?_, h2⟩
              rw [hTd] at h1
              unfold TagE at h1
              rw [hread] at h1
              obtain ⟨ad, k2, c, he, hI, _⟩ := h1
              have hk2 : k2 = len := by rw [← hI.1, Tag.attsF_len]; exact HLL.out
              subst hk2
              rw [hTl] at he
              exact ⟨ad, c, he, hI⟩
            have HTT := hid hT
            have hm5 : ¬ 9223372036854775807 < T.size + s.size := by omega
            have HHB := hid hb
            have HTW := hid (ent_below HT.out hb)
            clear hT hTb hbeg hread hTd hTl hO hO2 hkl
            go_wp2_with fail
            rw [HTT.out] at *
            refine (HRd.out _ HTW.out).mono ?_
            rintro e w3 ⟨⟨ad, c, rfl, hI⟩, b3⟩
            have b4 := HHB.out.trans (b3.mono HHB.out.size)
            have HB4 := hid (b4.alloc b4.size (.cells #[.int .u8 2, .string ⟨#[120, 121]⟩, .slice ad len c, .bool false, .string ⟨#[]⟩] 24))
            have HIA := hid (hI.below ((Below.refl w3.heap.size w3).alloc (Nat.le_refl _) (.cells #[.int .u8 2, .string ⟨#[120, 121]⟩, .slice ad len c, .bool false, .string ⟨#[]⟩] 24)))
            have HZ4 := hid (BlkW.new w3 #[.int .u8 2, .string ⟨#[120, 121]⟩, .slice ad len c, .bool false, .string ⟨#[]⟩] 24)
            clear b3 b4 hI hb HHB
            go_wp2
            generalize w3.alloc (.cells #[.int .u8 2, .string ⟨#[120, 121]⟩, .slice ad len c, .bool false, .string ⟨#[]⟩] 24) = W4 at *
            generalize w3.heap.size = P at *
            have hp2 : W4.cell? ⟨P, 2, none⟩ = some (.slice ad len c) := HZ4.out.cell 2
            have HP2 := hid (fun V (hV : Below W4.heap.size W4 V) => (hV.cell (p := ⟨P, 2, none⟩) (World.block_lt_of_cell? _ _ hp2)).trans hp2)
            clear hp2
            go_loopg [14] len (fun g iv wr => ∃ k : Nat, k + g = len ∧ iv = .int .i64 k ∧ Below W4.heap.size W4 wr)
            case atStart => exact ⟨0, by omega, rfl, Below.refl _ _⟩
            case round =>
              obtain ⟨k, hk, rfl, hb⟩ := hrel
              by_cases hlt : k < len
              · have d1 : decide (k < len) = true := decide_eq_true hlt
                have hltI : (k : Int) < (len : Int) := by omega
                obtain ⟨_, z0 | ⟨g1, o1, rfl, hat⟩⟩ := HS.out.below (HB4.out.trans (hb.mono HB4.out.size))
                · omega
                obtain ⟨_, z0 | ⟨g2, o2, rfl, hau⟩⟩ := HIA.out.below hb
                · omega
                obtain ⟨x, hx⟩ : ∃ x, ls[k]? = some x := ⟨_, List.getElem?_eq_getElem (by have := HLL.out; omega)⟩
                have u0 : wr.cell? ⟨g1, o1 + k, none⟩ = some (.string (bs x)) := hat k _ hx
                have hax := Tag.attsF_get ls 0 k x hx
                rw [Nat.zero_add] at hax
                obtain ⟨u1, u2⟩ := hau k _ hax
                simp only at u1 u2
                have hxl := HX3.out x (List.mem_of_getElem? hx)
                have HNM := fun W => name_any (bs x) k W (by rw [bs_size]; omega) (by omega)
                rw [show (bs x).data.toList = x from rfl] at HNM
                obtain ⟨X, hX⟩ : ∃ X, bs x = X := ⟨_, rfl⟩
                obtain ⟨M, hM⟩ : ∃ M, bs (Tag.nameP x k) = M := ⟨_, rfl⟩
                rw [hX, hM] at HNM
                rw [hX] at u0 u2
                rw [hM] at u1
                have HNM := hid HNM
                have e0 : Below wr.heap.size wr wr := Below.refl _ _
                have p2 := HP2.out _ hb
                have n0 : ∀ V, Below wr.heap.size wr V → V.cell? ⟨g1, o1 + k, none⟩ = some (.string X) := fun V hV => (hV.cell (p := ⟨g1, o1 + k, none⟩) (World.block_lt_of_cell? _ _ u0)).trans u0
                have n1 : ∀ V, Below wr.heap.size wr V → V.cell? ⟨g2, o2 + k * 2, none⟩ = some (.string M) := fun V hV => (hV.cell (p := ⟨g2, o2 + k * 2, none⟩) (World.block_lt_of_cell? _ _ u1)).trans u1
                have n2 : ∀ V, Below wr.heap.size wr V → V.cell? ⟨g2, o2 + k * 2 + 1, none⟩ = some (.string X) := fun V hV => (hV.cell (p := ⟨g2, o2 + k * 2 + 1, none⟩) (World.block_lt_of_cell? _ _ u2)).trans u2
                have n3 : ∀ V, Below wr.heap.size wr V → V.cell? ⟨P, 2, none⟩ = some (.slice (some ⟨g2, o2, none⟩) len c) := fun V hV => (hV.cell (p := ⟨P, 2, none⟩) (World.block_lt_of_cell? _ _ p2)).trans p2
                have HBB := hid hb
                clear hat hau hx hax hX hM u0 u1 u2 p2 hxl
                go_wp2
                go_region_held3 (fun w' => w'.cell? ⟨P, 2, none⟩ = some (.slice (some ⟨g2, o2, none⟩) len c) ∧ w'.cell? ⟨g1, o1 + k, none⟩ = some (.string X) ∧ w'.cell? ⟨g2, o2 + k * 2, none⟩ = some (.string M) ∧ w'.cell? ⟨g2, o2 + k * 2 + 1, none⟩ = some (.string X) ∧ Below wr.heap.size wr w') (first | exact ⟨n3 _ e1, n0 _ e1, n1 _ e1, n2 _ e1, e1⟩ | exact ⟨n3 _ e0.drew, n0 _ e0.drew, n1 _ e0.drew, n2 _ e0.drew, e0.drew⟩ | exact ⟨n3 _ e0, n0 _ e0, n1 _ e0, n2 _ e0, e0⟩)
                  (first
                    | (go_at_call 14; with_reducible refine (HNM.out _).mono ?_; rintro e w5 ⟨rfl, b5⟩; have e1 := e0.drew.trans (b5.mono e0.drew.size)))
                have hb2 := hid (HBB.out.trans (e1.mono HBB.out.size))
                go_wp2
                go_roundg (len - (k + 1))
                case measure => omega
                case rel => exact ⟨k + 1, by omega, by go_num, hb2.out⟩
              · have d1 : decide (k < len) = false := decide_eq_false hlt
                have hltI : ¬ (k : Int) < (len : Int) := by omega
                have hb2 := hid (HB4.out.trans (hb.mono HB4.out.size))
                go_wp2
                go_ret
                exact ⟨rfl, hb2.out⟩
          | true =>
            obtain ⟨T, hT⟩ : ∃ T, O ++ (⟨#[47]⟩ : ByteArray) ++ (⟨#[62]⟩ : ByteArray) = T := ⟨_, rfl⟩
            have hTb : T = bs (Tag.tagP ls true) := by
              rw [← hT]
              rw [hO2, show (⟨#[47]⟩ : ByteArray) = bs [47] from rfl, show (⟨#[62]⟩ : ByteArray) = bs [62] from rfl, bs_cat, bs_cat]
              unfold Tag.tagP Tag.tailP
              simp
            have m1 : ¬ 9223372036854775807 < O.size + 1 := by omega
            have m2 : ¬ 9223372036854775807 < O.size + 1 + 1 := by omega
            have m3 : ¬ 9223372036854775807 < O.size + 1 + 1 + s.size := by omega
            have hs1 : (O ++ (⟨#[47]⟩ : ByteArray)).size = O.size + 1 := by rw [ByteArray.size_append]; rfl
            have hs2 : (O ++ (⟨#[47]⟩ : ByteArray) ++ (⟨#[62]⟩ : ByteArray)).size = O.size + 1 + 1 := by rw [ByteArray.size_append, hs1]; rfl
            have hTs : T.size ≤ 40000 := by rw [← hT, hs2]; omega
            obtain ⟨hbeg, hread⟩ := Tag.tag_read ls true s.data.toList (by have := HLL.out; omega)
            have hTd : (T ++ s).data.toList = Tag.tagP ls true ++ s.data.toList := by
              rw [hTb, ByteArray.data_append]
              simp [bs]
            have hTl : (Tag.tagP ls true).length = T.size := by rw [hTb, bs_size]
            have HRd : Hid (∀ W, EntW W → Calls Tryd.prog 8 #[.string (T ++ s), .int .i64 0] W fun e w' => (∃ ad c, e = .returned (.tuple #[.agg #[.int .u8 2, .string ⟨#[120, 121]⟩, .slice ad len c, .bool true, .string ⟨#[]⟩], .int .i64 T.size, .bool true]) ∧ IsA w' ad len (Tag.attsF ls 0)) ∧ Below W.heap.size W w') := hid fun W hW => by
              refine (tread_yes (T ++ s) 0 W hW (by rw [ByteArray.size_append]; omega) (by rw [hTd]; exact hbeg)).mono fun e w' ⟨h1, h2⟩ => ⟨?_, h2⟩
              rw [hTd] at h1
              unfold TagE at h1
              rw [hread] at h1
              obtain ⟨ad, k2, c, he, hI, _⟩ := h1
              have hk2 : k2 = len := by rw [← hI.1, Tag.attsF_len]; exact HLL.out
              subst hk2
              rw [hTl] at he
              exact ⟨ad, c, he, hI⟩
            have HTT := hid hT
            have hm5 : ¬ 9223372036854775807 < T.size + s.size := by omega
            have HHB := hid hb
            have HTW := hid (ent_below HT.out hb)
            clear hT hTb hbeg hread hTd hTl hO hO2 hkl
            go_wp2_with fail
            rw [HTT.out] at *
            refine (HRd.out _ HTW.out).mono ?_
            rintro e w3 ⟨⟨ad, c, rfl, hI⟩, b3⟩
            have b4 := HHB.out.trans (b3.mono HHB.out.size)
            have HB4 := hid (b4.alloc b4.size (.cells #[.int .u8 2, .string ⟨#[120, 121]⟩, .slice ad len c, .bool true, .string ⟨#[]⟩] 24))
            have HIA := hid (hI.below ((Below.refl w3.heap.size w3).alloc (Nat.le_refl _) (.cells #[.int .u8 2, .string ⟨#[120, 121]⟩, .slice ad len c, .bool true, .string ⟨#[]⟩] 24)))
            have HZ4 := hid (BlkW.new w3 #[.int .u8 2, .string ⟨#[120, 121]⟩, .slice ad len c, .bool true, .string ⟨#[]⟩] 24)
            clear b3 b4 hI hb HHB
            go_wp2
            generalize w3.alloc (.cells #[.int .u8 2, .string ⟨#[120, 121]⟩, .slice ad len c, .bool true, .string ⟨#[]⟩] 24) = W4 at *
            generalize w3.heap.size = P at *
            have hp2 : W4.cell? ⟨P, 2, none⟩ = some (.slice ad len c) := HZ4.out.cell 2
            have HP2 := hid (fun V (hV : Below W4.heap.size W4 V) => (hV.cell (p := ⟨P, 2, none⟩) (World.block_lt_of_cell? _ _ hp2)).trans hp2)
            clear hp2
            go_loopg [14] len (fun g iv wr => ∃ k : Nat, k + g = len ∧ iv = .int .i64 k ∧ Below W4.heap.size W4 wr)
            case atStart => exact ⟨0, by omega, rfl, Below.refl _ _⟩
            case round =>
              obtain ⟨k, hk, rfl, hb⟩ := hrel
              by_cases hlt : k < len
              · have d1 : decide (k < len) = true := decide_eq_true hlt
                have hltI : (k : Int) < (len : Int) := by omega
                obtain ⟨_, z0 | ⟨g1, o1, rfl, hat⟩⟩ := HS.out.below (HB4.out.trans (hb.mono HB4.out.size))
                · omega
                obtain ⟨_, z0 | ⟨g2, o2, rfl, hau⟩⟩ := HIA.out.below hb
                · omega
                obtain ⟨x, hx⟩ : ∃ x, ls[k]? = some x := ⟨_, List.getElem?_eq_getElem (by have := HLL.out; omega)⟩
                have u0 : wr.cell? ⟨g1, o1 + k, none⟩ = some (.string (bs x)) := hat k _ hx
                have hax := Tag.attsF_get ls 0 k x hx
                rw [Nat.zero_add] at hax
                obtain ⟨u1, u2⟩ := hau k _ hax
                simp only at u1 u2
                have hxl := HX3.out x (List.mem_of_getElem? hx)
                have HNM := fun W => name_any (bs x) k W (by rw [bs_size]; omega) (by omega)
                rw [show (bs x).data.toList = x from rfl] at HNM
                obtain ⟨X, hX⟩ : ∃ X, bs x = X := ⟨_, rfl⟩
                obtain ⟨M, hM⟩ : ∃ M, bs (Tag.nameP x k) = M := ⟨_, rfl⟩
                rw [hX, hM] at HNM
                rw [hX] at u0 u2
                rw [hM] at u1
                have HNM := hid HNM
                have e0 : Below wr.heap.size wr wr := Below.refl _ _
                have p2 := HP2.out _ hb
                have n0 : ∀ V, Below wr.heap.size wr V → V.cell? ⟨g1, o1 + k, none⟩ = some (.string X) := fun V hV => (hV.cell (p := ⟨g1, o1 + k, none⟩) (World.block_lt_of_cell? _ _ u0)).trans u0
                have n1 : ∀ V, Below wr.heap.size wr V → V.cell? ⟨g2, o2 + k * 2, none⟩ = some (.string M) := fun V hV => (hV.cell (p := ⟨g2, o2 + k * 2, none⟩) (World.block_lt_of_cell? _ _ u1)).trans u1
                have n2 : ∀ V, Below wr.heap.size wr V → V.cell? ⟨g2, o2 + k * 2 + 1, none⟩ = some (.string X) := fun V hV => (hV.cell (p := ⟨g2, o2 + k * 2 + 1, none⟩) (World.block_lt_of_cell? _ _ u2)).trans u2
                have n3 : ∀ V, Below wr.heap.size wr V → V.cell? ⟨P, 2, none⟩ = some (.slice (some ⟨g2, o2, none⟩) len c) := fun V hV => (hV.cell (p := ⟨P, 2, none⟩) (World.block_lt_of_cell? _ _ p2)).trans p2
                have HBB := hid hb
                clear hat hau hx hax hX hM u0 u1 u2 p2 hxl
                go_wp2
                go_region_held3 (fun w' => w'.cell? ⟨P, 2, none⟩ = some (.slice (some ⟨g2, o2, none⟩) len c) ∧ w'.cell? ⟨g1, o1 + k, none⟩ = some (.string X) ∧ w'.cell? ⟨g2, o2 + k * 2, none⟩ = some (.string M) ∧ w'.cell? ⟨g2, o2 + k * 2 + 1, none⟩ = some (.string X) ∧ Below wr.heap.size wr w') (first | exact ⟨n3 _ e1, n0 _ e1, n1 _ e1, n2 _ e1, e1⟩ | exact ⟨n3 _ e0.drew, n0 _ e0.drew, n1 _ e0.drew, n2 _ e0.drew, e0.drew⟩ | exact ⟨n3 _ e0, n0 _ e0, n1 _ e0, n2 _ e0, e0⟩)
                  (first
                    | (go_at_call 14; with_reducible refine (HNM.out _).mono ?_; rintro e w5 ⟨rfl, b5⟩; have e1 := e0.drew.trans (b5.mono e0.drew.size)))
                have hb2 := hid (HBB.out.trans (e1.mono HBB.out.size))
                go_wp2
                go_roundg (len - (k + 1))
                case measure => omega
                case rel => exact ⟨k + 1, by omega, by go_num, hb2.out⟩
              · have d1 : decide (k < len) = false := decide_eq_false hlt
                have hltI : ¬ (k : Int) < (len : Int) := by omega
                have hb2 := hid (HB4.out.trans (hb.mono HB4.out.size))
                go_wp2
                go_ret
                exact ⟨rfl, hb2.out⟩
end Go.Proofs.YtojmffpkjnpnlaaDoor.tagBack
