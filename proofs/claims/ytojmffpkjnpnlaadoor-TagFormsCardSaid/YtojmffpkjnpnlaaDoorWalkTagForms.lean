/- The walk of the statement TagForms. -/
import Derived.Test.YtojmffpkjnpnlaaDoorFrameE
import Derived.Test.YtojmffpkjnpnlaaDoorTagRow
import Derived.Test.YtojmffpkjnpnlaaDoorTagForm
namespace Go.Proofs.YtojmffpkjnpnlaaDoor.tagForms
open Go.ChangeShapes Go.WideShapes Go.ChangeAt Go.RowKit Go.Lib
open Go.ChangeMaps (open_string shut_string)
set_option maxRecDepth 100000
set_option linter.unusedVariables false

theorem bs_empty {l : List UInt8} (h : l ≠ []) : (bs l).toList.isEmpty = false := by
  rw [ByteArray.toList_eq]
  cases l with
  | nil => exact absurd rfl h
  | cons a t => rfl
set_option maxHeartbeats 2000000 in
theorem no_tag (w : World) (hT : EntW w) (s : ByteArray) (hs : s.size ≤ 3000) (i m : Int) (hi : -9223372036854775808 ≤ i ∧ i ≤ 9223372036854775807) (hm : m = i ∨ m = s.size)
    (H : ∀ e w', ReadE s.data.toList i s.size e w' → e = .returned (.tuple #[tokV 0 [] none 0 0 false [], .int .i64 m, .bool false])) :
    Calls Tryd.prog 6 #[.string s, .int .i64 i] w fun e w' => e = .returned (.bool true) ∧ Below w.heap.size w w' := by
  have HT := hid hT
  have HK := hid known6_any
  have hd : decide ((3000 : Int) < (s.size : Int)) = false := by simp; omega
  have H1 := hid fun W h => tread_any s i W h (by omega) hi
  have HE := hid H
  clear hT H
  by_cases hmi : m = i
  · subst hmi
    have d1 : ((m : Int) == m) = true := beq_self_eq_true _
    clear hm
    go_enter Tryd.func6, Tryd.ntmps6
    go_wp2_with fail
    refine (H1.out _ HT.out).mono ?_
    rintro e w1 ⟨he, b1⟩
    obtain rfl := HE.out _ _ he
    clear he
    unfold tokV
    have B1 := hid (b1.alloc b1.size (.cells #[.int .u8 0, .string (bs []), .slice none 0 0, .bool false, .string (bs [])] 24))
    have HT1 := hid (ent_below HT.out B1.out)
    have z1 := hid (BlkW.new w1 #[.int .u8 0, .string (bs []), .slice none 0 0, .bool false, .string (bs [])] 24)
    clear b1
    go_wp2_with fail
    refine (HK.out _ HT1.out).mono ?_
    rintro e w2 ⟨rfl, b2⟩
    have p0 : w2.cell? ⟨w1.heap.size, 0, none⟩ = some (.int .u8 0) := (z1.out.below b2 z1.out.lt).cell 0
    have B2 := hid (B1.out.trans (b2.mono B1.out.size))
    clear b2
    go_wp2
    go_ret
    exact ⟨ret_bool' (by simp), B2.out⟩
  · obtain rfl : m = s.size := hm.resolve_left hmi
    have d1 : ((s.size : Int) == i) = false := beq_eq_false_iff_ne.2 hmi
    have d2 : ((s.size : Int) == (s.size : Int)) = true := beq_self_eq_true _
    clear hm
    go_enter Tryd.func6, Tryd.ntmps6
    go_wp2_with fail
    refine (H1.out _ HT.out).mono ?_
    rintro e w1 ⟨he, b1⟩
    obtain rfl := HE.out _ _ he
    clear he
    unfold tokV
    have B1 := hid (b1.alloc b1.size (.cells #[.int .u8 0, .string (bs []), .slice none 0 0, .bool false, .string (bs [])] 24))
    have HT1 := hid (ent_below HT.out B1.out)
    have z1 := hid (BlkW.new w1 #[.int .u8 0, .string (bs []), .slice none 0 0, .bool false, .string (bs [])] 24)
    clear b1
    go_wp2_with fail
    refine (HK.out _ HT1.out).mono ?_
    rintro e w2 ⟨rfl, b2⟩
    have p0 : w2.cell? ⟨w1.heap.size, 0, none⟩ = some (.int .u8 0) := (z1.out.below b2 z1.out.lt).cell 0
    have B2 := hid (B1.out.trans (b2.mono B1.out.size))
    clear b2
    go_wp2
    go_ret
    exact ⟨ret_bool' (by simp), B2.out⟩
set_option maxHeartbeats 4000000 in
theorem a_tag (w : World) (hT : EntW w) (s : ByteArray) (hs : s.size ≤ 3000) (j m : Nat) (t : Tag.Tok) (hb : Tag.begB s.data.toList j = true) (hr : Tag.readP s.data.toList j = some (t, m)) :
    Calls Tryd.prog 6 #[.string s, .int .i64 j] w fun e w' => e = .returned (.bool true) ∧ Below w.heap.size w w' := by
  have HT := hid hT
  have HK := hid known6_any
  have hd : decide ((3000 : Int) < (s.size : Int)) = false := by simp; omega
  have hsl := size_list s
  obtain ⟨f1, f2, f3, f4, f5, f6, f7, f8⟩ := Tag.read_form hb hr
  have hE : ∀ e w', ReadE s.data.toList j s.size e w' → ∃ a k c, e = .returned (.tuple #[tokV t.kind t.name a k c t.self [], .int .i64 m, .bool true]) ∧ IsA w' a k t.atts ∧ k ≤ s.size := fun e w' h => by
    unfold ReadE at h
    rw [if_pos (by rw [begI_nat]; exact hb), show ((j : Int)).toNat = j by omega] at h
    simp only [hr] at h
    obtain ⟨a, k, c, h1, h2, h3⟩ := h
    exact ⟨a, k, c, h1, h2, by omega⟩
  have hj9 : j < s.size := by have := (Tag.beg_lt hb).1; omega
  have H1 := hid fun W h => tread_any s j W h (by omega) (by omega)
  have hmj : m - 1 < s.size := by omega
  have g1 := get_of s (m - 1) hmj
  have g2 := get_of s j hj9
  obtain ⟨x1, hx1⟩ : ∃ c, s[m - 1]'hmj = c := ⟨_, rfl⟩
  obtain ⟨x2, hx2⟩ : ∃ c, s[j]'hj9 = c := ⟨_, rfl⟩
  rw [hx1, f3] at g1
  rw [hx2, f4] at g2
  have y1 := x1.toNat_lt
  have y2 := x2.toNat_lt
  have b1 : (((x1.toNat : Nat) : Int) != 62) = false := by simp [g1]
  have b2 : (((x2.toNat : Nat) : Int) != 60) = false := by simp [g2]
  have d1 : decide (m ≤ j) = false := decide_eq_false (by omega)
  have d1I : decide ((m : Int) ≤ (j : Int)) = false := decide_eq_false (by omega)
  have d2 : decide (s.size < m) = false := decide_eq_false (by omega)
  have d2I : decide ((s.size : Int) < (m : Int)) = false := decide_eq_false (by omega)
  have q1 : ((m : Int) - 1).toNat = m - 1 := by omega
  have q2 : (0 : Int) ≤ (m : Int) - 1 := by omega
  have q3 : (m : Int) - 1 < (s.size : Int) := by omega
  have q4 : IntKind.i64.wrap ((m : Int) - 1) = (m : Int) - 1 := IntWalk.i64_in _ (by omega)
  have q5 : ((j : Int)).toNat = j := by omega
  have q6 : (0 : Int) ≤ (j : Int) := by omega
  have q7 : (j : Int) < (s.size : Int) := by omega
  have hne := bs_empty f5
  have HL := fun W (l : List UInt8) (hl : lowL l = l) (hz : l.length ≤ 1000000) => rlower_any (bs l) W (by rw [show (bs l).size = l.length by rw [size_eq]; rfl]; omega)
  have HLB : Hid (∀ W (l : List UInt8), lowL l = l → l.length ≤ 1000000 → Calls Tryd.prog 16 #[.string (bs l)] W fun e w' => e = .returned (.string (bs l)) ∧ Below W.heap.size W w') := hid fun W l hl hz => by
    have h := HL W l hl hz
    rw [show (bs l).data.toList = l from rfl, hl] at h
    exact h
  obtain ⟨hnl, hal⟩ := Tag.read_short hr
  have HN1 := fun W => HLB.out W t.name f6 (by omega)
  have HAL := hid (show ∀ z ∈ t.atts, z.1.length ≤ 1000000 from fun z hz => by have := hal z hz; omega)
  obtain ⟨N, hN⟩ : ∃ N, bs t.name = N := ⟨_, rfl⟩
  rw [hN] at HN1 hne
  have HN1 := hid HN1
  have HNN := hid hN
  have HE := hid hE
  have HG : Hid (Tag.Good t.atts) := hid ⟨f7, f8⟩
  have hne2 : (N.toList == ([] : List UInt8)) = false := by
    cases hq : N.toList with
    | nil => rw [hq] at hne; cases hne
    | cons a b => rfl
  clear hT hE hb hr f3 f4 f5 f6 f7 f8 g1 g2 HL hN hsl hnl hal hne2
  go_enter Tryd.func6, Tryd.ntmps6
  go_wp2_with fail
  refine (H1.out _ HT.out).mono ?_
  rintro e w1 ⟨he, b1⟩
  obtain ⟨a1, k1, c1, rfl, i1, l1⟩ := HE.out _ _ he
  clear he
  unfold tokV
  rw [HNN.out]
  have Z1 := hid (BlkW.new w1 #[.int .u8 t.kind, .string N, .slice a1 k1 c1, .bool t.self, .string (bs [])] 24)
  have B1 := hid (b1.alloc b1.size (.cells #[.int .u8 t.kind, .string N, .slice a1 k1 c1, .bool t.self, .string (bs [])] 24))
  have I1 := hid (i1.below ((Below.refl w1.heap.size w1).alloc (Nat.le_refl _) (.cells #[.int .u8 t.kind, .string N, .slice a1 k1 c1, .bool t.self, .string (bs [])] 24)))
  have p1 := Z1.out.cell 1
  simp only [List.getElem?_toArray, List.getElem?_cons_zero, List.getElem?_cons_succ] at p1
  clear b1 i1 H1
  go_wp2
  generalize w1.alloc (.cells #[.int .u8 t.kind, .string N, .slice a1 k1 c1, .bool t.self, .string (bs [])] 24) = W at *
  generalize w1.heap.size = P at *
  have e0 : Below W.heap.size W W := Below.refl _ _
  have n0 : ∀ V, Below W.heap.size W V → V.cell? ⟨P, 1, none⟩ = some (.string N) := fun V hV => (hV.cell (p := ⟨P, 1, none⟩) Z1.out.lt).trans p1
  clear p1
  go_region_held3 (fun w' => w'.cell? ⟨P, 1, none⟩ = some (.string N) ∧ Below W.heap.size W w') (first | exact ⟨n0 _ e1, e1⟩ | exact ⟨n0 _ e0.drew, e0.drew⟩ | exact ⟨n0 _ e0, e0⟩)
    (first
      | (go_at_call 16; with_reducible refine (HN1.out _).mono ?_; rintro e w3 ⟨rfl, b3⟩; have e1 := e0.drew.trans (b3.mono e0.drew.size)))
  have BW := hid (B1.out.trans (e1.mono B1.out.size))
  have I3 := hid (I1.out.below e1)
  have hp2 : w3.cell? ⟨P, 2, none⟩ = some (.slice a1 k1 c1) := (Z1.out.below e1 Z1.out.lt).cell 2
  have HP2 := hid (fun V (hV : Below w3.heap.size w3 V) => (hV.cell (p := ⟨P, 2, none⟩) (World.block_lt_of_cell? _ _ hp2)).trans hp2)
  clear hp2 n0 e0 e1 b3 HN1 b1 b2 d1 d1I d2 d2I q1 q2 q3 q4 q5 q6 q7 hne
  go_wp2
  go_loopg [8] k1 (fun g iv wr => ∃ k : Nat, k + g = k1 ∧ iv = .int .i64 k ∧ Below w3.heap.size w3 wr)
  case atStart => exact ⟨0, by omega, rfl, Below.refl _ _⟩
  case round =>
    obtain ⟨k, hk, rfl, hb⟩ := hrel
    have p2 := HP2.out _ hb
    by_cases hlt : k < k1
    · have d1 : decide (k < k1) = true := decide_eq_true hlt
      have hltI : (k : Int) < (k1 : Int) := by omega
      obtain ⟨z1, z0 | ⟨g1, o1, rfl, hat⟩⟩ := I3.out.below hb
      · omega
      obtain ⟨⟨x, y⟩, hx⟩ : ∃ x, t.atts[k]? = some x := ⟨_, List.getElem?_eq_getElem (by omega)⟩
      obtain ⟨u0, _⟩ := hat k _ hx
      have hxm := List.mem_of_getElem? hx
      obtain ⟨o1', o2', o3'⟩ := HG.out.1 _ hxm
      have hxs := HAL.out _ hxm
      simp only at u0 o1' o2' o3' hxs
      have HX := fun V => HLB.out V x o2' hxs
      have hne := bs_empty o1'
      obtain ⟨X, hX⟩ : ∃ X, bs x = X := ⟨_, rfl⟩
      have hXl : X.data.toList = x := by rw [← hX]; rfl
      have hXs : X.size ≤ 1000000 := by rw [size_eq, hXl]; exact hxs
      rw [hX] at u0 HX hne
      have HX := hid HX
      have HO := hid o3'
      have HXL := hid hXl
      have HXX := hid hX
      have HXG := hid hx
      have HAT := hid hat
      clear hat hx hxm o1' o2' o3' hxs hX hXl
      go_wp2_with fail
      refine (HX.out _).mono ?_
      rintro e w4 ⟨rfl, b4⟩
      have hb4 := hid (hb.trans (b4.mono hb.size))
      have p4 := HP2.out _ hb4.out
      have I4 := hid (I3.out.below hb4.out)
      clear b4 p2 u0 hne
      go_wp2
      go_loopg [10] X.size (fun g iv wx => ∃ j : Nat, j + g = X.size ∧ iv = .int .i64 j ∧ w4 = wx)
      case atStart => exact ⟨0, by omega, rfl, rfl⟩
      case round =>
        obtain ⟨j, hj, rfl, rfl⟩ := hrel
        by_cases hjl : j < X.size
        · have d2 : decide (j < X.size) = true := decide_eq_true hjl
          have hjlI : (j : Int) < (X.size : Int) := by omega
          have hxat := at_list X j hjl
          obtain ⟨d, hd'⟩ : ∃ d, X[j]'hjl = d := ⟨_, rfl⟩
          rw [hd', HXL.out] at hxat
          obtain ⟨v1, v2, v3⟩ := HO.out d (List.mem_of_getElem? hxat)
          have hd256 := d.toNat_lt
          have HS := rspace_any d.toNat (by omega) w4
          unfold Tag.spB at v1
          rw [v1] at HS
          have HS := hid HS
          have c1' : (((d.toNat : Nat) : Int) == 62) = false := by simp; omega
          have c2' : (((d.toNat : Nat) : Int) == 47) = false := by simp; omega
          clear hxat v1 v2 v3
          go_wp2_with fail
          refine HS.out.mono ?_
          rintro e w5 ⟨rfl, rfl⟩
          go_wp2
          go_roundg (X.size - (j + 1))
          case measure => omega
          case rel => exact ⟨j + 1, by omega, by go_num, rfl⟩
        · have d2 : decide (j < X.size) = false := decide_eq_false hjl
          have hjlI : ¬ (j : Int) < (X.size : Int) := by omega
          go_wp2
          go_loopg [12] k (fun g iv wx => ∃ j : Nat, j + g = k ∧ iv = .int .i64 j ∧ w4 = wx)
          case atStart => exact ⟨0, by omega, rfl, rfl⟩
          case round =>
            obtain ⟨j, hj, rfl, rfl⟩ := hrel
            by_cases hjk : j < k
            · have d3 : decide (j < k) = true := decide_eq_true hjk
              have hjkI : (j : Int) < (k : Int) := by omega
              have hjk1 : (j : Int) < (k1 : Int) := by omega
              obtain ⟨z2, z0 | ⟨g2, o2, he2, hat2⟩⟩ := I4.out
              · omega
              obtain ⟨⟨x', y'⟩, hx'⟩ : ∃ x, t.atts[j]? = some x := ⟨_, List.getElem?_eq_getElem (by omega)⟩
              obtain ⟨u1, _⟩ := hat2 j _ hx'
              cases he2
              have hne2 : x' ≠ x := by
                intro e
                have h1 : (t.atts.map (·.1))[j]? = some x := by simp [hx', e]
                have h2 : (t.atts.map (·.1))[k]? = some x := by simp [HXG.out]
                obtain ⟨l1', l2'⟩ := List.getElem?_eq_some_iff.1 h1
                obtain ⟨l3', l4'⟩ := List.getElem?_eq_some_iff.1 h2
                exact List.pairwise_iff_getElem.1 HG.out.2 j k l1' l3' hjk (l2'.trans l4'.symm)
              have t0 : ¬ (bs x').toList = X.toList := fun e => hne2 (bs_inj (by rw [HXX.out]; exact e))
              have t1 : ((bs x').toList == X.toList) = false := by simpa using t0
              simp only at u1
              generalize bs x' = Y at *
              clear hat2 hx' hne2
              go_wp2
              go_roundg (k - (j + 1))
              case measure => omega
              case rel => exact ⟨j + 1, by omega, by go_num, rfl⟩
            · have d3 : decide (j < k) = false := decide_eq_false hjk
              have hjkI : ¬ (j : Int) < (k : Int) := by omega
              go_wp2
              go_roundg (k1 - (k + 1))
              case measure => omega
              case rel => exact ⟨k + 1, by omega, by go_num, hb4.out⟩
    · have d1 : decide (k < k1) = false := decide_eq_false hlt
      have hltI : ¬ (k : Int) < (k1 : Int) := by omega
      have hb2 := hid (BW.out.trans (hb.mono BW.out.size))
      have HT2 := hid (ent_below HT.out hb2.out)
      go_wp2_with fail
      refine (HK.out _ HT2.out).mono ?_
      rintro e w5 ⟨rfl, b5⟩
      have hb3 := hid (hb2.out.trans (b5.mono hb2.out.size))
      go_wp2
      go_ret
      exact ⟨rfl, hb3.out⟩
theorem walk (w : World) (hT : EntW w) (s : ByteArray) (ws : s.size ≤ maxLen) (i : Int) (wi : (Lit.int .i64 i).wf = true) :
    Calls Tryd.prog 6 #[.string s, .int .i64 i] w fun e w' => e = .returned (.bool true) ∧ Below w.heap.size w w' := by
  have hi := Go.bounds_i64 wi
  by_cases hs : 3000 < s.size
  · have hd : decide ((3000 : Int) < (s.size : Int)) = true := by simp; omega
    clear hT wi hi ws
    go_enter Tryd.func6, Tryd.ntmps6
    go_wp2
    go_ret
    exact ⟨rfl, Below.refl _ _⟩
  cases hb : begI s.data.toList i with
  | false =>
    refine no_tag w hT s (by omega) i i hi (.inl rfl) fun e w' h => ?_
    unfold ReadE at h
    rw [if_neg (by rw [hb]; decide)] at h
    exact h
  | true =>
    obtain ⟨j, rfl, hj⟩ := begI_cases hb
    cases hr : Tag.readP s.data.toList j with
    | none =>
      refine no_tag w hT s (by omega) j s.size hi (.inr rfl) fun e w' h => ?_
      unfold ReadE at h
      rw [if_pos hb, show ((j : Int)).toNat = j by omega, hr] at h
      exact h
    | some x =>
      obtain ⟨t, m⟩ := x
      exact a_tag w hT s (by omega) j m t hj hr
end Go.Proofs.YtojmffpkjnpnlaaDoor.tagForms
