/- The walk of the statement TagSize. -/
import Derived.Test.YtojmffpkjnpnlaaDoorFrameE
import Derived.Test.YtojmffpkjnpnlaaDoorTagRow
import Derived.Test.YtojmffpkjnpnlaaDoorTagForm
namespace Go.Proofs.YtojmffpkjnpnlaaDoor.tagSize
open Go.ChangeShapes Go.WideShapes Go.ChangeAt Go.RowKit Go.Lib
open Go.ChangeMaps (open_string shut_string)
set_option maxRecDepth 100000
set_option linter.unusedVariables false

theorem readE_two {l : List UInt8} {i : Int} {n : Nat} (hn : l.length = n) : ∃ (K : Nat) (nm : List UInt8) (cl : Bool) (ats bts : List Tag.At) (m : Int) (is : Bool), ats.map (·.1) = bts.map (·.1) ∧
    (∀ e w', ReadE l i n e w' → ∃ a k c, e = .returned (.tuple #[tokV K nm a k c cl [], .int .i64 m, .bool is]) ∧ IsA w' a k ats ∧ k ≤ n) ∧
    (∀ e w', ReadE (lowL l) i n e w' → ∃ a k c, e = .returned (.tuple #[tokV K nm a k c cl [], .int .i64 m, .bool is]) ∧ IsA w' a k bts ∧ k ≤ n) := by
  have hbl : begI (lowL l) i = begI l i := by unfold begI; rw [Tag.beg_low]
  unfold ReadE
  rw [hbl]
  by_cases hb : begI l i = true
  · simp only [if_pos hb]
    have hr := Tag.read_low l i.toNat
    cases h1 : Tag.readP (lowL l) i.toNat with
    | none =>
      rw [h1] at hr
      cases h2 : Tag.readP l i.toNat with
      | none => exact ⟨0, [], false, [], [], n, false, rfl, fun e w' h => ⟨none, 0, 0, h, ⟨rfl, .inl rfl⟩, by omega⟩, fun e w' h => ⟨none, 0, 0, h, ⟨rfl, .inl rfl⟩, by omega⟩⟩
      | some y => rw [h2] at hr; exact hr.elim
    | some x =>
      rw [h1] at hr
      cases h2 : Tag.readP l i.toNat with
      | none => rw [h2] at hr; exact hr.elim
      | some y =>
        rw [h2] at hr
        obtain ⟨t, m⟩ := x
        obtain ⟨u, m2⟩ := y
        obtain ⟨e1, e2, e3, e4, e5⟩ := hr
        refine ⟨u.kind, u.name, u.self, u.atts, t.atts, m2, true, e5.symm, fun e w' h => ?_, fun e w' h => ?_⟩
        · obtain ⟨a, k, c, h1, h2, h3⟩ := h
          exact ⟨a, k, c, h1, h2, by omega⟩
        · obtain ⟨a, k, c, h1, h2, h3⟩ := h
          rw [lowL_len] at h3
          rw [e1, e2, e3, e4] at h1
          exact ⟨a, k, c, h1, h2, by omega⟩
  · simp only [if_neg hb]
    exact ⟨0, [], false, [], [], i, false, rfl, fun e w' h => ⟨none, 0, 0, h, ⟨rfl, .inl rfl⟩, by omega⟩, fun e w' h => ⟨none, 0, 0, h, ⟨rfl, .inl rfl⟩, by omega⟩⟩
set_option maxHeartbeats 2000000 in
theorem walk (w : World) (hT : EntW w) (s : ByteArray) (ws : s.size ≤ maxLen) (i : Int) (wi : (Lit.int .i64 i).wf = true) :
    Calls Tryd.prog 7 #[.string s, .int .i64 i] w fun e w' => e = .returned (.bool true) ∧ Below w.heap.size w w' := by
  unfold maxLen at ws
  have hi := Go.bounds_i64 wi
  have HT := hid hT
  have HK := hid known6_any
  by_cases hs : 3000 < s.size
  · have hd : decide ((3000 : Int) < (s.size : Int)) = true := by simp; omega
    clear hT wi hi
    go_enter Tryd.func7, Tryd.ntmps7
    go_wp2_with fail
    refine (HK.out _ HT.out).mono ?_
    rintro e w1 ⟨rfl, b1⟩
    go_wp2
    go_ret
    exact ⟨rfl, b1⟩
  have hd : decide ((3000 : Int) < (s.size : Int)) = false := by simp; omega
  have H1 := fun W h => tread_any s i W h (by omega) hi
  have HL := fun W => rlower_any s W (by omega)
  obtain ⟨L, hL⟩ : ∃ L : ByteArray, (⟨(lowL s.data.toList).toArray⟩ : ByteArray) = L := ⟨_, rfl⟩
  have hLl : L.data.toList = lowL s.data.toList := by rw [← hL]
  have hLs : L.size = s.size := by rw [size_eq, hLl, lowL_len, size_list]
  have H2 := fun W h => tread_any L i W h (by omega) hi
  rw [hL] at HL
  rw [hLl, hLs] at H2
  obtain ⟨K, nm, cl, ats, bts, m, is, hnames, hE1, hE2⟩ := readE_two (l := s.data.toList) (i := i) (size_list s)
  have H1 := hid H1
  have H2 := hid H2
  have HL := hid HL
  have HE1 := hid hE1
  have HE2 := hid hE2
  have HNM := hid hnames
  clear hT hE1 hE2 hnames wi hL hLl hLs
  go_enter Tryd.func7, Tryd.ntmps7
  go_wp2_with fail
  refine (HK.out _ HT.out).mono ?_
  rintro e w0 ⟨rfl, b0⟩
  have B0 := hid b0
  have HT0 := hid (ent_below HT.out b0)
  clear b0
  go_wp2_with fail
  refine (H1.out _ HT0.out).mono ?_
  rintro e w1 ⟨he, b1⟩
  obtain ⟨a1, k1, c1, rfl, i1, l1⟩ := HE1.out _ _ he
  clear he
  unfold tokV
  obtain ⟨Y, hY⟩ : ∃ Y, bs nm = Y := ⟨_, rfl⟩
  have HY := hid hY
  rw [hY]
  clear hY
  have b1' := B0.out.trans (b1.mono B0.out.size)
  have z1 := BlkW.new w1 #[.int .u8 K, .string Y, .slice a1 k1 c1, .bool cl, .string (bs [])] 24
  have B1 := hid (b1'.alloc b1'.size (.cells #[.int .u8 K, .string Y, .slice a1 k1 c1, .bool cl, .string (bs [])] 24))
  have I1 := hid (i1.below ((Below.refl w1.heap.size w1).alloc (Nat.le_refl _) (.cells #[.int .u8 K, .string Y, .slice a1 k1 c1, .bool cl, .string (bs [])] 24)))
  have Z1 := hid z1
  clear b1 b1' i1 z1
  go_wp2_with fail
  refine (HL.out _).mono ?_
  rintro e w2 ⟨rfl, b2⟩
  have I2 := hid (I1.out.below b2)
  have Z2 := hid (Z1.out.below b2 Z1.out.lt)
  have B2 := hid (B1.out.trans (b2.mono B1.out.size))
  have HT2 := hid (ent_below HT.out B2.out)
  clear b2 I1 Z1 B1
  go_wp2_with fail
  refine (H2.out _ HT2.out).mono ?_
  rintro e w3 ⟨he, b3⟩
  obtain ⟨a2, k2, c2, rfl, i2, l2⟩ := HE2.out _ _ he
  clear he
  unfold tokV
  rw [HY.out]
  have hkk : k2 = k1 := by
    have e1 := I2.out.1
    have e2 := i2.1
    have e3 := congrArg List.length HNM.out
    rw [List.length_map, List.length_map] at e3
    omega
  subst hkk
  have J1 := hid ((I2.out.below b3).below ((Below.refl w3.heap.size w3).alloc (Nat.le_refl _) (.cells #[.int .u8 K, .string Y, .slice a2 k2 c2, .bool cl, .string (bs [])] 24)))
  have J2 := hid (i2.below ((Below.refl w3.heap.size w3).alloc (Nat.le_refl _) (.cells #[.int .u8 K, .string Y, .slice a2 k2 c2, .bool cl, .string (bs [])] 24)))
  have Z3 := hid ((Z2.out.below b3 Z2.out.lt).alloc (.cells #[.int .u8 K, .string Y, .slice a2 k2 c2, .bool cl, .string (bs [])] 24))
  have Y3 := hid (BlkW.new w3 #[.int .u8 K, .string Y, .slice a2 k2 c2, .bool cl, .string (bs [])] 24)
  have b3' := B2.out.trans (b3.mono B2.out.size)
  have B3 := hid (b3'.alloc b3'.size (.cells #[.int .u8 K, .string Y, .slice a2 k2 c2, .bool cl, .string (bs [])] 24))
  clear b3 b3' i2 I2 Z2 B2 HL H1 H2 HE1 HE2 HT2
  have p0 := Z3.out.cell 0
  have p1 := Z3.out.cell 1
  have p2 := Z3.out.cell 2
  have p3 := Z3.out.cell 3
  have q0 := Y3.out.cell 0
  have q1 := Y3.out.cell 1
  have q2 := Y3.out.cell 2
  have q3 := Y3.out.cell 3
  simp only [List.getElem?_toArray, List.getElem?_cons_zero, List.getElem?_cons_succ] at p0 p1 p2 p3 q0 q1 q2 q3
  go_wp2
  generalize w3.alloc (.cells #[.int .u8 K, .string Y, .slice a2 k2 c2, .bool cl, .string (bs [])] 24) = W at *
  generalize w3.heap.size = Q at *
  generalize w1.heap.size = P at *
  have HP2 := hid (fun V (hV : Below W.heap.size W V) => (hV.cell (p := ⟨P, 2, none⟩) Z3.out.lt).trans p2)
  have HQ2 := hid (fun V (hV : Below W.heap.size W V) => (hV.cell (p := ⟨Q, 2, none⟩) Y3.out.lt).trans q2)
  clear p0 p1 p2 p3 q0 q1 q2 q3
  go_loopg [11] k2 (fun g iv wr => ∃ k : Nat, k + g = k2 ∧ iv = .int .i64 k ∧ Below W.heap.size W wr)
  case atStart => exact ⟨0, by omega, rfl, Below.refl _ _⟩
  case round =>
    obtain ⟨k, hk, rfl, hb⟩ := hrel
    have p2 := HP2.out _ hb
    have q2 := HQ2.out _ hb
    by_cases hlt : k < k2
    · have d1 : decide (k < k2) = true := decide_eq_true hlt
      have hltI : (k : Int) < (k2 : Int) := by omega
      obtain ⟨e1, z0 | ⟨g1, o1, rfl, hat⟩⟩ := J1.out.below hb
      · omega
      obtain ⟨e2, z0 | ⟨g2, o2, rfl, hau⟩⟩ := J2.out.below hb
      · omega
      obtain ⟨⟨x, y⟩, hx⟩ : ∃ x, ats[k]? = some x := ⟨_, List.getElem?_eq_getElem (by omega)⟩
      obtain ⟨⟨x', y'⟩, hy⟩ : ∃ y, bts[k]? = some y := ⟨_, List.getElem?_eq_getElem (by omega)⟩
      obtain ⟨u0, _⟩ := hat k _ hx
      obtain ⟨v0, _⟩ := hau k _ hy
      have hxx : x = x' := by
        have h1 : (ats.map (·.1))[k]? = some x := by simp [hx]
        have h2 : (bts.map (·.1))[k]? = some x' := by simp [hy]
        rw [HNM.out, h2] at h1
        exact (Option.some.inj h1).symm
      subst hxx
      simp only at u0 v0
      generalize bs x = X at *
      clear hat hau hx hy e1 e2
      go_wp2
      go_quiet (fail)
      go_wp2
      go_roundg (k2 - (k + 1))
      case measure => omega
      case rel => exact ⟨k + 1, by omega, by go_num, bel_drewN hb _⟩
    · have d1 : decide (k < k2) = false := decide_eq_false hlt
      have hltI : ¬ (k : Int) < (k2 : Int) := by omega
      have hb2 := hid (B3.out.trans (hb.mono B3.out.size))
      go_wp2
      go_ret
      exact ⟨rfl, hb2.out⟩
end Go.Proofs.YtojmffpkjnpnlaaDoor.tagSize
