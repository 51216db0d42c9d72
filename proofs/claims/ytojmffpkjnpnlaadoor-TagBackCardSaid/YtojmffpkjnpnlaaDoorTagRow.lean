/- Walks: what Read answers, the program's and the reference's, at any place. Walks: the statements' head of layer 6, 'known': the chapter's examples. Walks: TagReads, as a contract: TagAll calls it. -/
import Derived.Test.YtojmffpkjnpnlaaDoorTagProg
import Derived.Test.YtojmffpkjnpnlaaDoorRefTagO
import Derived.Test.YtojmffpkjnpnlaaDoorRefTagE
import Derived.Test.YtojmffpkjnpnlaaDoorRefEntP
import Derived.Test.YtojmffpkjnpnlaaDoorSameTokP
namespace Go.Proofs.YtojmffpkjnpnlaaDoor
open Go.RowKit Go.Lib
set_option maxRecDepth 100000
set_option linter.unusedVariables false

theorem readE_no {l : List UInt8} {i : Int} {n : Nat} {e : Ending} {w' : World} (h : begI l i = false) (he : e = .returned (.tuple #[tokV 0 [] none 0 0 false [], .int .i64 i, .bool false])) : ReadE l i n e w' := by
  unfold ReadE
  rw [if_neg (by rw [h]; decide)]
  exact he
theorem readE_yes {l : List UInt8} {i n : Nat} {e : Ending} {w' : World} (h : Tag.begB l i = true) (he : TagE l i n e w') : ReadE l i n e w' := by
  unfold ReadE
  rw [if_pos (by rw [begI_nat]; exact h)]
  exact he
theorem begI_cases {l : List UInt8} {i : Int} (h : begI l i = true) : ∃ n : Nat, i = n ∧ Tag.begB l n = true := by
  unfold begI at h
  simp only [Bool.and_eq_true, decide_eq_true_eq] at h
  exact ⟨i.toNat, by omega, h.2⟩
theorem tread_any (s : ByteArray) (i : Int) (w : World) (hE0 : EntW w) (hs : s.size ≤ 400000) (hi : -9223372036854775808 ≤ i ∧ i ≤ 9223372036854775807) :
    Calls Tryd.prog 8 #[.string s, .int .i64 i] w fun e w' => ReadE s.data.toList i s.size e w' ∧ Below w.heap.size w w' := by
  cases hb : begI s.data.toList i with
  | false => exact (tread_no s i w hs hi hb).mono fun e w' ⟨h1, h2⟩ => ⟨readE_no hb h1, h2⟩
  | true =>
    obtain ⟨n, rfl, hn⟩ := begI_cases hb
    exact (tread_yes s n w hE0 hs hn).mono fun e w' ⟨h1, h2⟩ => ⟨readE_yes hn h1, h2⟩
theorem decA : DecA := fun x w h => rdecode_any x true w h
theorem rread_any (s : ByteArray) (i : Int) (w : World) (hs : s.size ≤ 400000) (hi : -9223372036854775808 ≤ i ∧ i ≤ 9223372036854775807) :
    Calls Tryd.prog 9 #[.string s, .int .i64 i] w fun e w' => ReadE s.data.toList i s.size e w' ∧ Below w.heap.size w w' := by
  cases hb : begI s.data.toList i with
  | false => exact (read_no s i w (by omega) hi hb).mono fun e w' ⟨h1, h2⟩ => ⟨readE_no hb h1, h2⟩
  | true =>
    obtain ⟨n, rfl, hn⟩ := begI_cases hb
    by_cases h47 : U8.B s.data.toList (n + 1) = 47
    · exact (read_tag3 decA s n w hs hn h47).mono fun e w' ⟨h1, h2⟩ => ⟨readE_yes hn h1, h2⟩
    · exact (read_tag2 decA s n w hs hn h47).mono fun e w' ⟨h1, h2⟩ => ⟨readE_yes hn h1, h2⟩
end Go.Proofs.YtojmffpkjnpnlaaDoor
namespace Go.Proofs.YtojmffpkjnpnlaaDoor
open Go.RowKit Go.Lib
set_option maxRecDepth 100000
set_option linter.unusedVariables false

theorem tag_at {s : ByteArray} {t : Tag.Tok} {m : Nat} {w' : World} {e : Ending} (h : TagE s.data.toList 0 s.size e w') (hr : Tag.readP s.data.toList 0 = some (t, m)) : ∃ a k c, e = .returned (.tuple #[tokV t.kind t.name a k c t.self [], .int .i64 m, .bool true]) ∧ IsA w' a k t.atts ∧ k ≤ s.data.toList.length := by
  unfold TagE at h
  rw [hr] at h
  exact h
theorem r_one : Tag.readP [60, 65, 32, 72, 114, 101, 102, 61, 120, 32, 116, 105, 116, 108, 101, 61, 39, 97, 38, 97, 109, 112, 59, 98, 39, 32, 104, 114, 101, 102, 61, 121, 47, 62, 122] 0 = some ({ kind := 2, name := [97], atts := [([104, 114, 101, 102], [120]), ([116, 105, 116, 108, 101], [97, 38, 98])], self := false }, 34) := by kernel_rfl
theorem r_two : Tag.readP [60, 97, 32, 98, 61, 34] 0 = none := by kernel_rfl
theorem r_three : Tag.readP [60, 47, 112, 32, 97, 62] 0 = some ({ kind := 3, name := [112], atts := [], self := false }, 6) := by kernel_rfl
theorem k_one (w : World) (hE : EntW w) : Calls Tryd.prog 8 #[.string ⟨#[60, 65, 32, 72, 114, 101, 102, 61, 120, 32, 116, 105, 116, 108, 101, 61, 39, 97, 38, 97, 109, 112, 59, 98, 39, 32, 104, 114, 101, 102, 61, 121, 47, 62, 122]⟩, .int .i64 0] w fun e w' => (∃ b off c, e = .returned (.tuple #[.agg #[.int .u8 2, .string ⟨#[97]⟩, .slice (some ⟨b, off, none⟩) 2 c, .bool false, .string ⟨#[]⟩], .int .i64 34, .bool true]) ∧ w'.cell? ⟨b, off + 3, none⟩ = some (.string ⟨#[97, 38, 98]⟩)) ∧ Below w.heap.size w w' :=
  (tread_yes ⟨#[60, 65, 32, 72, 114, 101, 102, 61, 120, 32, 116, 105, 116, 108, 101, 61, 39, 97, 38, 97, 109, 112, 59, 98, 39, 32, 104, 114, 101, 102, 61, 121, 47, 62, 122]⟩ 0 w hE (by decide) (by decide +kernel)).mono fun e w' ⟨h1, h2⟩ => ⟨by
    obtain ⟨a, k, c, he, hI, _⟩ := tag_at h1 r_one
    obtain ⟨hk, h0 | ⟨b, off, rfl, hat⟩⟩ := hI
    · rw [h0] at hk; cases hk
    · obtain rfl : k = 2 := hk.symm
      exact ⟨b, off, c, he, (hat 1 _ rfl).2⟩, h2⟩
theorem k_two (w : World) (hE : EntW w) : Calls Tryd.prog 8 #[.string ⟨#[60, 97, 32, 98, 61, 34]⟩, .int .i64 0] w fun e w' => e = .returned (.tuple #[.agg #[.int .u8 0, .string ⟨#[]⟩, .slice none 0 0, .bool false, .string ⟨#[]⟩], .int .i64 6, .bool false]) ∧ Below w.heap.size w w' :=
  (tread_yes ⟨#[60, 97, 32, 98, 61, 34]⟩ 0 w hE (by decide) (by decide +kernel)).mono fun e w' ⟨h1, h2⟩ => ⟨by
    unfold TagE at h1
    rw [show Tag.readP (⟨#[60, 97, 32, 98, 61, 34]⟩ : ByteArray).data.toList 0 = none from r_two] at h1
    exact h1, h2⟩
theorem k_three (w : World) (hE : EntW w) : Calls Tryd.prog 8 #[.string ⟨#[60, 47, 112, 32, 97, 62]⟩, .int .i64 0] w fun e w' => (∃ a c, e = .returned (.tuple #[.agg #[.int .u8 3, .string ⟨#[112]⟩, .slice a 0 c, .bool false, .string ⟨#[]⟩], .int .i64 6, .bool true])) ∧ Below w.heap.size w w' :=
  (tread_yes ⟨#[60, 47, 112, 32, 97, 62]⟩ 0 w hE (by decide) (by decide +kernel)).mono fun e w' ⟨h1, h2⟩ => ⟨by
    obtain ⟨a, k, c, he, hI, _⟩ := tag_at h1 r_three
    obtain rfl : k = 0 := hI.1.symm
    exact ⟨a, c, he⟩, h2⟩
theorem k_four (w : World) : Calls Tryd.prog 12 #[.string ⟨#[60, 47, 112]⟩, .int .i64 0] w fun e w' => e = .returned (.bool true) ∧ w = w' :=
  (cbegins_any ⟨#[60, 47, 112]⟩ 0 w (by decide) (by decide)).mono fun e w' ⟨h1, h2⟩ => ⟨by rw [h1, show begI (⟨#[60, 47, 112]⟩ : ByteArray).data.toList 0 = true by decide +kernel], h2⟩
theorem k_five (w : World) : Calls Tryd.prog 12 #[.string ⟨#[60, 32, 112]⟩, .int .i64 0] w fun e w' => e = .returned (.bool false) ∧ w = w' :=
  (cbegins_any ⟨#[60, 32, 112]⟩ 0 w (by decide) (by decide)).mono fun e w' ⟨h1, h2⟩ => ⟨by rw [h1, show begI (⟨#[60, 32, 112]⟩ : ByteArray).data.toList 0 = false by decide +kernel], h2⟩
set_option maxHeartbeats 2000000 in
theorem known6_any (w : World) (hT : EntW w) : Calls Tryd.prog 10 #[] w fun e w' => e = .returned (.bool true) ∧ Below w.heap.size w w' := by
  have HT := hid hT
  clear hT
  go_enter Tryd.func10, Tryd.ntmps10
  go_wp2_with fail
  refine (k_one _ HT.out).mono ?_
  rintro e w1 ⟨⟨b, off, c, rfl, hc⟩, b1⟩
  have hblt := World.block_lt_of_cell? _ _ hc
  have B2 := hid (b1.alloc b1.size (.cells #[.int .u8 2, .string ⟨#[97]⟩, .slice (some ⟨b, off, none⟩) 2 c, .bool false, .string ⟨#[]⟩] 24))
  have HC2 : Hid ((w1.alloc (.cells #[.int .u8 2, .string ⟨#[97]⟩, .slice (some ⟨b, off, none⟩) 2 c, .bool false, .string ⟨#[]⟩] 24)).cell? ⟨b, off + 3, none⟩ = some (.string ⟨#[97, 38, 98]⟩)) := hid ((((Below.refl w1.heap.size w1).alloc (Nat.le_refl _) _).cell (p := ⟨b, off + 3, none⟩) hblt).trans hc)
  have HT2 := hid (ent_below HT.out B2.out)
  clear hc hblt b1
  go_wp2_with fail
  refine (k_two _ HT2.out).mono ?_
  rintro e w2 ⟨rfl, b2⟩
  have B3 := hid ((B2.out.trans (b2.mono B2.out.size)).alloc (by have := b2.size; have := B2.out.size; omega) (.cells #[.int .u8 0, .string ⟨#[]⟩, .slice none 0 0, .bool false, .string ⟨#[]⟩] 24))
  have HT3 := hid (ent_below HT.out B3.out)
  have g1 := (BlkW.new w1 #[.int .u8 2, .string ⟨#[97]⟩, .slice (some ⟨b, off, none⟩) 2 c, .bool false, .string ⟨#[]⟩] 24)
  have HG3 := hid ((g1.below b2 g1.lt).alloc (.cells #[.int .u8 0, .string ⟨#[]⟩, .slice none 0 0, .bool false, .string ⟨#[]⟩] 24))
  have hc3 := (b2.cell (p := ⟨b, off + 3, none⟩) (World.block_lt_of_cell? _ _ HC2.out)).trans HC2.out
  have HC3 : Hid ((w2.alloc (.cells #[.int .u8 0, .string ⟨#[]⟩, .slice none 0 0, .bool false, .string ⟨#[]⟩] 24)).cell? ⟨b, off + 3, none⟩ = some (.string ⟨#[97, 38, 98]⟩)) := hid ((((Below.refl w2.heap.size w2).alloc (Nat.le_refl _) _).cell (p := ⟨b, off + 3, none⟩) (World.block_lt_of_cell? _ _ hc3)).trans hc3)
  have k0 : (w2.alloc (.cells #[.int .u8 0, .string ⟨#[]⟩, .slice none 0 0, .bool false, .string ⟨#[]⟩] 24)).cell? ⟨w1.heap.size, 0, none⟩ = some (.int .u8 2) := HG3.out.cell 0
  have k1 : (w2.alloc (.cells #[.int .u8 0, .string ⟨#[]⟩, .slice none 0 0, .bool false, .string ⟨#[]⟩] 24)).cell? ⟨w1.heap.size, 1, none⟩ = some (.string ⟨#[97]⟩) := HG3.out.cell 1
  have k2 : (w2.alloc (.cells #[.int .u8 0, .string ⟨#[]⟩, .slice none 0 0, .bool false, .string ⟨#[]⟩] 24)).cell? ⟨w1.heap.size, 2, none⟩ = some (.slice (some ⟨b, off, none⟩) 2 c) := HG3.out.cell 2
  have k3 : (w2.alloc (.cells #[.int .u8 0, .string ⟨#[]⟩, .slice none 0 0, .bool false, .string ⟨#[]⟩] 24)).cell? ⟨w1.heap.size, 3, none⟩ = some (.bool false) := HG3.out.cell 3
  have k4 : (w2.alloc (.cells #[.int .u8 0, .string ⟨#[]⟩, .slice none 0 0, .bool false, .string ⟨#[]⟩] 24)).cell? ⟨b, off + 3, none⟩ = some (.string ⟨#[97, 38, 98]⟩) := HC3.out
  have k5 : (w2.alloc (.cells #[.int .u8 0, .string ⟨#[]⟩, .slice none 0 0, .bool false, .string ⟨#[]⟩] 24)).cell? ⟨b, off + 2 + 1, none⟩ = some (.string ⟨#[97, 38, 98]⟩) := HC3.out
  clear g1 hc3 b2
  go_wp2_with fail
  refine (k_three _ HT3.out).mono ?_
  rintro e w3 ⟨⟨a4, c4, rfl⟩, b3⟩
  have B4 := hid ((B3.out.trans (b3.mono B3.out.size)).alloc (by have := b3.size; have := B3.out.size; omega) (.cells #[.int .u8 3, .string ⟨#[112]⟩, .slice a4 0 c4, .bool false, .string ⟨#[]⟩] 24))
  clear k0 k1 k2 k3 k4 k5 b3
  go_wp2_with fail
  refine (k_four _).mono ?_
  rintro e w4 ⟨rfl, rfl⟩
  go_wp2_with fail
  refine (k_five _).mono ?_
  rintro e w4 ⟨rfl, rfl⟩
  go_wp2
  go_ret
  exact ⟨rfl, B4.out⟩
end Go.Proofs.YtojmffpkjnpnlaaDoor
namespace Go.Proofs.YtojmffpkjnpnlaaDoor
open Go.RowKit Go.Lib
set_option maxRecDepth 100000
set_option linter.unusedVariables false

/-- The answer, whichever it is: a token, a place, a Bool. -/
theorem readE_any {l : List UInt8} {i : Int} {n : Nat} (hn : l.length = n) : ∃ (K : Nat) (nm : List UInt8) (cl : Bool) (ats : List Tag.At) (m : Int) (is : Bool), ∀ e w', ReadE l i n e w' → ∃ a k c, e = .returned (.tuple #[tokV K nm a k c cl [], .int .i64 m, .bool is]) ∧ IsA w' a k ats ∧ k ≤ n := by
  unfold ReadE
  by_cases hb : begI l i = true
  · simp only [if_pos hb]
    cases hr : Tag.readP l i.toNat with
    | none => exact ⟨0, [], false, [], n, false, fun e w' h => ⟨none, 0, 0, h, ⟨rfl, .inl rfl⟩, by omega⟩⟩
    | some x =>
      obtain ⟨t, m⟩ := x
      exact ⟨t.kind, t.name, t.self, t.atts, m, true, fun e w' h => by
        obtain ⟨a, k, c, h1, h2, h3⟩ := h
        exact ⟨a, k, c, h1, h2, by omega⟩⟩
  · simp only [if_neg hb]
    exact ⟨0, [], false, [], i, false, fun e w' h => ⟨none, 0, 0, h, ⟨rfl, .inl rfl⟩, by omega⟩⟩
set_option maxHeartbeats 2000000 in
theorem treads_any (s : ByteArray) (i : Int) (w : World) (hT : EntW w) (hi : -9223372036854775808 ≤ i ∧ i ≤ 9223372036854775807) (ws : s.size ≤ maxLen) :
    Calls Tryd.prog 3 #[.string s, .int .i64 i] w fun e w' => e = .returned (.bool true) ∧ Below w.heap.size w w' := by
  unfold maxLen at ws
  have HT := hid hT
  by_cases hs : 3000 < s.size
  · have hd : decide ((3000 : Int) < (s.size : Int)) = true := by simp; omega
    clear hT
    go_enter Tryd.func3, Tryd.ntmps3
    go_wp2
    go_ret
    exact ⟨rfl, Below.refl _ _⟩
  have hd : decide ((3000 : Int) < (s.size : Int)) = false := by simp; omega
  have H1 := fun W h => tread_any s i W h (by omega) hi
  have H2 := fun W => rread_any s i W (by omega) hi
  obtain ⟨K, nm, cl, ats, m, is, hE⟩ := readE_any (l := s.data.toList) (i := i) (size_list s)
  have H3 := fun W => cbegins_any s i W (by omega) hi
  have H4 := fun W => begins_any s i W (by omega) hi
  generalize begI s.data.toList i = bg at *
  have H1 := hid H1
  have H2 := hid H2
  have H3 := hid H3
  have H4 := hid H4
  have HE := hid hE
  clear hT hE
  go_enter Tryd.func3, Tryd.ntmps3
  go_wp2_with fail
  refine (H1.out _ HT.out).mono ?_
  rintro e w1 ⟨he, b1⟩
  obtain ⟨a1, k1, c1, rfl, i1, l1⟩ := HE.out _ _ he
  clear he
  unfold tokV
  have z1 := BlkW.new w1 #[.int .u8 K, .string (bs nm), .slice a1 k1 c1, .bool cl, .string (bs [])] 24
  have B1 := hid (b1.alloc b1.size (.cells #[.int .u8 K, .string (bs nm), .slice a1 k1 c1, .bool cl, .string (bs [])] 24))
  have I1 := hid (i1.below ((Below.refl w1.heap.size w1).alloc (Nat.le_refl _) (.cells #[.int .u8 K, .string (bs nm), .slice a1 k1 c1, .bool cl, .string (bs [])] 24)))
  have Z1 := hid z1
  clear b1 i1 z1
  go_wp2_with fail
  refine (H2.out _).mono ?_
  rintro e w2 ⟨he, b2⟩
  obtain ⟨a2, k2, c2, rfl, i2, l2⟩ := HE.out _ _ he
  clear he
  unfold tokV
  have I2 := hid (I1.out.below b2)
  have Z2 := hid (Z1.out.below b2 Z1.out.lt)
  have B2 := hid (B1.out.trans (b2.mono B1.out.size))
  clear b2 I1 Z1 B1
  have n1 : w1.heap.size ≠ w2.heap.size := by have := Z2.out.lt; omega
  have B3 := hid (B2.out.alloc B2.out.size (.cells #[.int .u8 K, .string (bs nm), .slice a2 k2 c2, .bool cl, .string (bs [])] 24))
  have J1 := hid (I2.out.below ((Below.refl w2.heap.size w2).alloc (Nat.le_refl _) (.cells #[.int .u8 K, .string (bs nm), .slice a2 k2 c2, .bool cl, .string (bs [])] 24)))
  have J2 := hid (i2.below ((Below.refl w2.heap.size w2).alloc (Nat.le_refl _) (.cells #[.int .u8 K, .string (bs nm), .slice a2 k2 c2, .bool cl, .string (bs [])] 24)))
  have Z3 := hid (Z2.out.alloc (.cells #[.int .u8 K, .string (bs nm), .slice a2 k2 c2, .bool cl, .string (bs [])] 24))
  have Y3 := hid (BlkW.new w2 #[.int .u8 K, .string (bs nm), .slice a2 k2 c2, .bool cl, .string (bs [])] 24)
  have HT3 := hid (ent_below HT.out B3.out)
  clear i2 I2 Z2 B2
  go_wp2_with fail
  refine (known6_any _ HT3.out).mono ?_
  rintro e w3 ⟨rfl, b3⟩
  have L1 := hid (J1.out.below b3)
  have L2 := hid (J2.out.below b3)
  have Z4 := hid (Z3.out.below b3 Z3.out.lt)
  have Y4 := hid (Y3.out.below b3 Y3.out.lt)
  have B4 := hid (B3.out.trans (b3.mono B3.out.size))
  clear b3 J1 J2 Z3 Y3 B3
  have p0 := Z4.out.cell 0
  have p1 := Z4.out.cell 1
  have p2 := Z4.out.cell 2
  have p3 := Z4.out.cell 3
  have p4 := Z4.out.cell 4
  have q0 := Y4.out.cell 0
  have q1 := Y4.out.cell 1
  have q2 := Y4.out.cell 2
  have q3 := Y4.out.cell 3
  have q4 := Y4.out.cell 4
  simp only [List.getElem?_toArray, List.getElem?_cons_zero, List.getElem?_cons_succ] at p0 p1 p2 p3 p4 q0 q1 q2 q3 q4
  go_wp2_with fail
  refine (sameTok_any K nm cl [] ats a1 k1 c1 a2 k2 c2 _ L1.out L2.out (by omega) (by omega)).mono ?_
  rintro e w4 ⟨rfl, b4⟩
  have B5 := hid (B4.out.trans (b4.mono B4.out.size))
  clear b4 p0 p1 p2 p3 p4 q0 q1 q2 q3 q4
  go_wp2_with fail
  refine (H3.out _).mono ?_
  rintro e w5 ⟨rfl, rfl⟩
  go_wp2_with fail
  refine (H4.out _).mono ?_
  rintro e w5 ⟨rfl, rfl⟩
  go_wp2
  go_ret
  exact ⟨ret_bool' (by simp), B5.out⟩
end Go.Proofs.YtojmffpkjnpnlaaDoor
