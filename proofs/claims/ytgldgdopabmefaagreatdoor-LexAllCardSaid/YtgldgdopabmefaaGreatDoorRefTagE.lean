/- Walks over the reference of layer 6: Read where a tag begins that ends. -/
import Derived.Test.YtgldgdopabmefaaGreatDoorRefTagP
namespace Go.Proofs.YtgldgdopabmefaaGreatDoor
open Go.RowKit Go.Lib
set_option maxRecDepth 100000
set_option linter.unusedVariables false

set_option maxHeartbeats 8000000 in
theorem read_tag3n (HD : DecA) (s : ByteArray) (i : Nat) (w : World) (hs : s.size ≤ 400000) (hb : Tag.begB s.data.toList i = true) (h47 : U8.B s.data.toList (i + 1) = 47) :
    Calls Tryz.prog 17 #[.string s, .int .i64 i] w fun e w' => (TagE s.data.toList i s.size e w' ∧ NewE w.heap.size e w') ∧ Below w.heap.size w w' := by
  have hsl := size_list s
  obtain ⟨h1, h2, h3, h4⟩ := Tag.beg_lt hb
  have HB := fun W => begins_any s i W (by omega) (by omega)
  simp only [begI_nat, hb] at HB
  have HB := hid HB
  have hf : Tag.fromP s.data.toList i = i + 2 := by unfold Tag.fromP; rw [if_pos h47]
  rw [hf] at h3 h4
  have hn1 : i + 1 < s.size := by omega
  have g1 := get_of s (i + 1) hn1
  obtain ⟨c1, hc1⟩ : ∃ c, s[i + 1]'hn1 = c := ⟨_, rfl⟩
  rw [hc1] at g1
  have k1 := c1.toNat_lt
  have q1 : ((i : Int) + 1).toNat = i + 1 := by omega
  have b1 : (((c1.toNat : Nat) : Int) == 47) = true := by simp; omega
  have hE : Tag.isEnd s.data.toList i = true := by unfold Tag.isEnd; rw [h47]; rfl
  have HW := fun W => word_false s (i + 2) W (by omega) (by omega)
  obtain ⟨n, hn⟩ : ∃ n, Tag.skip (Tag.wdB false) s.data.toList (i + 2) = n := ⟨_, rfl⟩
  have n1 := Tag.skip_ge (Tag.wdB false) s.data.toList (i + 2)
  have n2 := Tag.skip_le (Tag.wdB false) s.data.toList (i + 2) (by omega)
  rw [hn, hsl] at n2
  rw [hn] at n1
  rw [hn, show ((i + 2 : Nat) : Int) = (i : Int) + 1 + 1 by omega] at HW
  have HL := fun W => rlower_any (s.extract (i + 2) n) W (by rw [cut_size s _ n (by omega) n1]; omega)
  rw [cut_list] at HL
  have HBl := fun (k : Nat) (hk : k ≤ s.size) W => blanks_any s k W (by omega) hk
  have HWt := fun (k : Nat) (hk : k ≤ s.size) W => word_true s k W (by omega) hk
  have HVa := fun (k : Nat) (hk : k ≤ s.size) W => value_any HD s k W (by omega) hk
  have HLo := fun (a e : Nat) (h1 : a ≤ e) (h2 : e ≤ s.size) W => rlower_any (s.extract a e) W (by rw [cut_size s a e h2 h1]; omega)
  simp only [cut_list] at HLo
  obtain ⟨nm, hnm⟩ : ∃ nm, lowL (Tag.cutP s.data.toList (i + 2) n) = nm := ⟨_, rfl⟩
  rw [hnm] at HL
  have hread : Tag.readP s.data.toList i = match Tag.runs s.data.toList n [] with
    | none => none
    | some (atts, a, sf) => some ({ kind := 3, name := nm, atts := [], self := false }, a + 1) := by
    have e1 : Tag.nameEnd s.data.toList i = n := by unfold Tag.nameEnd; rw [hf, hn]
    unfold Tag.readP
    rw [e1, hf, hE, hnm]
    rfl
  have q2 : ((i : Int) + 1 + 1).toNat = i + 2 := by omega
  have q3 : (0 : Int) ≤ (i : Int) + 1 + 1 := by omega
  have q4 : (i : Int) + 1 + 1 ≤ (n : Int) := by omega
  have q5 : (n : Int) ≤ (s.size : Int) := by omega
  have q6 : ((n : Int)).toNat = n := by omega
  have q7 : (0 : Int) ≤ (n : Int) := by omega
  have HW := hid HW
  have HLw := hid HL
  have HAt := hid (at_list s)
  have HZ := hid hsl
  obtain ⟨R, hR⟩ : ∃ R, Tag.runs s.data.toList n [] = R := ⟨_, rfl⟩
  rw [hR] at hread
  suffices main : Calls Tryz.prog 17 #[.string s, .int .i64 i] w fun e w' => (TagR R 3 nm s.data.toList.length s.size e w' ∧ NewE w.heap.size e w') ∧ Below w.heap.size w w' by
    refine main.mono fun e w' ⟨⟨h1, hne⟩, h2⟩ => ⟨⟨?_, hne⟩, h2⟩
    unfold TagE
    rw [hread]
    unfold TagR at h1
    cases R with
    | none => exact h1
    | some x => exact h1
  have HR := hid hR
  have HN := hid hnm
  obtain ⟨l, hl⟩ : ∃ l, s.data.toList = l := ⟨_, rfl⟩
  rw [hl] at HAt HZ HR ⊢
  simp only [hl] at HBl HWt HVa HLo
  have HBl := hid HBl
  have HWt := hid HWt
  have HVa := hid HVa
  have HLo := hid HLo
  obtain ⟨N, hNN⟩ : ∃ N, bs nm = N := ⟨_, rfl⟩
  have HNN := hid hNN
  have HLw : Hid (∀ W, Calls Tryz.prog 38 #[.string (s.extract (i + 2) n)] W fun e w' => e = .returned (.string N) ∧ Below W.heap.size W w') := hid (by rw [← hNN]; exact HLw.out)
  obtain ⟨B0, hB0⟩ : ∃ B0, w.heap.size = B0 := ⟨_, rfl⟩
  have HB0 := hid hB0
  clear hb h47 h2 hE hf hn hR hread hnm g1 h1 h3 h4 HL hsl hB0 hl hNN
  go_enter Tryz.func17, Tryz.ntmps17
  go_wp2_with fail
  refine (HB.out _).mono ?_
  rintro e w1 ⟨rfl, rfl⟩
  go_wp2_with fail
  refine (HW.out _).mono ?_
  rintro e w2 ⟨rfl, rfl⟩
  go_wp2_with fail
  refine (HLw.out _).mono ?_
  rintro e w3 ⟨rfl, b3⟩
  have HT : TokW w w3 w.heap.size 3 ⟨#[]⟩ := by
    have h0 := (BlkW.new w #[.int .u8 0, .string ⟨#[]⟩, .slice none 0 0, .bool false, .string ⟨#[]⟩] 24).alloc (.cells #[.int .u8 3, .string ⟨#[]⟩, .slice none 0 0, .bool false, .string ⟨#[]⟩] 24)
    have h1 := BlkW.new (w.alloc (.cells #[.int .u8 0, .string ⟨#[]⟩, .slice none 0 0, .bool false, .string ⟨#[]⟩] 24)) #[.int .u8 3, .string ⟨#[]⟩, .slice none 0 0, .bool false, .string ⟨#[]⟩] 24
    rw [show (w.alloc (.cells #[.int .u8 0, .string ⟨#[]⟩, .slice none 0 0, .bool false, .string ⟨#[]⟩] 24)).heap.size = w.heap.size + 1 by simp] at h1
    exact (⟨((Below.refl w.heap.size w).alloc (Nat.le_refl _) _).alloc (by simp) _, h0, h1, Nat.le_refl _⟩ : TokW w _ w.heap.size 3 ⟨#[]⟩).below' b3
  have HT2 : TokW w (w3.setCell ⟨w.heap.size + 1, 1, none⟩ (.string N)) w.heap.size 3 N := ⟨HT.below.setCell (by show w.heap.size ≤ w.heap.size + 1; omega) _, HT.res.far _ _ (by show w.heap.size + 1 ≠ w.heap.size; omega), HT.tok.set_ 1 _, HT.lt⟩
  have t0 := HT.tok.cell 0
  have t1 := HT.tok.cell 1
  have t2 := HT.tok.cell 2
  have t3 := HT.tok.cell 3
  have t4 := HT.tok.cell 4
  have f1 := HT.tok.free 1
  simp only [Array.getElem?_eq_getElem, List.size_toArray, List.length_cons, List.length_nil, Nat.reduceAdd, Nat.reduceLT, List.getElem_toArray, List.getElem_cons_succ, List.getElem_cons_zero] at t0 t1 t2 t3 t4
  have HT2 := hid HT2
  clear HT b3
  go_wp2
  clear t0 t1 t2 t3 t4 f1
  generalize w3.setCell ⟨w.heap.size + 1, 1, none⟩ (.string N) = W3 at *
  rw [HB0.out] at HT2 ⊢
  go_loopg [10, 11] s.size (fun g iv av wr => ∃ (k : Nat) (atts : List Tag.At), k + g = s.size + n ∧ n ≤ k ∧ k ≤ s.size ∧ iv = .int .i64 k ∧ Hid (Tag.runs l k atts = R) ∧ Hid (LoopW w wr B0 3 N av atts) ∧ atts.length ≤ k)
  case atStart => exact ⟨n, [], by omega, by omega, n2, rfl, HR, hid ⟨HT2.out, World.ownsRow_nil _ _ _ _⟩, by simp⟩
  case round =>
    clear HT2 HR HW HLw
    obtain ⟨k, atts, hk, hnk, hks, rfl, hI, hT, hal⟩ := hrel
    have HB := HBl.out k hks wr
    obtain ⟨a, ha⟩ : ∃ a, Tag.skip Tag.spB l k = a := ⟨_, rfl⟩
    have a1 := Tag.skip_ge Tag.spB l k
    have a2 := Tag.skip_le Tag.spB l k (by rw [HZ.out]; exact hks)
    rw [ha] at HB a1 a2
    rw [HZ.out] at a2
    have HB := hid HB
    have HA := hid ha
    clear ha
    by_cases hend : a = s.size
    · subst hend
      have hRn : none = R := (Tag.runs_end atts HA.out (List.getElem?_eq_none (by rw [HZ.out]; omega))).symm.trans hI.out
      subst hRn
      have d0 : ((s.size : Int) == (s.size : Int)) = true := beq_self_eq_true _
      obtain ⟨r0, r1, r2, r3, r4, _⟩ := hT.out.tok.cells
      obtain ⟨f0, f1, f2, f3, f4, _⟩ := hT.out.tok.free
      obtain ⟨W5, hW5, z0, z1, z2, z3, z4, hb5, _⟩ := tok_store hT.out.tok.res hT.out.tok.below hT.out.tok.lt (.int .u8 0) (.string ⟨#[]⟩) (.slice none 0 0) (.bool false) (.string ⟨#[]⟩)
      have HW5 := hid hW5
      have HB5 := hid hb5
      clear hI HA hW5 hb5
      go_wp2_with fail
      refine HB.out.mono ?_
      rintro e w4 ⟨rfl, rfl⟩
      go_wp2
      rw [HW5.out]
      refine bodyPost_ret (v := .tuple #[.agg #[.int .u8 0, .string ⟨#[]⟩, .slice none 0 0, .bool false, .string ⟨#[]⟩], .int .i64 s.size, .bool false]) (by simp [results, Tryz.results17, go_sem, z0, z1, z2, z3, z4]) rfl ?_
      exact ⟨⟨rfl, newE_none⟩, HB5.out⟩
    have alt : a < s.size := by omega
    have altI : (a : Int) < (s.size : Int) := by omega
    have d0 : ((a : Int) == (s.size : Int)) = false := by simp; omega
    have hat := HAt.out a alt
    obtain ⟨c, hc⟩ : ∃ c, s[a]'alt = c := ⟨_, rfl⟩
    rw [hc] at hat
    have hc256 := c.toNat_lt
    have hkl : k ≤ l.length := by rw [HZ.out]; exact hks
    by_cases h62 : c.toNat = 62
    · have b62 : (((c.toNat : Nat) : Int) == 62) = true := by simp [h62]
      have hRn := (Tag.runs_gt atts HA.out hat h62).symm.trans hI.out
      subst hRn
      clear hI HA hat h62 hkl
      obtain ⟨_, _, _, _, _, t0, t1, t2, t3, t4⟩ := hT.out.tok.cells
      obtain ⟨_, _, _, _, _, _, _, g2, g3, _⟩ := hT.out.tok.free
      have tk2 : BlkW wr (B0 + 1) #[.int .u8 3, .string N, .slice none 0 0, .bool false, .string ⟨#[]⟩] 24 := hT.out.tok.tok
      have rs2 : BlkW wr B0 #[.int .u8 0, .string ⟨#[]⟩, .slice none 0 0, .bool false, .string ⟨#[]⟩] 24 := hT.out.tok.res
      have bl2 : Below w.heap.size w wr := hT.out.tok.below
      have u0 : wr.cell? ⟨B0 + 1, 0, none⟩ = some (.int .u8 3) := tk2.cell 0
      have u1 : wr.cell? ⟨B0 + 1, 1, none⟩ = some (.string N) := tk2.cell 1
      have u2 : wr.cell? ⟨B0 + 1, 2, none⟩ = some (.slice none 0 0) := tk2.cell 2
      have u3 : wr.cell? ⟨B0 + 1, 3, none⟩ = some (.bool false) := tk2.cell 3
      have u4 : wr.cell? ⟨B0 + 1, 4, none⟩ = some (.string ⟨#[]⟩) := tk2.cell 4
      have x0 : wr.cell? ⟨B0, 0, none⟩ = some (.int .u8 0) := rs2.cell 0
      have y0 : wr.frozen? ⟨B0, 0, none⟩ = false := rs2.free 0
      have x1 : wr.cell? ⟨B0, 1, none⟩ = some (.string ⟨#[]⟩) := rs2.cell 1
      have y1 : wr.frozen? ⟨B0, 1, none⟩ = false := rs2.free 1
      have x2 : wr.cell? ⟨B0, 2, none⟩ = some (.slice none 0 0) := rs2.cell 2
      have y2 : wr.frozen? ⟨B0, 2, none⟩ = false := rs2.free 2
      have x3 : wr.cell? ⟨B0, 3, none⟩ = some (.bool false) := rs2.cell 3
      have y3 : wr.frozen? ⟨B0, 3, none⟩ = false := rs2.free 3
      have x4 : wr.cell? ⟨B0, 4, none⟩ = some (.string ⟨#[]⟩) := rs2.cell 4
      have y4 : wr.frozen? ⟨B0, 4, none⟩ = false := rs2.free 4
      obtain ⟨W5, hW5, z0, z1, z2, z3, z4, hb5, hk5⟩ := tok_store rs2 bl2 hT.out.tok.lt (.int .u8 3) (.string N) (.slice none 0 0) (.bool false) (.string ⟨#[]⟩)
      have HW5 := hid hW5
      have HB5 := hid hb5
      have hln : atts.length ≤ l.length := by have := HZ.out; omega
      have HLN := hid hln
      clear hW5 hb5 hk5 tk2 rs2 bl2 hln
      go_wp2_with fail
      refine HB.out.mono ?_
      rintro e w4 ⟨rfl, rfl⟩
      go_wp2
      rw [HW5.out]
      refine bodyPost_ret (v := .tuple #[.agg #[.int .u8 3, .string N, .slice none 0 0, .bool false, .string ⟨#[]⟩], .int .i64 ((a + 1 : Nat) : Int), .bool true]) (by simp [results, Tryz.results17, go_sem, z0, z1, z2, z3, z4]) rfl ?_
      rw [← HNN.out]
      exact ⟨⟨⟨none, 0, 0, rfl, ⟨rfl, .inl rfl⟩, Nat.zero_le _⟩, newE_none⟩, HB5.out⟩

    have b62 : (((c.toNat : Nat) : Int) == 62) = false := by simp; omega
    have p1 : ((a : Int) + 1).toNat = a + 1 := by omega
    have p2 : (0 : Int) ≤ (a : Int) + 1 := by omega
    by_cases hsl : c.toNat = 47
    · have b47 : (((c.toNat : Nat) : Int) == 47) = true := by simp [hsl]
      by_cases hlt2 : a + 1 < s.size
      · have hlt2I : (a : Int) + 1 < (s.size : Int) := by omega
        have d2 : decide ((a : Int) + 1 < (s.size : Int)) = true := decide_eq_true hlt2I
        have hat2 := HAt.out (a + 1) hlt2
        obtain ⟨d, hd⟩ : ∃ d, s[a + 1]'hlt2 = d := ⟨_, rfl⟩
        rw [hd] at hat2
        have hd256 := d.toNat_lt
        by_cases hg : d.toNat = 62
        · have b3 : (((d.toNat : Nat) : Int) == 62) = true := by simp [hg]
          have hRn := (Tag.runs_self atts HA.out hat hsl hat2 hg).symm.trans hI.out
          subst hRn
          clear hI HA hat hat2 h62 hsl hg hkl
          obtain ⟨_, _, _, _, _, t0, t1, t2, t3, t4⟩ := hT.out.tok.cells
          obtain ⟨_, _, _, _, _, _, _, g2, g3, _⟩ := hT.out.tok.free
          have tk1 := (hT.out.tok.tok.set_ 3 (.bool false))
          have s0 : (wr.setCell ⟨B0 + 1, 3, none⟩ (.bool false)).cell? ⟨B0 + 1, 0, none⟩ = some (.int .u8 3) := tk1.cell 0
          have s1 : (wr.setCell ⟨B0 + 1, 3, none⟩ (.bool false)).cell? ⟨B0 + 1, 1, none⟩ = some (.string N) := tk1.cell 1
          have s2 : (wr.setCell ⟨B0 + 1, 3, none⟩ (.bool false)).cell? ⟨B0 + 1, 2, none⟩ = some (.slice none 0 0) := tk1.cell 2
          have s3 : (wr.setCell ⟨B0 + 1, 3, none⟩ (.bool false)).cell? ⟨B0 + 1, 3, none⟩ = some (.bool false) := tk1.cell 3
          have s4 : (wr.setCell ⟨B0 + 1, 3, none⟩ (.bool false)).cell? ⟨B0 + 1, 4, none⟩ = some (.string ⟨#[]⟩) := tk1.cell 4
          have g22 : (wr.setCell ⟨B0 + 1, 3, none⟩ (.bool false)).frozen? ⟨B0 + 1, 2, none⟩ = false := tk1.free 2
          have tk2 : BlkW (wr.setCell ⟨B0 + 1, 3, none⟩ (.bool false)) (B0 + 1) #[.int .u8 3, .string N, .slice none 0 0, .bool false, .string ⟨#[]⟩] 24 := (hT.out.tok.tok.set_ 3 (.bool false))
          have rs2 : BlkW (wr.setCell ⟨B0 + 1, 3, none⟩ (.bool false)) B0 #[.int .u8 0, .string ⟨#[]⟩, .slice none 0 0, .bool false, .string ⟨#[]⟩] 24 := (hT.out.tok.res.far ⟨B0 + 1, 3, none⟩ (.bool false) (by show B0 + 1 ≠ B0; omega))
          have bl2 : Below w.heap.size w (wr.setCell ⟨B0 + 1, 3, none⟩ (.bool false)) := (hT.out.tok.below.setCell (B := w.heap.size) (by have := hT.out.tok.lt; show w.heap.size ≤ B0 + 1; omega) (.bool false))
          have u0 : (wr.setCell ⟨B0 + 1, 3, none⟩ (.bool false)).cell? ⟨B0 + 1, 0, none⟩ = some (.int .u8 3) := tk2.cell 0
          have u1 : (wr.setCell ⟨B0 + 1, 3, none⟩ (.bool false)).cell? ⟨B0 + 1, 1, none⟩ = some (.string N) := tk2.cell 1
          have u2 : (wr.setCell ⟨B0 + 1, 3, none⟩ (.bool false)).cell? ⟨B0 + 1, 2, none⟩ = some (.slice none 0 0) := tk2.cell 2
          have u3 : (wr.setCell ⟨B0 + 1, 3, none⟩ (.bool false)).cell? ⟨B0 + 1, 3, none⟩ = some (.bool false) := tk2.cell 3
          have u4 : (wr.setCell ⟨B0 + 1, 3, none⟩ (.bool false)).cell? ⟨B0 + 1, 4, none⟩ = some (.string ⟨#[]⟩) := tk2.cell 4
          have x0 : (wr.setCell ⟨B0 + 1, 3, none⟩ (.bool false)).cell? ⟨B0, 0, none⟩ = some (.int .u8 0) := rs2.cell 0
          have y0 : (wr.setCell ⟨B0 + 1, 3, none⟩ (.bool false)).frozen? ⟨B0, 0, none⟩ = false := rs2.free 0
          have x1 : (wr.setCell ⟨B0 + 1, 3, none⟩ (.bool false)).cell? ⟨B0, 1, none⟩ = some (.string ⟨#[]⟩) := rs2.cell 1
          have y1 : (wr.setCell ⟨B0 + 1, 3, none⟩ (.bool false)).frozen? ⟨B0, 1, none⟩ = false := rs2.free 1
          have x2 : (wr.setCell ⟨B0 + 1, 3, none⟩ (.bool false)).cell? ⟨B0, 2, none⟩ = some (.slice none 0 0) := rs2.cell 2
          have y2 : (wr.setCell ⟨B0 + 1, 3, none⟩ (.bool false)).frozen? ⟨B0, 2, none⟩ = false := rs2.free 2
          have x3 : (wr.setCell ⟨B0 + 1, 3, none⟩ (.bool false)).cell? ⟨B0, 3, none⟩ = some (.bool false) := rs2.cell 3
          have y3 : (wr.setCell ⟨B0 + 1, 3, none⟩ (.bool false)).frozen? ⟨B0, 3, none⟩ = false := rs2.free 3
          have x4 : (wr.setCell ⟨B0 + 1, 3, none⟩ (.bool false)).cell? ⟨B0, 4, none⟩ = some (.string ⟨#[]⟩) := rs2.cell 4
          have y4 : (wr.setCell ⟨B0 + 1, 3, none⟩ (.bool false)).frozen? ⟨B0, 4, none⟩ = false := rs2.free 4
          obtain ⟨W5, hW5, z0, z1, z2, z3, z4, hb5, hk5⟩ := tok_store rs2 bl2 hT.out.tok.lt (.int .u8 3) (.string N) (.slice none 0 0) (.bool false) (.string ⟨#[]⟩)
          have HW5 := hid hW5
          have HB5 := hid hb5
          have hln : atts.length ≤ l.length := by have := HZ.out; omega
          have HLN := hid hln
          clear hW5 hb5 hk5 tk2 rs2 bl2 hln tk1
          go_wp2_with fail
          refine HB.out.mono ?_
          rintro e w4 ⟨rfl, rfl⟩
          go_wp2
          rw [HW5.out]
          refine bodyPost_ret (v := .tuple #[.agg #[.int .u8 3, .string N, .slice none 0 0, .bool false, .string ⟨#[]⟩], .int .i64 ((a + 1 + 1 : Nat) : Int), .bool true]) (by simp [results, Tryz.results17, go_sem, z0, z1, z2, z3, z4]) rfl ?_
          rw [← HNN.out]
          exact ⟨⟨⟨none, 0, 0, rfl, ⟨rfl, .inl rfl⟩, Nat.zero_le _⟩, newE_none⟩, HB5.out⟩
        · have b3 : (((d.toNat : Nat) : Int) == 62) = false := by simp; omega
          have HN := hid ((Tag.runs_slash atts hkl HA.out hat hsl (fun d' h => by rw [hat2] at h; cases h; exact hg)).symm.trans hI.out)
          clear hI HA hat hat2 h62 hsl hg hkl
          go_wp2_with fail
          refine HB.out.mono ?_
          rintro e w4 ⟨rfl, rfl⟩
          go_wp2
          go_roundg (s.size + n - (a + 1))
          case measure => omega
          case rel => exact ⟨a + 1, atts, by omega, by omega, by omega, by go_num, HN, hT, by omega⟩
      · have hlt2I : ¬ (a : Int) + 1 < (s.size : Int) := by omega
        have d2 : decide ((a : Int) + 1 < (s.size : Int)) = false := decide_eq_false hlt2I
        have HN := hid ((Tag.runs_slash atts hkl HA.out hat hsl (fun d' h => by rw [List.getElem?_eq_none (by rw [HZ.out]; omega)] at h; cases h)).symm.trans hI.out)
        clear hI HA hat h62 hsl hkl
        go_wp2_with fail
        refine HB.out.mono ?_
        rintro e w4 ⟨rfl, rfl⟩
        go_wp2
        go_roundg (s.size + n - (a + 1))
        case measure => omega
        case rel => exact ⟨a + 1, atts, by omega, by omega, by omega, by go_num, HN, hT, by omega⟩
    have b47 : (((c.toNat : Nat) : Int) == 47) = false := by simp; omega
    obtain ⟨q, hq⟩ : ∃ q, Tag.skip (Tag.wdB true) l (a + 1) = q := ⟨_, rfl⟩
    have w1' := Tag.skip_ge (Tag.wdB true) l (a + 1)
    have w2' := Tag.skip_le (Tag.wdB true) l (a + 1) (by rw [HZ.out]; omega)
    rw [hq] at w1' w2'
    rw [HZ.out] at w2'
    have HW2 := HWt.out (a + 1) (by omega) wr
    rw [hq, show ((a + 1 : Nat) : Int) = (a : Int) + 1 by omega] at HW2
    have HLo2 := HLo.out a q (by omega) (by omega)
    obtain ⟨n2, hn2⟩ : ∃ n2, lowL (Tag.cutP l a q) = n2 := ⟨_, rfl⟩
    rw [hn2] at HLo2
    obtain ⟨N2, hN2⟩ : ∃ N2, bs n2 = N2 := ⟨_, rfl⟩
    have HLo2 : Hid (∀ W, Calls Tryz.prog 38 #[.string (s.extract a q)] W fun e w' => e = .returned (.string N2) ∧ Below W.heap.size W w') := hid (by rw [← hN2]; exact HLo2)
    have HN2 := hid hN2
    have HW2 := hid HW2
    obtain ⟨b, hb⟩ : ∃ b, Tag.skip Tag.spB l q = b := ⟨_, rfl⟩
    have x1 := Tag.skip_ge Tag.spB l q
    have x2 := Tag.skip_le Tag.spB l q (by rw [HZ.out]; exact w2')
    rw [hb] at x1 x2
    rw [HZ.out] at x2
    have HBq := HBl.out q w2'
    simp only [hb] at HBq
    have HBq := hid HBq
    have HQ := hid hq
    have HBb := hid hb
    have HNm := hid hn2
    have HAT := hid hat
    have p3 : ((a : Int)).toNat = a := by omega
    have p4 : ((q : Int)).toNat = q := by omega
    have p5 : (0 : Int) ≤ (a : Int) := by omega
    have p6 : (a : Int) ≤ (q : Int) := by omega
    have p7 : (0 : Int) ≤ (q : Int) := by omega
    have p8 : (q : Int) ≤ (s.size : Int) := by omega
    have HKL := hid hkl
    have H62 := hid h62
    have H47 := hid hsl
    clear hat hq hb hn2 hN2 h62 hsl hkl
    go_wp2_with fail
    refine HB.out.mono ?_
    rintro e w4 ⟨rfl, rfl⟩
    go_wp2_with fail
    refine HW2.out.mono ?_
    rintro e w5 ⟨rfl, rfl⟩
    go_wp2_with fail
    refine (HLo2.out _).mono ?_
    rintro e w6 ⟨rfl, b6⟩
    have HL6 := hid (hT.out.below' b6)
    have hbe := b6.size
    clear b6 hT HB HW2 HLo2
    go_wp2_with fail
    refine (HBq.out _).mono ?_
    rintro e w7 ⟨rfl, rfl⟩
    have hA6 := BlkW.new w6 #[.string N2, .string ⟨#[]⟩] 53
    have hB6 := (Below.refl w6.heap.size w6).alloc (Nat.le_refl _) (.cells #[.string N2, .string ⟨#[]⟩] 53)
    clear HBq
    by_cases heq : ∃ d, l[b]? = some d ∧ d.toNat = 61
    · obtain ⟨d, hd0, h61⟩ := heq
      have blt : b < s.size := by have := (List.getElem?_eq_some_iff.1 hd0).1; rw [HZ.out] at this; exact this
      have bltI : (b : Int) < (s.size : Int) := by omega
      have d2 : decide (b < s.size) = true := decide_eq_true blt
      have hd1 : s[b]'blt = d := by have := HAt.out b blt; rw [hd0] at this; exact (Option.some.inj this).symm
      have b61 : (((d.toNat : Nat) : Int) == 61) = true := by simp [h61]
      have HV := HVa.out (b + 1) (by omega)
      obtain ⟨⟨V2, J, ok⟩, hv⟩ : ∃ z, Tag.valP l (b + 1) = z := ⟨_, rfl⟩
      have jl := Tag.valP_le l (b + 1) (by rw [HZ.out]; omega)
      rw [hv] at HV jl
      rw [HZ.out] at jl
      obtain ⟨j1, j2⟩ := jl
      simp only at j1 j2
      unfold valE at HV
      rw [show ((b + 1 : Nat) : Int) = (b : Int) + 1 by omega] at HV
      simp only at HV
      obtain ⟨VV, hVV⟩ : ∃ VV, bs V2 = VV := ⟨_, rfl⟩
      have HV2 := hid hVV
      have HV : Hid (∀ W, Calls Tryz.prog 40 #[.string s, .int .i64 ((b : Int) + 1)] W fun e w' => e = .returned (.tuple #[.string VV, .int .i64 J, .bool ok]) ∧ Below W.heap.size W w') := hid (by rw [← hVV]; exact HV)
      cases ok with
      | false =>
        have hRn := (Tag.runs_noval atts HA.out HAT.out H62.out H47.out HQ.out HBb.out hd0 h61 hv).symm.trans hI.out
        subst hRn
        clear hI hd0 h61 hv hVV
        go_wp2_with fail
        refine (HV.out _).mono ?_
        rintro e w9 ⟨rfl, b9⟩
        have L9 := HL6.out.below' (hB6.trans (b9.mono (by simp)))
        obtain ⟨r0, r1, r2, r3, r4, _⟩ := L9.tok.cells
        obtain ⟨f0, f1, f2, f3, f4, _⟩ := L9.tok.free
        obtain ⟨W5, hW5, z0, z1, z2, z3, z4, hb5, _⟩ := tok_store L9.tok.res L9.tok.below L9.tok.lt (.int .u8 0) (.string ⟨#[]⟩) (.slice none 0 0) (.bool false) (.string ⟨#[]⟩)
        have HW5 := hid hW5
        have HB5 := hid hb5
        clear hW5 hb5 L9 b9 hA6 hB6 HL6
        go_wp2
        rw [HW5.out]
        refine bodyPost_ret (v := .tuple #[.agg #[.int .u8 0, .string ⟨#[]⟩, .slice none 0 0, .bool false, .string ⟨#[]⟩], .int .i64 s.size, .bool false]) (by simp [results, Tryz.results17, go_sem, z0, z1, z2, z3, z4]) rfl ?_
        exact ⟨⟨rfl, newE_none⟩, HB5.out⟩
      | true =>
        have HNJ := hid ((Tag.runs_val atts HKL.out HA.out HAT.out H62.out H47.out HQ.out HBb.out hd0 h61 hv).symm.trans hI.out)
        rw [HNm.out] at HNJ
        clear hI hd0 h61 hv hVV
        go_wp2_with fail
        refine (HV.out _).mono ?_
        rintro e w9 ⟨rfl, b9⟩
        have hA9 := hA6.below b9 hA6.lt
        have hB9 := hB6.trans (b9.mono (by simp))
        have HA9 := hid hA9
        have c90 := hA9.cell 0
        have c91 := hA9.cell 1
        have f91 := hA9.free 1
        simp only [List.getElem?_toArray, List.getElem?_cons_zero, List.getElem?_cons_succ] at c90 c91
        have hb9s : Below w6.heap.size w6 (w9.setCell ⟨w6.heap.size, 1, none⟩ (.string VV)) := by
          refine Below.setCell hB9 ?_ _
          exact Nat.le_refl w6.heap.size
        have HLw8 := hid (HL6.out.below' hb9s)
        clear hb9s
        have HBA : Hid (BlkW (w9.setCell ⟨w6.heap.size, 1, none⟩ (.string VV)) w6.heap.size #[.string N2, .string VV] 53) := hid (hA9.set_ 1 _)
        clear hA9 hB9 hA6 hB6 b9 HL6
        go_wp2
        generalize w9.setCell ⟨w6.heap.size, 1, none⟩ (.string VV) = W8 at *
        clear c90 c91 f91 HA9
        generalize w6.heap.size = A6 at *
        obtain ⟨ad, cp, rfl, hIs0, hcl, _, hbk, hc0⟩ := own_isT' HLw8.out.own
        have HIS := hid hIs0
        have HBK := hid hbk
        clear hIs0 hbk hc0
        obtain ⟨P, hP⟩ : ∃ P : Tag.At → Bool, (fun z : Tag.At => z.1 == n2) = P := ⟨_, rfl⟩
        have HP := hid hP
        clear hP
        go_wp2
        go_loopg [17, 18] atts.length (fun g tv iv wx => ∃ m : Nat, m + g = atts.length ∧ iv = .int .i64 m ∧ tv = .bool ((atts.take m).any P) ∧ Below W8.heap.size W8 wx)
        case atStart => exact ⟨0, by omega, rfl, by simp, Below.refl _ _⟩
        case round =>
          obtain ⟨m, hm, rfl, rfl, hb8⟩ := hrel
          have HB8 := hid hb8
          have HA8 := hid (HBA.out.below hb8 HBA.out.lt)
          have c80 := HA8.out.cell 0
          have c81 := HA8.out.cell 1
          simp only [List.getElem?_toArray, List.getElem?_cons_zero, List.getElem?_cons_succ] at c80 c81
          by_cases hml : m < atts.length
          · have e1 : decide (m < atts.length) = true := decide_eq_true hml
            have e1I : (m : Int) < (atts.length : Int) := by omega
            obtain ⟨_, z0 | ⟨blk, off, rfl, hats⟩⟩ := HIS.out.below hb8
            · omega
            obtain ⟨⟨x, y⟩, hx⟩ : ∃ x, atts[m]? = some x := ⟨_, List.getElem?_eq_getElem hml⟩
            obtain ⟨u0, _⟩ := hats m _ hx
            simp only at u0
            have hany : (atts.take (m + 1)).any P = ((atts.take m).any P || (x == n2)) := by
              rw [List.take_add_one, hx, List.any_append, ← HP.out]; simp
            have HM := hid (show m + 1 ≤ atts.length by omega)
            cases htk : (atts.take m).any P with
            | true =>
              rw [htk, Bool.true_or] at hany
              have HAN := hid hany
              clear hany htk hats hx
              go_wp2
              go_quiet (fail)
              go_wp2
              go_roundg (atts.length - (m + 1))
              case measure => omega
              case rel => exact ⟨m + 1, by omega, by go_num, by rw [HAN.out], bel_drewN HB8.out _⟩
            | false =>
              rw [htk, Bool.false_or] at hany
              by_cases hxe : x = n2
              · have HAN := hid (show (atts.take (m + 1)).any P = true by rw [hany, hxe]; simp)
                rw [hxe, HN2.out] at u0
                clear hany htk hats hx hxe
                go_wp2
                go_quiet (fail)
                go_wp2
                go_roundg (atts.length - (m + 1))
                case measure => omega
                case rel => exact ⟨m + 1, by omega, by go_num, by rw [HAN.out], bel_drewN HB8.out _⟩
              · have HAN := hid (show (atts.take (m + 1)).any P = false by rw [hany]; simpa using hxe)
                have v0 : ¬ (bs x).toList = N2.toList := fun e => hxe (bs_inj (by rw [HN2.out]; exact e))
                generalize bs x = X at *
                clear hany htk hats hx hxe
                go_wp2
                go_quiet (fail)
                go_wp2
                go_roundg (atts.length - (m + 1))
                case measure => omega
                case rel => exact ⟨m + 1, by omega, by go_num, by rw [HAN.out]; first | rfl | simp [v0], bel_drewN HB8.out _⟩
          · have e1 : decide (m < atts.length) = false := decide_eq_false hml
            have e1I : ¬ (m : Int) < (atts.length : Int) := by omega
            have htl : atts.take m = atts := List.take_of_length_le (by omega)
            have HL9 := hid (HLw8.out.below' hb8)
            cases htk : atts.any P with
            | true =>
              have HNX := hid (show Tag.runs l J atts = R by
                have h := HNJ.out
                unfold Tag.addA at h
                rw [HP.out, htk, if_pos rfl] at h
                exact h)
              rw [htl, htk] at *
              clear htl htk
              go_wp2
              go_roundg (s.size + n - J)
              case measure => omega
              case rel => exact ⟨J, atts, by omega, by omega, by omega, rfl, HNX, HL9, by omega⟩
            | false =>
              have HNX := hid (show Tag.runs l J (atts ++ [(n2, V2)]) = R by
                have h := HNJ.out
                unfold Tag.addA at h
                rw [HP.out, htk] at h
                exact h)
              rw [htl, htk] at *
              clear htl htk
              have hI1 : IsA (wr.alloc (.cells #[.string N2, .string VV] 53)) (some ⟨wr.heap.size, 0, none⟩) 1 [(n2, V2)] := isA_of_cells rfl (heap_alloc_new wr _) (by rw [← HN2.out, ← HV2.out]; rfl)
              have HI1 := hid hI1
              have HOW := hid (HL9.out.own.alloc (.cells #[.string N2, .string VV] 53))
              have HTK := hid (HL9.out.tok.alloc (.cells #[.string N2, .string VV] 53))
              have hbs : B0 + 2 ≤ (wr.alloc (.cells #[.string N2, .string VV] 53)).heap.size := by have := HL9.out.tok.tok.lt; simp; omega
              have hlen4 : atts.length + 1 ≤ 4294967296 := by omega
              have HBS := hid hbs
              clear hI1 hbs
              go_wp2_with (at_builtin; refine append_T rfl _ _ rfl (B0 + 2) _ atts rfl HOW.out (some ⟨wr.heap.size, 0, none⟩) 1 1 [(n2, V2)] rfl HI1.out (fun h => by cases h) hlen4 HBS.out ?_)
              intro v' w' hown2 hgr
              have HX := hid (show LoopW w w' B0 3 N v' (atts ++ [(n2, V2)]) from ⟨HTK.out.grown hgr (own_ge HOW.out), by rw [List.length_append]; exact hown2⟩)
              clear hown2 hgr
              go_wp2
              go_roundg (s.size + n - J)
              case measure => omega
              case rel => exact ⟨J, atts ++ [(n2, V2)], by omega, by omega, by omega, rfl, HNX, HX, by rw [List.length_append]; simp; omega⟩
    · have hne : ∀ d, l[b]? = some d → d.toNat ≠ 61 := fun d h1 h2 => heq ⟨d, h1, h2⟩
      have HNJ := hid ((Tag.runs_bare atts HKL.out HA.out HAT.out H62.out H47.out HQ.out HBb.out hne).symm.trans hI.out)
      rw [HNm.out] at HNJ
      have HLw8 := hid (HL6.out.below' hB6)
      have HBA := hid hA6
      obtain ⟨V2, hV2⟩ : ∃ V2 : List UInt8, [] = V2 := ⟨_, rfl⟩
      obtain ⟨VV, hVV⟩ : ∃ VV : ByteArray, (⟨#[]⟩ : ByteArray) = VV := ⟨_, rfl⟩
      have HV2 : Hid (bs V2 = VV) := hid (by rw [← hV2, ← hVV]; rfl)
      rw [hV2] at HNJ
      obtain ⟨J, hJ⟩ : ∃ J, J = b := ⟨_, rfl⟩
      have hJ1 : k < J := by omega
      have hJ2 : J ≤ s.size := by omega
      have HJ := hid hJ
      have HVV := hid hVV
      clear hVV
      by_cases blt : b < s.size
      · have bltI : (b : Int) < (s.size : Int) := by omega
        have d2 : decide (b < s.size) = true := decide_eq_true blt
        have hd0 := HAt.out b blt
        obtain ⟨d, hd⟩ : ∃ d, s[b]'blt = d := ⟨_, rfl⟩
        rw [hd] at hd0
        have b61 : (((d.toNat : Nat) : Int) == 61) = false := by have := hne d hd0; simp; omega
        clear hI hd0 hne hV2 hA6 hB6 HL6 heq hJ
        go_wp2
        generalize w6.alloc (.cells #[.string N2, .string ⟨#[]⟩] 53) = W8 at *
        generalize w6.heap.size = A6 at *
        rw [HVV.out] at HBA
        obtain rfl := HJ.out
        clear HVV HJ
        obtain ⟨ad, cp, rfl, hIs0, hcl, _, hbk, hc0⟩ := own_isT' HLw8.out.own
        have HIS := hid hIs0
        have HBK := hid hbk
        clear hIs0 hbk hc0
        obtain ⟨P, hP⟩ : ∃ P : Tag.At → Bool, (fun z : Tag.At => z.1 == n2) = P := ⟨_, rfl⟩
        have HP := hid hP
        clear hP
        go_wp2
        go_loopg [17, 18] atts.length (fun g tv iv wx => ∃ m : Nat, m + g = atts.length ∧ iv = .int .i64 m ∧ tv = .bool ((atts.take m).any P) ∧ Below W8.heap.size W8 wx)
        case atStart => exact ⟨0, by omega, rfl, by simp, Below.refl _ _⟩
        case round =>
          obtain ⟨m, hm, rfl, rfl, hb8⟩ := hrel
          have HB8 := hid hb8
          have HA8 := hid (HBA.out.below hb8 HBA.out.lt)
          have c80 := HA8.out.cell 0
          have c81 := HA8.out.cell 1
          simp only [List.getElem?_toArray, List.getElem?_cons_zero, List.getElem?_cons_succ] at c80 c81
          by_cases hml : m < atts.length
          · have e1 : decide (m < atts.length) = true := decide_eq_true hml
            have e1I : (m : Int) < (atts.length : Int) := by omega
            obtain ⟨_, z0 | ⟨blk, off, rfl, hats⟩⟩ := HIS.out.below hb8
            · omega
            obtain ⟨⟨x, y⟩, hx⟩ : ∃ x, atts[m]? = some x := ⟨_, List.getElem?_eq_getElem hml⟩
            obtain ⟨u0, _⟩ := hats m _ hx
            simp only at u0
            have hany : (atts.take (m + 1)).any P = ((atts.take m).any P || (x == n2)) := by
              rw [List.take_add_one, hx, List.any_append, ← HP.out]; simp
            have HM := hid (show m + 1 ≤ atts.length by omega)
            cases htk : (atts.take m).any P with
            | true =>
              rw [htk, Bool.true_or] at hany
              have HAN := hid hany
              clear hany htk hats hx
              go_wp2
              go_quiet (fail)
              go_wp2
              go_roundg (atts.length - (m + 1))
              case measure => omega
              case rel => exact ⟨m + 1, by omega, by go_num, by rw [HAN.out], bel_drewN HB8.out _⟩
            | false =>
              rw [htk, Bool.false_or] at hany
              by_cases hxe : x = n2
              · have HAN := hid (show (atts.take (m + 1)).any P = true by rw [hany, hxe]; simp)
                rw [hxe, HN2.out] at u0
                clear hany htk hats hx hxe
                go_wp2
                go_quiet (fail)
                go_wp2
                go_roundg (atts.length - (m + 1))
                case measure => omega
                case rel => exact ⟨m + 1, by omega, by go_num, by rw [HAN.out], bel_drewN HB8.out _⟩
              · have HAN := hid (show (atts.take (m + 1)).any P = false by rw [hany]; simpa using hxe)
                have v0 : ¬ (bs x).toList = N2.toList := fun e => hxe (bs_inj (by rw [HN2.out]; exact e))
                generalize bs x = X at *
                clear hany htk hats hx hxe
                go_wp2
                go_quiet (fail)
                go_wp2
                go_roundg (atts.length - (m + 1))
                case measure => omega
                case rel => exact ⟨m + 1, by omega, by go_num, by rw [HAN.out]; first | rfl | simp [v0], bel_drewN HB8.out _⟩
          · have e1 : decide (m < atts.length) = false := decide_eq_false hml
            have e1I : ¬ (m : Int) < (atts.length : Int) := by omega
            have htl : atts.take m = atts := List.take_of_length_le (by omega)
            have HL9 := hid (HLw8.out.below' hb8)
            cases htk : atts.any P with
            | true =>
              have HNX := hid (show Tag.runs l J atts = R by
                have h := HNJ.out
                unfold Tag.addA at h
                rw [HP.out, htk, if_pos rfl] at h
                exact h)
              rw [htl, htk] at *
              clear htl htk
              go_wp2
              go_roundg (s.size + n - J)
              case measure => omega
              case rel => exact ⟨J, atts, by omega, by omega, by omega, rfl, HNX, HL9, by omega⟩
            | false =>
              have HNX := hid (show Tag.runs l J (atts ++ [(n2, V2)]) = R by
                have h := HNJ.out
                unfold Tag.addA at h
                rw [HP.out, htk] at h
                exact h)
              rw [htl, htk] at *
              clear htl htk
              have hI1 : IsA (wr.alloc (.cells #[.string N2, .string VV] 53)) (some ⟨wr.heap.size, 0, none⟩) 1 [(n2, V2)] := isA_of_cells rfl (heap_alloc_new wr _) (by rw [← HN2.out, ← HV2.out]; rfl)
              have HI1 := hid hI1
              have HOW := hid (HL9.out.own.alloc (.cells #[.string N2, .string VV] 53))
              have HTK := hid (HL9.out.tok.alloc (.cells #[.string N2, .string VV] 53))
              have hbs : B0 + 2 ≤ (wr.alloc (.cells #[.string N2, .string VV] 53)).heap.size := by have := HL9.out.tok.tok.lt; simp; omega
              have hlen4 : atts.length + 1 ≤ 4294967296 := by omega
              have HBS := hid hbs
              clear hI1 hbs
              go_wp2_with (at_builtin; refine append_T rfl _ _ rfl (B0 + 2) _ atts rfl HOW.out (some ⟨wr.heap.size, 0, none⟩) 1 1 [(n2, V2)] rfl HI1.out (fun h => by cases h) hlen4 HBS.out ?_)
              intro v' w' hown2 hgr
              have HX := hid (show LoopW w w' B0 3 N v' (atts ++ [(n2, V2)]) from ⟨HTK.out.grown hgr (own_ge HOW.out), by rw [List.length_append]; exact hown2⟩)
              clear hown2 hgr
              go_wp2
              go_roundg (s.size + n - J)
              case measure => omega
              case rel => exact ⟨J, atts ++ [(n2, V2)], by omega, by omega, by omega, rfl, HNX, HX, by rw [List.length_append]; simp; omega⟩
      · have bltI : ¬ (b : Int) < (s.size : Int) := by omega
        have d2 : decide (b < s.size) = false := decide_eq_false blt
        clear hI hne hV2 hA6 hB6 HL6 heq hJ
        go_wp2
        generalize w6.alloc (.cells #[.string N2, .string ⟨#[]⟩] 53) = W8 at *
        generalize w6.heap.size = A6 at *
        rw [HVV.out] at HBA
        obtain rfl := HJ.out
        clear HVV HJ
        obtain ⟨ad, cp, rfl, hIs0, hcl, _, hbk, hc0⟩ := own_isT' HLw8.out.own
        have HIS := hid hIs0
        have HBK := hid hbk
        clear hIs0 hbk hc0
        obtain ⟨P, hP⟩ : ∃ P : Tag.At → Bool, (fun z : Tag.At => z.1 == n2) = P := ⟨_, rfl⟩
        have HP := hid hP
        clear hP
        go_wp2
        go_loopg [17, 18] atts.length (fun g tv iv wx => ∃ m : Nat, m + g = atts.length ∧ iv = .int .i64 m ∧ tv = .bool ((atts.take m).any P) ∧ Below W8.heap.size W8 wx)
        case atStart => exact ⟨0, by omega, rfl, by simp, Below.refl _ _⟩
        case round =>
          obtain ⟨m, hm, rfl, rfl, hb8⟩ := hrel
          have HB8 := hid hb8
          have HA8 := hid (HBA.out.below hb8 HBA.out.lt)
          have c80 := HA8.out.cell 0
          have c81 := HA8.out.cell 1
          simp only [List.getElem?_toArray, List.getElem?_cons_zero, List.getElem?_cons_succ] at c80 c81
          by_cases hml : m < atts.length
          · have e1 : decide (m < atts.length) = true := decide_eq_true hml
            have e1I : (m : Int) < (atts.length : Int) := by omega
            obtain ⟨_, z0 | ⟨blk, off, rfl, hats⟩⟩ := HIS.out.below hb8
            · omega
            obtain ⟨⟨x, y⟩, hx⟩ : ∃ x, atts[m]? = some x := ⟨_, List.getElem?_eq_getElem hml⟩
            obtain ⟨u0, _⟩ := hats m _ hx
            simp only at u0
            have hany : (atts.take (m + 1)).any P = ((atts.take m).any P || (x == n2)) := by
              rw [List.take_add_one, hx, List.any_append, ← HP.out]; simp
            have HM := hid (show m + 1 ≤ atts.length by omega)
            cases htk : (atts.take m).any P with
            | true =>
              rw [htk, Bool.true_or] at hany
              have HAN := hid hany
              clear hany htk hats hx
              go_wp2
              go_quiet (fail)
              go_wp2
              go_roundg (atts.length - (m + 1))
              case measure => omega
              case rel => exact ⟨m + 1, by omega, by go_num, by rw [HAN.out], bel_drewN HB8.out _⟩
            | false =>
              rw [htk, Bool.false_or] at hany
              by_cases hxe : x = n2
              · have HAN := hid (show (atts.take (m + 1)).any P = true by rw [hany, hxe]; simp)
                rw [hxe, HN2.out] at u0
                clear hany htk hats hx hxe
                go_wp2
                go_quiet (fail)
                go_wp2
                go_roundg (atts.length - (m + 1))
                case measure => omega
                case rel => exact ⟨m + 1, by omega, by go_num, by rw [HAN.out], bel_drewN HB8.out _⟩
              · have HAN := hid (show (atts.take (m + 1)).any P = false by rw [hany]; simpa using hxe)
                have v0 : ¬ (bs x).toList = N2.toList := fun e => hxe (bs_inj (by rw [HN2.out]; exact e))
                generalize bs x = X at *
                clear hany htk hats hx hxe
                go_wp2
                go_quiet (fail)
                go_wp2
                go_roundg (atts.length - (m + 1))
                case measure => omega
                case rel => exact ⟨m + 1, by omega, by go_num, by rw [HAN.out]; first | rfl | simp [v0], bel_drewN HB8.out _⟩
          · have e1 : decide (m < atts.length) = false := decide_eq_false hml
            have e1I : ¬ (m : Int) < (atts.length : Int) := by omega
            have htl : atts.take m = atts := List.take_of_length_le (by omega)
            have HL9 := hid (HLw8.out.below' hb8)
            cases htk : atts.any P with
            | true =>
              have HNX := hid (show Tag.runs l J atts = R by
                have h := HNJ.out
                unfold Tag.addA at h
                rw [HP.out, htk, if_pos rfl] at h
                exact h)
              rw [htl, htk] at *
              clear htl htk
              go_wp2
              go_roundg (s.size + n - J)
              case measure => omega
              case rel => exact ⟨J, atts, by omega, by omega, by omega, rfl, HNX, HL9, by omega⟩
            | false =>
              have HNX := hid (show Tag.runs l J (atts ++ [(n2, V2)]) = R by
                have h := HNJ.out
                unfold Tag.addA at h
                rw [HP.out, htk] at h
                exact h)
              rw [htl, htk] at *
              clear htl htk
              have hI1 : IsA (wr.alloc (.cells #[.string N2, .string VV] 53)) (some ⟨wr.heap.size, 0, none⟩) 1 [(n2, V2)] := isA_of_cells rfl (heap_alloc_new wr _) (by rw [← HN2.out, ← HV2.out]; rfl)
              have HI1 := hid hI1
              have HOW := hid (HL9.out.own.alloc (.cells #[.string N2, .string VV] 53))
              have HTK := hid (HL9.out.tok.alloc (.cells #[.string N2, .string VV] 53))
              have hbs : B0 + 2 ≤ (wr.alloc (.cells #[.string N2, .string VV] 53)).heap.size := by have := HL9.out.tok.tok.lt; simp; omega
              have hlen4 : atts.length + 1 ≤ 4294967296 := by omega
              have HBS := hid hbs
              clear hI1 hbs
              go_wp2_with (at_builtin; refine append_T rfl _ _ rfl (B0 + 2) _ atts rfl HOW.out (some ⟨wr.heap.size, 0, none⟩) 1 1 [(n2, V2)] rfl HI1.out (fun h => by cases h) hlen4 HBS.out ?_)
              intro v' w' hown2 hgr
              have HX := hid (show LoopW w w' B0 3 N v' (atts ++ [(n2, V2)]) from ⟨HTK.out.grown hgr (own_ge HOW.out), by rw [List.length_append]; exact hown2⟩)
              clear hown2 hgr
              go_wp2
              go_roundg (s.size + n - J)
              case measure => omega
              case rel => exact ⟨J, atts ++ [(n2, V2)], by omega, by omega, by omega, rfl, HNX, HX, by rw [List.length_append]; simp; omega⟩
theorem read_tag3 (HD : DecA) (s : ByteArray) (i : Nat) (w : World) (hs : s.size ≤ 400000) (hb : Tag.begB s.data.toList i = true) (h47 : U8.B s.data.toList (i + 1) = 47) :
    Calls Tryz.prog 17 #[.string s, .int .i64 i] w fun e w' => TagE s.data.toList i s.size e w' ∧ Below w.heap.size w w' :=
  (read_tag3n HD s i w hs hb h47).mono fun e w' ⟨h1, h2⟩ => ⟨h1.1, h2⟩
end Go.Proofs.YtgldgdopabmefaaGreatDoor
