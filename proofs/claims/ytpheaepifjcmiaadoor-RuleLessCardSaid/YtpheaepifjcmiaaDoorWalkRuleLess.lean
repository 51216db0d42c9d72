/- The walk of the statement RuleLess. -/
import Derived.Test.YtpheaepifjcmiaaDoorKnownR
import Derived.Test.YtpheaepifjcmiaaDoorFrameU
import Derived.Test.YtpheaepifjcmiaaDoorPolArg
import Derived.Test.YtpheaepifjcmiaaDoorCut
namespace Go.Proofs.YtpheaepifjcmiaaDoor.ruleLess
open Go.ChangeShapes Go.WideShapes Go.ChangeAt Go.RowKit Go.Lib
open Go.ChangeMaps (open_string shut_string)
set_option maxRecDepth 100000
set_option linter.unusedVariables false

open Rule
theorem bs_self (s : ByteArray) : bs s.data.toList = s := by unfold bs; simp
theorem u8_nat {x : Int} (h : (Lit.int .u8 x).wf = true) : ∃ n : Nat, x = n ∧ n < 256 := by
  simp [Lit.wf, IntKind.min, IntKind.max, IntKind.bits, IntKind.signed] at h
  exact ⟨x.toNat, by omega, by omega⟩
theorem rem_nat (k t n : Nat) : ((k : Int) + (t : Int)).tmod (n : Int) = (((k + t) % n : Nat) : Int) := by
  rw [← Int.natCast_add, ← Int.ofNat_tmod]
theorem new_S (w : World) (E : ByteArray) (x : List UInt8) (h : bs x = E) : (w.alloc (.cells #[.string E] 9)).cell? ((⟨w.heap.size, 0, none⟩ : Addr).add 0) = some (.string (bs x)) := by
  rw [addr_add, h]; exact (BlkW.new w _ _).cell 0
theorem new_A (w : World) (E G : ByteArray) (x y : List UInt8) (h : bs x = E) (g : bs y = G) : (w.alloc (.cells #[.string E, .string G] 36)).cell? ((⟨w.heap.size, 0, none⟩ : Addr).add 0) = some (.string (bs (x, y).1)) ∧ (w.alloc (.cells #[.string E, .string G] 36)).cell? ((⟨w.heap.size, 0, none⟩ : Addr).add 1) = some (.string (bs (x, y).2)) := by
  rw [addr_add, addr_add, h, g]; exact ⟨(BlkW.new w _ _).cell 0, (BlkW.new w _ _).cell 1⟩
def MuchE2 (w : World) (a1 : Option Addr) (n1 c1 : Nat) (es : List (List UInt8)) (a2 : Option Addr) (n2 c2 : Nat) (ats : List (List UInt8 × List UInt8)) (a3 : Option Addr) (n3 c3 : Nat) (ss : List (List UInt8)) (e : Ending) (w' : World) : Prop :=
  Below w.heap.size w w' ∧ ∃ b, e = .returned (.bool b) ∧ (b = false → PolW w a1 n1 c1 es a2 n2 c2 ats a3 n3 c3 ss ∧ n3 ≤ 3000)
set_option maxHeartbeats 1000000 in
theorem much2_any (a1 : Option Addr) (n1 c1 : Nat) (es : List (List UInt8)) (a2 : Option Addr) (n2 c2 : Nat) (ats : List (List UInt8 × List UInt8)) (a3 : Option Addr) (n3 c3 : Nat) (ss : List (List UInt8)) (w : World)
    (h : PolIn w a1 n1 c1 es a2 n2 c2 ats a3 n3 c3 ss) :
    Calls Tryd.prog 7 #[.agg #[.slice a1 n1 c1, .slice a2 n2 c2, .slice a3 n3 c3]] w (MuchE2 w a1 n1 c1 es a2 n2 c2 ats a3 n3 c3 ss) := by
  have HH := hid h
  have b0 := hid ((Below.refl w.heap.size w).alloc (Nat.le_refl _) (.cells #[.slice a1 n1 c1, .slice a2 n2 c2, .slice a3 n3 c3] 25))
  clear h
  go_enter Tryd.func7, Tryd.ntmps7
  go_wp2_with fail
  refine (count_any a1 n1 c1 es a2 n2 c2 ats a3 n3 c3 ss _ (HH.out.below b0.out)).mono ?_
  rintro e w1 ⟨b1, t, rfl, ht⟩
  have ht := hid ht
  have c1 := hid (b0.out.trans (b1.mono b0.out.size))
  clear b1
  go_wp2
  go_ret
  exact ⟨c1.out, _, rfl, fun hb => ⟨much_no HH.out (ht.out (by have h' := of_decide_eq_false hb; omega)), (ht.out (by have h' := of_decide_eq_false hb; omega)).2.2.1⟩⟩
/-- One list of pairs less, or not. -/
def LessW (W wx : World) (Q : Nat) (x1 : Option Addr) (n1 k1 : Nat) (es : List (List UInt8)) (n2 : Nat) (ats : List (List UInt8 × List UInt8)) (x3 : Option Addr) (n3 k3 : Nat) (ss : List (List UInt8)) : Prop :=
  ∃ y2 m2 d2 as2, OrdW W wx Q (.slice x1 n1 k1) (.slice y2 m2 d2) (.slice x3 n3 k3) ∧ IsS wx x1 n1 es ∧ IsA wx y2 m2 as2 ∧ IsS wx x3 n3 ss ∧ (n1 = 0 ∨ ∀ z, x1 = some z → z.block ≠ Q) ∧ (m2 = 0 ∨ ∀ z, y2 = some z → z.block ≠ Q) ∧ (n3 = 0 ∨ ∀ z, x3 = some z → z.block ≠ Q) ∧ m2 ≤ d2 ∧ d2 ≤ maxLen ∧ m2 ≤ n2 ∧ as2.Sublist ats
/-- One text less, or not. -/
def LessV (W wx : World) (Q : Nat) (x1 : Option Addr) (n1 k1 : Nat) (es : List (List UInt8)) (y2 : Option Addr) (m2 d2 : Nat) (as2 : List (List UInt8 × List UInt8)) (n3 : Nat) (ss : List (List UInt8)) : Prop :=
  ∃ y3 m3 d3 ss2, OrdW W wx Q (.slice x1 n1 k1) (.slice y2 m2 d2) (.slice y3 m3 d3) ∧ IsS wx x1 n1 es ∧ IsA wx y2 m2 as2 ∧ IsS wx y3 m3 ss2 ∧ (m3 = 0 ∨ ∀ z, y3 = some z → z.block ≠ Q) ∧ m3 ≤ d3 ∧ d3 ≤ maxLen ∧ m3 ≤ n3 ∧ ss2.Sublist ss
theorem rem_nat0 (k n : Nat) : (k : Int).tmod (n : Int) = ((k % n : Nat) : Int) := by rw [← Int.ofNat_tmod]
set_option maxHeartbeats 8000000 in
theorem walk (w : World) (hT : UrlW w) (a1 : Option Addr) (n1 c1 : Nat) (es : List (List UInt8)) (a2 : Option Addr) (n2 c2 : Nat) (ats : List (List UInt8 × List UInt8)) (a3 : Option Addr) (n3 c3 : Nat) (ss : List (List UInt8))
    (h : PolIn w a1 n1 c1 es a2 n2 c2 ats a3 n3 c3 ss) (o1 : a1 = none → c1 = 0) (o2 : a2 = none → c2 = 0) (o3 : a3 = none → c3 = 0) (turn : Int) (wt : (Lit.int .u8 turn).wf = true) (X : ByteArray) (wX : X.size ≤ maxLen) (Y Z : ByteArray) (wY : Y.size ≤ maxLen) (wZ : Z.size ≤ maxLen) :
    Calls Tryd.prog 6 #[.agg #[.slice a1 n1 c1, .slice a2 n2 c2, .slice a3 n3 c3], .int .u8 turn, .string X, .agg #[.string Y, .string Z]] w fun e w' => e = .returned (.bool true) ∧ Below w.heap.size w w' := by
  obtain ⟨tu, rfl, htu⟩ := u8_nat wt
  unfold maxLen at wX wY wZ
  have HT := hid hT
  have HI := hid h
  have O1 := hid o1
  have O2 := hid o2
  have O3 := hid o3
  clear hT h o1 o2 o3 wt
  have b0 := hid (((Below.refl w.heap.size w).alloc (Nat.le_refl _) (.cells #[.slice a1 n1 c1, .slice a2 n2 c2, .slice a3 n3 c3] 25)).alloc (by simp) (.cells #[.string Y, .string Z] 38))
  have hb1 := hid ((BlkW.new w #[.slice a1 n1 c1, .slice a2 n2 c2, .slice a3 n3 c3] 25).alloc (.cells #[.string Y, .string Z] 38))
  have hb2 : BlkW ((w.alloc (.cells #[.slice a1 n1 c1, .slice a2 n2 c2, .slice a3 n3 c3] 25)).alloc (.cells #[.string Y, .string Z] 38)) (w.heap.size + 1) #[.string Y, .string Z] 38 := by
    have := BlkW.new (w.alloc (.cells #[.slice a1 n1 c1, .slice a2 n2 c2, .slice a3 n3 c3] 25)) #[.string Y, .string Z] 38
    simpa using this
  have hb2 := hid hb2
  go_enter Tryd.func6, Tryd.ntmps6
  go_wp2_with fail
  obtain ⟨W, hW⟩ : ∃ W, (w.alloc (.cells #[.slice a1 n1 c1, .slice a2 n2 c2, .slice a3 n3 c3] 25)).alloc (.cells #[.string Y, .string Z] 38) = W := ⟨_, rfl⟩
  obtain ⟨P, hP⟩ : ∃ P, w.heap.size = P := ⟨_, rfl⟩
  rw [hW] at b0 hb1 hb2 ⊢
  rw [hP] at hb1 hb2 ⊢
  have h0 : ∀ V, Below W.heap.size W V → V.cell? ⟨P, 0, none⟩ = some (.slice a1 n1 c1) := fun V hV => (hb1.out.below hV hb1.out.lt).cell 0
  have h1 : ∀ V, Below W.heap.size W V → V.cell? ⟨P, 1, none⟩ = some (.slice a2 n2 c2) := fun V hV => (hb1.out.below hV hb1.out.lt).cell 1
  have h2 : ∀ V, Below W.heap.size W V → V.cell? ⟨P, 2, none⟩ = some (.slice a3 n3 c3) := fun V hV => (hb1.out.below hV hb1.out.lt).cell 2
  have u0 : ∀ V, Below W.heap.size W V → V.cell? ⟨P + 1, 0, none⟩ = some (.string Y) := fun V hV => (hb2.out.below hV hb2.out.lt).cell 0
  have u1 : ∀ V, Below W.heap.size W V → V.cell? ⟨P + 1, 1, none⟩ = some (.string Z) := fun V hV => (hb2.out.below hV hb2.out.lt).cell 1
  have e0 : Below W.heap.size W W := Below.refl _ _
  have HP := hid hP
  clear hW hP
  refine (much2_any a1 n1 c1 es a2 n2 c2 ats a3 n3 c3 ss _ (HI.out.below b0.out)).mono ?_
  rintro e v1 ⟨j1, b, rfl, hb⟩
  have e1 := e0.trans (j1.mono e0.size)
  clear j1
  cases b with
  | true =>
    clear hb
    go_wp2_with fail
    refine (known5_any _ (url_below HT.out (b0.out.trans (e1.mono b0.out.size)))).mono ?_
    rintro e v2 ⟨rfl, j2⟩
    have e2 := e1.trans (j2.mono e1.size)
    clear j2
    go_wp2
    go_ret
    exact ⟨rfl, b0.out.trans (e2.mono b0.out.size)⟩
  | false =>
    have HPol := hid (hb rfl).1
    have hn3k := (hb rfl).2
    clear hb
    by_cases sX : 3000 < X.size
    · have dX : decide ((3000 : Int) < (X.size : Int)) = true := decide_eq_true (by omega)
      go_wp2_with fail
      refine (known5_any _ (url_below HT.out (b0.out.trans (e1.mono b0.out.size)))).mono ?_
      rintro e v2 ⟨rfl, j2⟩
      have e2 := e1.trans (j2.mono e1.size)
      clear j2
      go_wp2
      go_ret
      exact ⟨rfl, b0.out.trans (e2.mono b0.out.size)⟩
    have dX : decide ((3000 : Int) < (X.size : Int)) = false := decide_eq_false (by omega)
    by_cases sY : 3000 < Y.size
    · have dY : decide ((3000 : Int) < (Y.size : Int)) = true := decide_eq_true (by omega)
      go_wp2_with fail
      refine (known5_any _ (url_below HT.out (b0.out.trans (e1.mono b0.out.size)))).mono ?_
      rintro e v2 ⟨rfl, j2⟩
      have e2 := e1.trans (j2.mono e1.size)
      clear j2
      go_wp2
      go_ret
      exact ⟨rfl, b0.out.trans (e2.mono b0.out.size)⟩
    have dY : decide ((3000 : Int) < (Y.size : Int)) = false := decide_eq_false (by omega)
    by_cases sZ : 3000 < Z.size
    · have dZ : decide ((3000 : Int) < (Z.size : Int)) = true := decide_eq_true (by omega)
      go_wp2_with fail
      refine (known5_any _ (url_below HT.out (b0.out.trans (e1.mono b0.out.size)))).mono ?_
      rintro e v2 ⟨rfl, j2⟩
      have e2 := e1.trans (j2.mono e1.size)
      clear j2
      go_wp2
      go_ret
      exact ⟨rfl, b0.out.trans (e2.mono b0.out.size)⟩
    have dZ : decide ((3000 : Int) < (Z.size : Int)) = false := decide_eq_false (by omega)
    go_wp2_with fail
    refine (known5_any _ (url_below HT.out (b0.out.trans (e1.mono b0.out.size)))).mono ?_
    rintro e v2 ⟨rfl, j2⟩
    have e2 := e1.trans (j2.mono e1.size)
    clear j2 e1
    have sn1 := HPol.out.sm1
    have sn2 := HPol.out.sm2
    have sn3 := HPol.out.sm3
    have zX : X.data.toList.length ≤ 1000000 := by rw [size_list]; omega
    have zY : Y.data.toList.length ≤ 1000000 := by rw [size_list]; omega
    have zZ : Z.data.toList.length ≤ 1000000 := by rw [size_list]; omega
    have ZZ := hid (⟨zX, zY, zZ⟩ : X.data.toList.length ≤ 1000000 ∧ Y.data.toList.length ≤ 1000000 ∧ Z.data.toList.length ≤ 1000000)
    have E1 := hid (bs_self X)
    have E2 := hid (bs_self Y)
    have E3 := hid (bs_self Z)
    clear zX zY zZ hn3k
    cases hok : okB es ats ss with
    | false =>
      have CK := hid (fun V h hT => (check_any a1 n1 c1 es a2 n2 c2 ats a3 n3 c3 ss V h hT).mono (fun e w' (hh : e = chk (okB es ats ss) ∧ Below V.heap.size V w') => (⟨hh.1.trans (by rw [hok]; rfl), hh.2⟩ : e = .returned (.int .u16 50) ∧ Below V.heap.size V w')))
      clear hok
      go_wp2_with fail
      refine (CK.out _ (HPol.out.below e2) (url_below HT.out (b0.out.trans (e2.mono b0.out.size)))).mono ?_
      rintro e v3 ⟨rfl, j3⟩
      have e3 := e2.trans (j3.mono e2.size)
      clear j3
      go_wp2
      go_ret
      exact ⟨rfl, b0.out.trans (e3.mono b0.out.size)⟩
    | true =>
      have HOK := hid hok
      have CK := hid (fun V h hT => (check_any a1 n1 c1 es a2 n2 c2 ats a3 n3 c3 ss V h hT).mono (fun e w' (hh : e = chk (okB es ats ss) ∧ Below V.heap.size V w') => (⟨hh.1.trans (by rw [hok]; rfl), hh.2⟩ : e = .returned (.int .u16 0) ∧ Below V.heap.size V w')))
      clear hok
      go_wp2_with fail
      refine (CK.out _ (HPol.out.below e2) (url_below HT.out (b0.out.trans (e2.mono b0.out.size)))).mono ?_
      rintro e v3 ⟨rfl, j3⟩
      have e3 := e2.trans (j3.mono e2.size)
      clear j3 e2
      go_wp2_with fail
      refine (lent_any a1 n1 c1 es a2 n2 c2 ats a3 n3 c3 ss _ (HPol.out.below e3) O1.out O2.out O3.out).mono ?_
      rintro e v4 ⟨x1, k1, x2, k2, x3, k3, rfl, hown, _, _, _, _, _, _, j4⟩
      have e4 := e3.trans (j4.mono e3.size)
      clear j4 e3
      have hO : OrdW W (v4.alloc (.cells #[.slice x1 n1 k1, .slice x2 n2 k2, .slice x3 n3 k3] 25)) v4.heap.size (.slice x1 n1 k1) (.slice x2 n2 k2) (.slice x3 n3 k3) := ⟨e4.alloc e4.size _, BlkW.new v4 _ _, e4.size⟩
      have hO := hid hO
      have L1 := hid (show n1 = 0 ∨ ∀ z, x1 = some z → z.block ≠ v4.heap.size from hown.is1.lt.imp id fun h z hz => by have := h z hz; omega)
      have L2 := hid (show n2 = 0 ∨ ∀ z, x2 = some z → z.block ≠ v4.heap.size from hown.is2.lt.imp id fun h z hz => by have := h z hz; omega)
      have L3 := hid (show n3 = 0 ∨ ∀ z, x3 = some z → z.block ≠ v4.heap.size from hown.is3.lt.imp id fun h z hz => by have := h z hz; omega)
      have hown := hid (hown.below ((Below.refl _ _).alloc (Nat.le_refl _) (.cells #[.slice x1 n1 k1, .slice x2 n2 k2, .slice x3 n3 k3] 25)))
      clear e4
      go_upto_if 47 with fail
      obtain ⟨W5, hW5⟩ : ∃ W5, v4.alloc (.cells #[.slice x1 n1 k1, .slice x2 n2 k2, .slice x3 n3 k3] 25) = W5 := ⟨_, rfl⟩
      obtain ⟨Q, hQ⟩ : ∃ Q, v4.heap.size = Q := ⟨_, rfl⟩
      rw [hW5] at hO hown ⊢
      rw [hQ] at hO L1 L2 L3 ⊢
      clear hW5 hQ
      go_cut [10] (fun s10 wx => LessW W wx Q x1 n1 k1 es n2 ats x3 n3 k3 ss)
      case first =>
        have hq1 : W5.cell? ⟨Q, 1, none⟩ = some (.slice x2 n2 k2) := hO.out.bq.cell 1
        by_cases hz : n2 = 0
        · subst hz
          go_wp2_with fail
          go_meet
          exact ⟨x2, 0, k2, ats, hO.out, hown.out.is1, hown.out.is2, hown.out.is3, L1.out, .inl rfl, L3.out, hown.out.lc2, by have := hown.out.cm2; unfold maxLen; omega, Nat.le_refl _, List.Sublist.refl _⟩
        · have d1 : decide ((0 : Int) < (n2 : Int)) = true := decide_eq_true (by omega)
          obtain ⟨m, hm⟩ : ∃ m, tu % n2 = m := ⟨_, rfl⟩
          have hmN : m < n2 := by rw [← hm]; exact Nat.mod_lt _ (by omega)
          have q3 := rem_nat0 tu n2
          rw [hm] at q3
          have q3' : (tu : Int) % (n2 : Int) = (m : Int) := by rw [← hm]; rfl
          have lc := hown.out.lc2
          have cm := hown.out.cm2
          obtain ⟨hll, z0 | ⟨blk, off, rfl, hat⟩⟩ := hown.out.is2
          · omega
          have HI := hid hown.out.is2
          have q1 : IntKind.i64.wrap ((m : Int) + 1) = (m : Int) + 1 := IntWalk.i64_in _ (by omega)
          have q0 : IntKind.i64.wrap (tu : Int) = (tu : Int) := IntWalk.i64_in _ (by omega)
          have q4 : (m : Int) ≤ (n2 : Int) := by omega
          have q5 : (m : Int) + 1 ≤ (n2 : Int) := by omega
          have q6 : (n2 : Int) ≤ (k2 : Int) := by omega
          have q7 : (m : Int) ≤ (k2 : Int) := by omega
          have q8 : ((m : Int) + 1).toNat = m + 1 := by omega
          have q9 : m + 1 ≤ n2 := by omega
          have r1 : (m : Int) ≤ (m : Int) + 1 := by omega
          have r2 : (0 : Int) ≤ (m : Int) + 1 := by omega
          have r3 : (0 : Int) ≤ (m : Int) := by omega
          have fq1 : W5.frozen? ⟨Q, 1, none⟩ = false := hO.out.bq.free 1
          have HQn := hid (show blk ≠ Q from (L2.out.resolve_left hz) _ rfl)
          have qn : ¬ n2 = 0 := hz
          have qp : 0 < n2 := by omega
          have HO5 := hid hO.out.drew
          clear hm hat hll hz
          by_cases hc : k2 = m + 1
          · have h0' : n2 - (m + 1) = 0 := by omega
            have HN := hid (show n2 = m + 1 by omega)
            have IA := hid (show IsA W5 (some ⟨blk, off, none⟩) m (less ats m) by
              have hd : ats.drop (m + 1) = [] := List.drop_of_length_le (by have := HI.out.1; omega)
              unfold less
              rw [hd, List.append_nil]
              exact HI.out.take m (by omega))
            subst hc
            go_wp2
            go_region
            all_goals go_wp2_with fail
            all_goals go_meet
            all_goals exact ⟨some ⟨blk, off, none⟩, m, m, less ats m, hO.out.drew.set1 _, (hown.out.is1.below ((Below.refl W5.heap.size W5).drew)).setQ _ _ L1.out, (IA.out.below ((Below.refl W5.heap.size W5).drew)).setQ _ _ (.inr fun z hz => by cases hz; exact HQn.out), (hown.out.is3.below ((Below.refl W5.heap.size W5).drew)).setQ _ _ L3.out, L1.out, .inr fun z hz => (by cases hz; exact HQn.out), L3.out, Nat.le_refl _, by unfold maxLen; omega, by omega, less_sub ats m⟩
          · have hc1 : ¬ k2 = m + 1 := hc
            have hc2 : ¬ m + 1 = k2 := fun e => hc e.symm
            go_wp2
            go_region_law (refine step_cutA rfl _ _ rfl blk off n2 m ats HI.out q9 rfl ⟨blk, off + (m + 1) * 2, none⟩ (n2 - (m + 1)) (k2 - (m + 1)) rfl rfl (.inr rfl) (by omega) ?_; intro a' c' w' iA lA mA bA grA; have iA := hid iA; have mA := hid mA; have bA := hid bA; have OR := hid (HO5.out.grown grA (fun g h => by cases h)); have hq2 : w'.cell? ⟨Q, 1, none⟩ = some (.slice (some ⟨blk, off, none⟩) n2 k2) := OR.out.bq.cell 1; have fq2 : w'.frozen? ⟨Q, 1, none⟩ = false := OR.out.bq.free 1; have GR := hid grA; clear grA)
            all_goals go_wp2_with fail
            all_goals go_meet
            all_goals exact ⟨a', n2 - 1, c', less ats m, OR.out.set1 _, ((hown.out.is1.below ((Below.refl W5.heap.size W5).drew)).below (grow_below GR.out)).setQ _ _ L1.out, iA.out.setQ _ _ (.inr fun z hz => (bA.out z hz).elim (fun e => by rw [e]; exact HQn.out) (fun h => by have := hO.out.bq.lt; show z.block ≠ Q; simp at h; omega)), ((hown.out.is3.below ((Below.refl W5.heap.size W5).drew)).below (grow_below GR.out)).setQ _ _ L3.out, L1.out, .inr fun z hz => (bA.out z hz).elim (fun e => by rw [e]; exact HQn.out) (fun h => by have := hO.out.bq.lt; simp at h; omega), L3.out, lA, mA.out, by omega, less_sub ats m⟩
      case rest =>
        obtain ⟨y2, m2, d2, as2, hO2, i1, i2, i3, l1, l2, l3, le2, lm2, ln2, sub2⟩ := hcut
        have hO := hid hO2
        have I1 := hid i1
        have I2 := hid i2
        have I3 := hid i3
        have L1 := hid l1
        have L2 := hid l2
        have L3 := hid l3
        have SUB2 := hid sub2
        have lc3 := hown.out.lc3
        have cm3 := hown.out.cm3
        have lc1 := hown.out.lc1
        have cm1 := hown.out.cm1
        have LE2 := hid le2
        have LM2 := hid lm2
        have LN2 := hid ln2
        clear hO2 i1 i2 i3 l1 l2 l3 sub2 le2 lm2 ln2 hown
        have hq2 : wc.cell? ⟨Q, 2, none⟩ = some (.slice x3 n3 k3) := hO.out.bq.cell 2
        go_upto_if 68 with fail
        go_cut [10] (fun s10 wx => LessV W wx Q x1 n1 k1 es y2 m2 d2 as2 n3 ss)
        case first =>
          by_cases hz : n3 = 0
          · subst hz
            go_wp2_with fail
            go_meet
            exact ⟨x3, 0, k3, ss, hO.out, I1.out, I2.out, I3.out, .inl rfl, lc3, by unfold maxLen; omega, Nat.le_refl _, List.Sublist.refl _⟩
          · have d1 : decide ((0 : Int) < (n3 : Int)) = true := decide_eq_true (by omega)
            obtain ⟨m, hm⟩ : ∃ m, tu % n3 = m := ⟨_, rfl⟩
            have hmN : m < n3 := by rw [← hm]; exact Nat.mod_lt _ (by omega)
            have q3 := rem_nat0 tu n3
            rw [hm] at q3
            have q3' : (tu : Int) % (n3 : Int) = (m : Int) := by rw [← hm]; rfl
            obtain ⟨hll, z0 | ⟨blk, off, rfl, hat⟩⟩ := I3.out
            · omega
            have q1 : IntKind.i64.wrap ((m : Int) + 1) = (m : Int) + 1 := IntWalk.i64_in _ (by omega)
            have q0 : IntKind.i64.wrap (tu : Int) = (tu : Int) := IntWalk.i64_in _ (by omega)
            have q4 : (m : Int) ≤ (n3 : Int) := by omega
            have q5 : (m : Int) + 1 ≤ (n3 : Int) := by omega
            have q6 : (n3 : Int) ≤ (k3 : Int) := by omega
            have q7 : (m : Int) ≤ (k3 : Int) := by omega
            have q8 : ((m : Int) + 1).toNat = m + 1 := by omega
            have q9 : m + 1 ≤ n3 := by omega
            have r1 : (m : Int) ≤ (m : Int) + 1 := by omega
            have r2 : (0 : Int) ≤ (m : Int) + 1 := by omega
            have r3 : (0 : Int) ≤ (m : Int) := by omega
            have fq2 : wc.frozen? ⟨Q, 2, none⟩ = false := hO.out.bq.free 2
            have HQn := hid (show blk ≠ Q from (L3.out.resolve_left hz) _ rfl)
            have qn : ¬ n3 = 0 := hz
            have qp : 0 < n3 := by omega
            have HO5 := hid hO.out.drew
            clear hm hat hll hz
            by_cases hc : k3 = m + 1
            · have h0' : n3 - (m + 1) = 0 := by omega
              have HN := hid (show n3 = m + 1 by omega)
              have IA := hid (show IsS wc (some ⟨blk, off, none⟩) m (less ss m) by
                have hd : ss.drop (m + 1) = [] := List.drop_of_length_le (by have := I3.out.1; omega)
                unfold less
                rw [hd, List.append_nil]
                exact I3.out.take m (by omega))
              subst hc
              go_wp2
              go_region
              all_goals go_wp2_with fail
              all_goals go_meet
              all_goals exact ⟨some ⟨blk, off, none⟩, m, m, less ss m, hO.out.drew.set2 _, (I1.out.below ((Below.refl wc.heap.size wc).drew)).setQ _ _ L1.out, (I2.out.below ((Below.refl wc.heap.size wc).drew)).setQ _ _ L2.out, (IA.out.below ((Below.refl wc.heap.size wc).drew)).setQ _ _ (.inr fun z hz => by cases hz; exact HQn.out), .inr fun z hz => (by cases hz; exact HQn.out), Nat.le_refl _, by unfold maxLen; omega, by omega, less_sub ss m⟩
            · have hc1 : ¬ k3 = m + 1 := hc
              have hc2 : ¬ m + 1 = k3 := fun e => hc e.symm
              go_wp2
              go_region_law (refine step_cutS rfl _ _ rfl blk off n3 m ss I3.out q9 rfl ⟨blk, off + (m + 1), none⟩ (n3 - (m + 1)) (k3 - (m + 1)) rfl rfl (.inr rfl) (by omega) ?_; intro a' c' w' iA lA mA bA grA; have iA := hid iA; have mA := hid mA; have bA := hid bA; have OR := hid (HO5.out.grown grA (fun g h => by cases h)); have hq3 : w'.cell? ⟨Q, 2, none⟩ = some (.slice (some ⟨blk, off, none⟩) n3 k3) := OR.out.bq.cell 2; have fq3 : w'.frozen? ⟨Q, 2, none⟩ = false := OR.out.bq.free 2; have GR := hid grA; clear grA)
              all_goals go_wp2_with fail
              all_goals go_meet
              all_goals exact ⟨a', n3 - 1, c', less ss m, OR.out.set2 _, ((I1.out.below ((Below.refl wc.heap.size wc).drew)).below (grow_below GR.out)).setQ _ _ L1.out, ((I2.out.below ((Below.refl wc.heap.size wc).drew)).below (grow_below GR.out)).setQ _ _ L2.out, iA.out.setQ _ _ (.inr fun z hz => (bA.out z hz).elim (fun e => by rw [e]; exact HQn.out) (fun h => by have := hO.out.bq.lt; show z.block ≠ Q; simp at h; omega)), .inr fun z hz => (bA.out z hz).elim (fun e => by rw [e]; exact HQn.out) (fun h => by have := hO.out.bq.lt; simp at h; omega), lA, mA.out, by omega, less_sub ss m⟩
        case rest =>
          obtain ⟨y3, m3, d3, ss2, hO3, i1, i2, i3, l3, le3, lm3, ln3, sub3⟩ := hcut
          have HO := hid hO3
          have hp9 := hid (HPol.out.below hO3.below)
          have hq9 := hid (show PolW wc x1 n1 k1 es y2 m2 d2 as2 y3 m3 d3 ss2 from
            ⟨i1, i2, i3, lc1, LE2.out, le3, by omega, by have := LM2.out; unfold maxLen at this; omega, by unfold maxLen at lm3; omega, sn1, by have := LN2.out; omega, by omega,
              fun l hl => HPol.out.tx1 l hl, fun l hl => HPol.out.tx2 l (SUB2.out.subset hl), fun l hl => HPol.out.tx3 l (sub3.subset hl)⟩)
          have SUB3 := hid sub3
          have hb := hO3.below
          have hTW := hid (url_below HT.out (b0.out.trans (hb.mono b0.out.size)))
          have KQ := hid (fun V (hV : Below wc.heap.size wc V) => (keeps_any x1 n1 k1 es y2 m2 d2 as2 y3 m3 d3 ss2 _ _ _ V (hq9.out.below hV) (url_below hTW.out hV) ZZ.out.1 ZZ.out.2.1 ZZ.out.2.2).mono
            fun e w' (hh : e = .returned (.bool (keepsB as2 ss2 X.data.toList Y.data.toList Z.data.toList)) ∧ Below V.heap.size V w') => (⟨hh.1, hV.trans (hh.2.mono hV.size)⟩ : e = .returned (.bool (keepsB as2 ss2 X.data.toList Y.data.toList Z.data.toList)) ∧ Below wc.heap.size wc w'))
          have KP := hid (fun V (hV : Below wc.heap.size wc V) => (keeps_any a1 n1 c1 es a2 n2 c2 ats a3 n3 c3 ss _ _ _ V (hp9.out.below hV) (url_below hTW.out hV) ZZ.out.1 ZZ.out.2.1 ZZ.out.2.2).mono
            fun e w' (hh : e = .returned (.bool (keepsB ats ss X.data.toList Y.data.toList Z.data.toList)) ∧ Below V.heap.size V w') => (⟨hh.1, hV.trans (hh.2.mono hV.size)⟩ : e = .returned (.bool (keepsB ats ss X.data.toList Y.data.toList Z.data.toList)) ∧ Below wc.heap.size wc w'))
          have CQ := hid (fun V (hV : Below wc.heap.size wc V) => (check_any x1 n1 k1 es y2 m2 d2 as2 y3 m3 d3 ss2 V (hq9.out.below hV) (url_below hTW.out hV)).mono
            fun e w' (hh : e = chk (okB es as2 ss2) ∧ Below V.heap.size V w') => (⟨hh.1.trans (by rw [ok_sub SUB2.out SUB3.out HOK.out]; rfl), hV.trans (hh.2.mono hV.size)⟩ : e = .returned (.int .u16 0) ∧ Below wc.heap.size wc w'))
          rw [E1.out, E2.out, E3.out] at KP KQ
          have KM := hid (fun (hh : keepsB as2 ss2 X.data.toList Y.data.toList Z.data.toList = true) => keeps_mono (ats' := ats) (ss' := ss) (fun z hz => SUB2.out.subset hz) (fun z hz => SUB3.out.subset hz) hh)
          have j0 : ∀ V, Below wc.heap.size wc V → V.cell? ⟨P, 0, none⟩ = some (.slice a1 n1 c1) := fun V hV => h0 V (hb.trans (hV.mono hb.size))
          have j1' : ∀ V, Below wc.heap.size wc V → V.cell? ⟨P, 1, none⟩ = some (.slice a2 n2 c2) := fun V hV => h1 V (hb.trans (hV.mono hb.size))
          have j2' : ∀ V, Below wc.heap.size wc V → V.cell? ⟨P, 2, none⟩ = some (.slice a3 n3 c3) := fun V hV => h2 V (hb.trans (hV.mono hb.size))
          have y0 : ∀ V, Below wc.heap.size wc V → V.cell? ⟨P + 1, 0, none⟩ = some (.string Y) := fun V hV => u0 V (hb.trans (hV.mono hb.size))
          have y1 : ∀ V, Below wc.heap.size wc V → V.cell? ⟨P + 1, 1, none⟩ = some (.string Z) := fun V hV => u1 V (hb.trans (hV.mono hb.size))
          have p0' : ∀ V, Below wc.heap.size wc V → V.cell? ⟨Q, 0, none⟩ = some (.slice x1 n1 k1) := fun V hV => (HO.out.bq.below hV HO.out.bq.lt).cell 0
          have p1' : ∀ V, Below wc.heap.size wc V → V.cell? ⟨Q, 1, none⟩ = some (.slice y2 m2 d2) := fun V hV => (HO.out.bq.below hV HO.out.bq.lt).cell 1
          have p2' : ∀ V, Below wc.heap.size wc V → V.cell? ⟨Q, 2, none⟩ = some (.slice y3 m3 d3) := fun V hV => (HO.out.bq.below hV HO.out.bq.lt).cell 2
          have f0 : Below wc.heap.size wc wc := Below.refl _ _
          have B9 := hid (b0.out.trans (hb.mono b0.out.size))
          clear hO3 i1 i2 i3 l3 le3 lm3 ln3 sub3 hb h0 h1 h2 u0 u1 hq2
          cases hkq : keepsB as2 ss2 X.data.toList Y.data.toList Z.data.toList with
          | false =>
            rw [hkq] at KQ
            clear hkq
            go_wp2_with fail
            refine (KQ.out _ f0).mono ?_
            rintro e w6 ⟨rfl, f1⟩
            go_wp2_with fail
            refine (CQ.out _ f1).mono ?_
            rintro e w7 ⟨rfl, f2⟩
            go_wp2
            go_ret
            exact ⟨rfl, B9.out.trans (f2.mono B9.out.size)⟩
          | true =>
            rw [KM.out hkq] at KP
            rw [hkq] at KQ
            clear hkq
            go_wp2_with fail
            refine (KQ.out _ f0).mono ?_
            rintro e w6 ⟨rfl, f1⟩
            go_wp2_with fail
            refine (CQ.out _ f1).mono ?_
            rintro e w7 ⟨rfl, f2⟩
            go_wp2_with fail
            refine (KP.out _ f2).mono ?_
            rintro e w8 ⟨rfl, f3⟩
            go_wp2
            go_ret
            exact ⟨rfl, B9.out.trans (f3.mono B9.out.size)⟩
end Go.Proofs.YtpheaepifjcmiaaDoor.ruleLess
