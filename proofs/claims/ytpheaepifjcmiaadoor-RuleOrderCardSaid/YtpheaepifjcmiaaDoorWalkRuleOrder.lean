/- The walk of the statement RuleOrder. -/
import Derived.Test.YtpheaepifjcmiaaDoorKnownR
import Derived.Test.YtpheaepifjcmiaaDoorFrameU
import Derived.Test.YtpheaepifjcmiaaDoorPolArg
import Derived.Test.YtpheaepifjcmiaaDoorOrd
namespace Go.Proofs.YtpheaepifjcmiaaDoor.ruleOrder
open Go.ChangeShapes Go.WideShapes Go.ChangeAt Go.RowKit Go.Lib
open Go.ChangeMaps (open_string shut_string)
set_option maxRecDepth 100000
set_option linter.unusedVariables false

open Rule
theorem bs_self (s : ByteArray) : bs s.data.toList = s := by unfold bs; simp
theorem u8_nat {x : Int} (h : (Lit.int .u8 x).wf = true) : ∃ n : Nat, x = n ∧ n < 256 := by
  simp [Lit.wf, IntKind.min, IntKind.max, IntKind.bits, IntKind.signed] at h
  exact ⟨x.toNat, by omega, by omega⟩
theorem rem_nat (k t n : Nat) : ((k : Int) + (t : Int)).tmod (n : Int) = (((k + t) % n : Nat) : Int) := by
  rw [← Int.natCast_add, ← Int.ofNat_tmod]
theorem new_S (w : World) (E : ByteArray) (x : List UInt8) (h : bs x = E) : (w.alloc (.cells #[.string E] 9)).cell? ((⟨w.heap.size, 0, none⟩ : Addr).add 0) = some (.string (bs x)) := by
  rw [addr_add, h]; exact (BlkW.new w _ _).cell 0
theorem new_A (w : World) (E G : ByteArray) (x y : List UInt8) (h : bs x = E) (g : bs y = G) : (w.alloc (.cells #[.string E, .string G] 36)).cell? ((⟨w.heap.size, 0, none⟩ : Addr).add 0) = some (.string (bs (x, y).1)) ∧ (w.alloc (.cells #[.string E, .string G] 36)).cell? ((⟨w.heap.size, 0, none⟩ : Addr).add 1) = some (.string (bs (x, y).2)) := by
  rw [addr_add, addr_add, h, g]; exact ⟨(BlkW.new w _ _).cell 0, (BlkW.new w _ _).cell 1⟩
def MuchE2 (w : World) (a1 : Option Addr) (n1 c1 : Nat) (es : List (List UInt8)) (a2 : Option Addr) (n2 c2 : Nat) (ats : List (List UInt8 × List UInt8)) (a3 : Option Addr) (n3 c3 : Nat) (ss : List (List UInt8)) (e : Ending) (w' : World) : Prop :=
  Below w.heap.size w w' ∧ ∃ b, e = .returned (.bool b) ∧ (b = false → PolW w a1 n1 c1 es a2 n2 c2 ats a3 n3 c3 ss ∧ n3 ≤ 3000)
set_option maxHeartbeats 1000000 in
theorem much2_any (a1 : Option Addr) (n1 c1 : Nat) (es : List (List UInt8)) (a2 : Option Addr) (n2 c2 : Nat) (ats : List (List UInt8 × List UInt8)) (a3 : Option Addr) (n3 c3 : Nat) (ss : List (List UInt8)) (w : World)
    (h : PolIn w a1 n1 c1 es a2 n2 c2 ats a3 n3 c3 ss) :
    Calls Tryd.prog 7 #[.agg #[.slice a1 n1 c1, .slice a2 n2 c2, .slice a3 n3 c3]] w (MuchE2 w a1 n1 c1 es a2 n2 c2 ats a3 n3 c3 ss) := by
  have HH := hid h
  have b0 := hid ((Below.refl w.heap.size w).alloc (Nat.le_refl _) (.cells #[.slice a1 n1 c1, .slice a2 n2 c2, .slice a3 n3 c3] 25))
  clear h
  go_enter Tryd.func7, Tryd.ntmps7
  go_wp2_with fail
  refine (count_any a1 n1 c1 es a2 n2 c2 ats a3 n3 c3 ss _ (HH.out.below b0.out)).mono ?_
  rintro e w1 ⟨b1, t, rfl, ht⟩
  have ht := hid ht
  have c1 := hid (b0.out.trans (b1.mono b0.out.size))
  clear b1
  go_wp2
  go_ret
  exact ⟨c1.out, _, rfl, fun hb => ⟨much_no HH.out (ht.out (by have h' := of_decide_eq_false hb; omega)), (ht.out (by have h' := of_decide_eq_false hb; omega)).2.2.1⟩⟩
set_option maxHeartbeats 8000000 in
theorem walk (w : World) (hT : UrlW w) (a1 : Option Addr) (n1 c1 : Nat) (es : List (List UInt8)) (a2 : Option Addr) (n2 c2 : Nat) (ats : List (List UInt8 × List UInt8)) (a3 : Option Addr) (n3 c3 : Nat) (ss : List (List UInt8))
    (h : PolIn w a1 n1 c1 es a2 n2 c2 ats a3 n3 c3 ss) (o1 : a1 = none → c1 = 0) (o2 : a2 = none → c2 = 0) (o3 : a3 = none → c3 = 0) (turn : Int) (wt : (Lit.int .u8 turn).wf = true) (X : ByteArray) (wX : X.size ≤ maxLen) (Y Z : ByteArray) (wY : Y.size ≤ maxLen) (wZ : Z.size ≤ maxLen) :
    Calls Tryd.prog 5 #[.agg #[.slice a1 n1 c1, .slice a2 n2 c2, .slice a3 n3 c3], .int .u8 turn, .string X, .agg #[.string Y, .string Z]] w fun e w' => e = .returned (.bool true) ∧ Below w.heap.size w w' := by
  obtain ⟨tu, rfl, htu⟩ := u8_nat wt
  unfold maxLen at wX wY wZ
  have HT := hid hT
  have HI := hid h
  clear hT h o1 o2 o3 wt
  have b0 := hid (((Below.refl w.heap.size w).alloc (Nat.le_refl _) (.cells #[.slice a1 n1 c1, .slice a2 n2 c2, .slice a3 n3 c3] 25)).alloc (by simp) (.cells #[.string Y, .string Z] 38))
  have hb1 := hid ((BlkW.new w #[.slice a1 n1 c1, .slice a2 n2 c2, .slice a3 n3 c3] 25).alloc (.cells #[.string Y, .string Z] 38))
  have hb2 : BlkW ((w.alloc (.cells #[.slice a1 n1 c1, .slice a2 n2 c2, .slice a3 n3 c3] 25)).alloc (.cells #[.string Y, .string Z] 38)) (w.heap.size + 1) #[.string Y, .string Z] 38 := by
    have := BlkW.new (w.alloc (.cells #[.slice a1 n1 c1, .slice a2 n2 c2, .slice a3 n3 c3] 25)) #[.string Y, .string Z] 38
    simpa using this
  have hb2 := hid hb2
  go_enter Tryd.func5, Tryd.ntmps5
  go_wp2_with fail
  obtain ⟨W, hW⟩ : ∃ W, (w.alloc (.cells #[.slice a1 n1 c1, .slice a2 n2 c2, .slice a3 n3 c3] 25)).alloc (.cells #[.string Y, .string Z] 38) = W := ⟨_, rfl⟩
  obtain ⟨P, hP⟩ : ∃ P, w.heap.size = P := ⟨_, rfl⟩
  rw [hW] at b0 hb1 hb2 ⊢
  rw [hP] at hb1 hb2 ⊢
  have h0 : ∀ V, Below W.heap.size W V → V.cell? ⟨P, 0, none⟩ = some (.slice a1 n1 c1) := fun V hV => (hb1.out.below hV hb1.out.lt).cell 0
  have h1 : ∀ V, Below W.heap.size W V → V.cell? ⟨P, 1, none⟩ = some (.slice a2 n2 c2) := fun V hV => (hb1.out.below hV hb1.out.lt).cell 1
  have h2 : ∀ V, Below W.heap.size W V → V.cell? ⟨P, 2, none⟩ = some (.slice a3 n3 c3) := fun V hV => (hb1.out.below hV hb1.out.lt).cell 2
  have u0 : ∀ V, Below W.heap.size W V → V.cell? ⟨P + 1, 0, none⟩ = some (.string Y) := fun V hV => (hb2.out.below hV hb2.out.lt).cell 0
  have u1 : ∀ V, Below W.heap.size W V → V.cell? ⟨P + 1, 1, none⟩ = some (.string Z) := fun V hV => (hb2.out.below hV hb2.out.lt).cell 1
  have e0 : Below W.heap.size W W := Below.refl _ _
  have HP := hid hP
  clear hW hP
  refine (much2_any a1 n1 c1 es a2 n2 c2 ats a3 n3 c3 ss _ (HI.out.below b0.out)).mono ?_
  rintro e v1 ⟨j1, b, rfl, hb⟩
  have e1 := e0.trans (j1.mono e0.size)
  clear j1
  cases b with
  | true =>
    clear hb
    go_wp2_with fail
    refine (known5_any _ (url_below HT.out (b0.out.trans (e1.mono b0.out.size)))).mono ?_
    rintro e v2 ⟨rfl, j2⟩
    have e2 := e1.trans (j2.mono e1.size)
    clear j2
    go_wp2
    go_ret
    exact ⟨rfl, b0.out.trans (e2.mono b0.out.size)⟩
  | false =>
    have HPol := hid (hb rfl).1
    have hn3k := (hb rfl).2
    clear hb
    by_cases sX : 3000 < X.size
    · have dX : decide ((3000 : Int) < (X.size : Int)) = true := decide_eq_true (by omega)
      go_wp2_with fail
      refine (known5_any _ (url_below HT.out (b0.out.trans (e1.mono b0.out.size)))).mono ?_
      rintro e v2 ⟨rfl, j2⟩
      have e2 := e1.trans (j2.mono e1.size)
      clear j2
      go_wp2
      go_ret
      exact ⟨rfl, b0.out.trans (e2.mono b0.out.size)⟩
    have dX : decide ((3000 : Int) < (X.size : Int)) = false := decide_eq_false (by omega)
    by_cases sY : 3000 < Y.size
    · have dY : decide ((3000 : Int) < (Y.size : Int)) = true := decide_eq_true (by omega)
      go_wp2_with fail
      refine (known5_any _ (url_below HT.out (b0.out.trans (e1.mono b0.out.size)))).mono ?_
      rintro e v2 ⟨rfl, j2⟩
      have e2 := e1.trans (j2.mono e1.size)
      clear j2
      go_wp2
      go_ret
      exact ⟨rfl, b0.out.trans (e2.mono b0.out.size)⟩
    have dY : decide ((3000 : Int) < (Y.size : Int)) = false := decide_eq_false (by omega)
    by_cases sZ : 3000 < Z.size
    · have dZ : decide ((3000 : Int) < (Z.size : Int)) = true := decide_eq_true (by omega)
      go_wp2_with fail
      refine (known5_any _ (url_below HT.out (b0.out.trans (e1.mono b0.out.size)))).mono ?_
      rintro e v2 ⟨rfl, j2⟩
      have e2 := e1.trans (j2.mono e1.size)
      clear j2
      go_wp2
      go_ret
      exact ⟨rfl, b0.out.trans (e2.mono b0.out.size)⟩
    have dZ : decide ((3000 : Int) < (Z.size : Int)) = false := decide_eq_false (by omega)
    go_wp2_with fail
    refine (known5_any _ (url_below HT.out (b0.out.trans (e1.mono b0.out.size)))).mono ?_
    rintro e v2 ⟨rfl, j2⟩
    have e2 := e1.trans (j2.mono e1.size)
    clear j2 e1
    have sn1 := HPol.out.sm1
    have sn2 := HPol.out.sm2
    have sn3 := HPol.out.sm3
    have HL1 := hid HPol.out.is1.1
    have HL2 := hid HPol.out.is2.1
    have HL3 := hid HPol.out.is3.1
    have hO : OrdW W (v2.alloc (.cells #[.slice none 0 0, .slice none 0 0, .slice none 0 0] 25)) v2.heap.size (.slice none 0 0) (.slice none 0 0) (.slice none 0 0) := ⟨e2.alloc e2.size _, BlkW.new v2 _ _, e2.size⟩
    have hO := hid hO
    have e3 := e2.alloc e2.size (.cells #[.slice none 0 0, .slice none 0 0, .slice none 0 0] 25)
    clear e2
    go_wp2
    obtain ⟨W3, hW3⟩ : ∃ W3, v2.alloc (.cells #[.slice none 0 0, .slice none 0 0, .slice none 0 0] 25) = W3 := ⟨_, rfl⟩
    obtain ⟨Q, hQ⟩ : ∃ Q, v2.heap.size = Q := ⟨_, rfl⟩
    rw [hW3] at hO e3 ⊢
    rw [hQ] at hO ⊢
    clear hW3 hQ e3
    have hbase : Hid (Q + 1 ≤ W3.heap.size) := hid hO.out.bq.lt
    go_loopg [11] n1 (fun g iv wr => ∃ (k : Nat) (v : Value), k + g = n1 ∧ iv = .int .i64 k ∧ Hid (OrdW W wr Q v (.slice none 0 0) (.slice none 0 0)) ∧ Hid (wr.ownsRow (Q + 1) 9 1 v ((turned es tu).take k).length (strsL ((turned es tu).take k))))
    case atStart => exact ⟨0, .slice none 0 0, by omega, rfl, hO, hid (World.ownsRow_nil _ _ _ _)⟩
    case round =>
      clear hO
      obtain ⟨k, v, hk, rfl, hO, hw⟩ := hrel
      have hb := hO.out.below
      have hq : wr.cell? ⟨Q, 0, none⟩ = some v := hO.out.bq.cell 0
      by_cases hlt : k < n1
      · have d1 : decide (k < n1) = true := decide_eq_true hlt
        have hltI : (k : Int) < (n1 : Int) := by omega
        have hLn := HL1.out
        obtain ⟨x, hx, hnx⟩ := turned_take es tu k (by omega)
        rw [hLn] at hx
        obtain ⟨m, hm⟩ : ∃ m, (k + tu) % n1 = m := ⟨_, rfl⟩
        have hmN : m < n1 := by rw [← hm]; exact Nat.mod_lt _ (by omega)
        have q3 := rem_nat k tu n1
        rw [hm] at hx q3
        have q1 : IntKind.i64.wrap ((k : Int) + (tu : Int)) = (k : Int) + (tu : Int) := IntWalk.i64_in _ (by omega)
        have q0 : IntKind.i64.wrap (tu : Int) = (tu : Int) := IntWalk.i64_in _ (by omega)
        have qn : ¬ n1 = 0 := by omega
        have q4 : (0 : Int) ≤ (m : Int) := by omega
        have q5 : (m : Int) < (n1 : Int) := by omega
        have hklen : ((turned es tu).take k).length = k := by rw [List.length_take, turned_len]; omega
        obtain ⟨_, z0 | ⟨blk, off, rfl, hat⟩⟩ := HPol.out.is1.below hb
        · omega
        obtain ⟨E, hE⟩ : ∃ E, bs x = E := ⟨_, rfl⟩
        have hcell : wr.cell? ⟨blk, off + m, none⟩ = some (.string (bs x)) := hat m _ hx
        rw [hE] at hcell
        have HNW := hid (new_S wr.drew E x hE)
        have HOW := hid ((own_below hw.out ((Below.refl wr.heap.size wr).drew)).alloc (.cells #[.string E] 9))
        have HO2 := hid (hO.out.drew.alloc (.cells #[.string E] 9))
        have hqa : (wr.alloc (.cells #[.string E] 9)).cell? ⟨Q, 0, none⟩ = some v := (hO.out.alloc _).bq.cell 0
        have HNX := hid hnx
        have HKL := hid hklen
        have n1' := World.block_lt_of_cell? _ _ hq
        have n2' := World.block_lt_of_cell? _ _ hcell
        have n3' := World.block_lt_of_cell? _ _ (h0 wr hb)
        have n5' : Q ≠ wr.heap.size := by simp at n1'; omega
        have n6' : blk ≠ wr.heap.size := by simp at n2'; omega
        have n7' : P ≠ wr.heap.size := by simp at n3'; omega
        have n8' : wr.heap.size ≠ Q := fun e => n5' e.symm
        have n9' : wr.heap.size ≠ blk := fun e => n6' e.symm
        have n0' : wr.heap.size ≠ P := fun e => n7' e.symm
        have hg0 := HO2.out.below
        have hlenk : ((turned es tu).take k).length ≤ 3000000 := by omega
        have hbase2 : (Q + 1) ≤ (wr.drew.alloc (.cells #[.string E] 9)).heap.size := by have := hO.out.bq.lt; have := hO.out.below.size; simp; omega
        clear hE hat hx hm hnx hw hklen hLn n1' n2' n3'
        go_wp2
        go_region_law (refine step_S1 rfl _ _ rfl (Q + 1) _ ((turned es tu).take k) rfl HOW.out ⟨wr.drew.heap.size, 0, none⟩ 1 x rfl HNW.out (by omega) hbase2 ?_; intro v' w' own2 gr2; obtain ⟨xa, xc, hve, _⟩ := own_isS' own2; obtain ⟨xl, hxl⟩ : ∃ xl, ((turned es tu).take k ++ [x]).length = xl := ⟨_, rfl⟩; rw [hxl] at hve; clear hxl; subst hve; have own3 : Hid (w'.ownsRow (Q + 1) 9 1 _ ((turned es tu).take k ++ [x]).length (strsL ((turned es tu).take k ++ [x]))) := hid own2; have hO3 := hid (HO2.out.grown gr2 (fun z hz => by have := own_ge HOW.out z hz; omega)); have hq2 : w'.cell? ⟨Q, 0, none⟩ = some v := hO3.out.bq.cell 0; have fq2 : w'.frozen? ⟨Q, 0, none⟩ = false := hO3.out.bq.free 0; clear own2)
        all_goals
          go_wp2
          go_roundg (n1 - (k + 1))
          case measure => omega
          case rel => exact ⟨k + 1, _, by omega, by go_num, hid (hO3.out.set0 _), hid (own_far (by rw [HNX.out]; exact own3.out) _ _ (by have := hO.out.bq.lt; show Q < (Q + 1); omega))⟩
      · have d1 : decide (k < n1) = false := decide_eq_false hlt
        have hltI : ¬ (k : Int) < (n1 : Int) := by omega
        have hall : (turned es tu).take k = turned es tu := List.take_of_length_le (by rw [turned_len]; have := HL1.out; omega)
        rw [hall] at hw
        obtain ⟨x1, k1, hv, i1, l1, m1, bb1, nn1⟩ := own_isS' hw.out
        have htl : (turned es tu).length = n1 := by rw [turned_len]; exact HL1.out
        rw [htl] at hv i1 l1 hw
        subst hv
        have L1 := hid l1
        have M1 := hid m1
        have I1 := hid i1
        have W1 := hw
        obtain ⟨B2, hB2⟩ : ∃ B, wr.heap.size = B := ⟨_, rfl⟩
        have HX1 := hid (show ∀ z, x1 = some z → Q + 1 ≤ z.block ∧ z.block < B2 from fun z hz => by
          subst hz
          have hbk := own_block hw.out
          exact ⟨by omega, by omega⟩)
        have HB2 := hid (show Q + 1 ≤ B2 by have := hO.out.bq.lt; omega)
        have J2 := hid (show B2 ≤ wr.heap.size by omega)
        clear l1 m1 i1 hw bb1 nn1 hall htl hB2
        go_wp2
        go_loopg [12] n2 (fun g iv wr => ∃ (k : Nat) (v : Value), k + g = n2 ∧ iv = .int .i64 k ∧ Hid (OrdW W wr Q (.slice x1 n1 k1) v (.slice none 0 0)) ∧ Hid (wr.ownsRow B2 36 2 v ((turned ats tu).take k).length (pairL ((turned ats tu).take k))) ∧ Hid (B2 ≤ wr.heap.size) ∧ Hid (IsS wr x1 n1 (turned es tu)))
        case atStart => exact ⟨0, .slice none 0 0, by omega, rfl, hO, hid (World.ownsRow_nil _ _ _ _), J2, I1⟩
        case round =>
          clear hO J2 I1 hb hq hlt d1 hltI hk
          obtain ⟨k, v, hk, rfl, hO, hw, J2, I1⟩ := hrel
          have hb := hO.out.below
          have hq : wr.cell? ⟨Q, 1, none⟩ = some v := hO.out.bq.cell 1
          by_cases hlt : k < n2
          · have d1 : decide (k < n2) = true := decide_eq_true hlt
            have hltI : (k : Int) < (n2 : Int) := by omega
            have hLn := HL2.out
            obtain ⟨x, hx, hnx⟩ := turned_take ats tu k (by omega)
            rw [hLn] at hx
            obtain ⟨m, hm⟩ : ∃ m, (k + tu) % n2 = m := ⟨_, rfl⟩
            have hmN : m < n2 := by rw [← hm]; exact Nat.mod_lt _ (by omega)
            have q3 := rem_nat k tu n2
            rw [hm] at hx q3
            have q1 : IntKind.i64.wrap ((k : Int) + (tu : Int)) = (k : Int) + (tu : Int) := IntWalk.i64_in _ (by omega)
            have q0 : IntKind.i64.wrap (tu : Int) = (tu : Int) := IntWalk.i64_in _ (by omega)
            have qn : ¬ n2 = 0 := by omega
            have q4 : (0 : Int) ≤ (m : Int) := by omega
            have q5 : (m : Int) < (n2 : Int) := by omega
            have hklen : ((turned ats tu).take k).length = k := by rw [List.length_take, turned_len]; omega
            obtain ⟨_, z0 | ⟨blk, off, rfl, hat⟩⟩ := HPol.out.is2.below hb
            · omega
            obtain ⟨x, y⟩ := x
            obtain ⟨E, hE⟩ : ∃ E, bs x = E := ⟨_, rfl⟩
            obtain ⟨G, hG⟩ : ∃ G, bs y = G := ⟨_, rfl⟩
            obtain ⟨hcell, hcell2⟩ := hat m _ hx
            simp only at hcell hcell2
            rw [hE] at hcell
            rw [hG] at hcell2
            have HNW := hid (new_A wr.drew E G x y hE hG)
            have HOW := hid ((own_below hw.out ((Below.refl wr.heap.size wr).drew)).alloc (.cells #[.string E, .string G] 36))
            have HO2 := hid (hO.out.drew.alloc (.cells #[.string E, .string G] 36))
            have hqa : (wr.alloc (.cells #[.string E, .string G] 36)).cell? ⟨Q, 1, none⟩ = some v := (hO.out.alloc _).bq.cell 1
            have HNX := hid hnx
            have HKL := hid hklen
            have n1' := World.block_lt_of_cell? _ _ hq
            have n2' := World.block_lt_of_cell? _ _ hcell
            have n3' := World.block_lt_of_cell? _ _ (h0 wr hb)
            have n5' : Q ≠ wr.heap.size := by simp at n1'; omega
            have n6' : blk ≠ wr.heap.size := by simp at n2'; omega
            have n7' : P ≠ wr.heap.size := by simp at n3'; omega
            have n8' : wr.heap.size ≠ Q := fun e => n5' e.symm
            have n9' : wr.heap.size ≠ blk := fun e => n6' e.symm
            have n0' : wr.heap.size ≠ P := fun e => n7' e.symm
            have hg0 := HO2.out.below
            have hlenk : ((turned ats tu).take k).length ≤ 3000000 := by omega
            have hbase2 : B2 ≤ (wr.drew.alloc (.cells #[.string E, .string G] 36)).heap.size := by have := J2.out; have := hO.out.below.size; simp; omega
            clear hE hG hat hx hm hnx hw hklen hLn n1' n2' n3'
            go_wp2
            go_region_law (refine step_A1 rfl _ _ rfl B2 _ ((turned ats tu).take k) rfl HOW.out ⟨wr.drew.heap.size, 0, none⟩ 1 (x, y) rfl HNW.out.1 HNW.out.2 (by omega) hbase2 ?_; intro v' w' own2 gr2; obtain ⟨xa, xc, hve, _⟩ := own_isA' own2; obtain ⟨xl, hxl⟩ : ∃ xl, ((turned ats tu).take k ++ [(x, y)]).length = xl := ⟨_, rfl⟩; rw [hxl] at hve; clear hxl; subst hve; have own3 : Hid (w'.ownsRow B2 36 2 _ ((turned ats tu).take k ++ [(x, y)]).length (pairL ((turned ats tu).take k ++ [(x, y)]))) := hid own2; have hO3 := hid (HO2.out.grown gr2 (fun z hz => by have := own_ge HOW.out z hz; have := HB2.out; omega)); have hq2 : w'.cell? ⟨Q, 1, none⟩ = some v := hO3.out.bq.cell 1; have fq2 : w'.frozen? ⟨Q, 1, none⟩ = false := hO3.out.bq.free 1; clear own2)
            all_goals
              go_wp2
              go_roundg (n2 - (k + 1))
              case measure => omega
              case rel => exact ⟨k + 1, _, by omega, by go_num, hid (hO3.out.set1 _), hid (own_far (by rw [HNX.out]; exact own3.out) _ _ (by have := hO.out.bq.lt; show Q < B2; have := HB2.out; omega)), hid (by have g1 := gr2.size; have g2 := J2.out; simp at g1 ⊢; omega), hid (((I1.out.below (((Below.refl wr.heap.size wr).drew).alloc (by simp) (.cells #[.string E, .string G] 36))).grown gr2 (own_ge HOW.out) (fun z hz => (HX1.out z hz).2)).set_ _ _ (fun z hz => by have := (HX1.out z hz).1; show z.block ≠ Q; omega))⟩
          · have d1 : decide (k < n2) = false := decide_eq_false hlt
            have hltI : ¬ (k : Int) < (n2 : Int) := by omega
            have hall : (turned ats tu).take k = turned ats tu := List.take_of_length_le (by rw [turned_len]; have := HL2.out; omega)
            rw [hall] at hw
            obtain ⟨x2, k2, hv, i2, l2, m2, bb2, nn2⟩ := own_isA' hw.out
            have htl : (turned ats tu).length = n2 := by rw [turned_len]; exact HL2.out
            rw [htl] at hv i2 l2 hw
            subst hv
            have L2 := hid l2
            have M2 := hid m2
            have I2 := hid i2
            have W2 := hw
            obtain ⟨B3, hB3⟩ : ∃ B, wr.heap.size = B := ⟨_, rfl⟩
            have HX2 := hid (show ∀ z, x2 = some z → Q + 1 ≤ z.block ∧ z.block < B3 from fun z hz => by
              subst hz
              have hbk := own_block hw.out
              have := HB2.out; exact ⟨by omega, by omega⟩)
            have HB3 := hid (show Q + 1 ≤ B3 by have := hO.out.bq.lt; omega)
            have J3 := hid (show B3 ≤ wr.heap.size by omega)
            have HX1 := hid (show ∀ z, x1 = some z → Q + 1 ≤ z.block ∧ z.block < B3 from fun z hz => by have h1' := HX1.out z hz; have h2' := J2.out; exact ⟨h1'.1, by omega⟩)
            clear l2 m2 i2 hw bb2 nn2 hall htl hB3
            go_wp2
            go_loopg [13] n3 (fun g iv wr => ∃ (k : Nat) (v : Value), k + g = n3 ∧ iv = .int .i64 k ∧ Hid (OrdW W wr Q (.slice x1 n1 k1) (.slice x2 n2 k2) v) ∧ Hid (wr.ownsRow B3 9 1 v ((turned ss tu).take k).length (strsL ((turned ss tu).take k))) ∧ Hid (B3 ≤ wr.heap.size) ∧ Hid (IsS wr x1 n1 (turned es tu)) ∧ Hid (IsA wr x2 n2 (turned ats tu)))
            case atStart => exact ⟨0, .slice none 0 0, by omega, rfl, hO, hid (World.ownsRow_nil _ _ _ _), J3, I1, I2⟩
            case round =>
              clear hO J3 I1 I2 hb hq hlt d1 hltI hk
              obtain ⟨k, v, hk, rfl, hO, hw, J3, I1, I2⟩ := hrel
              have hb := hO.out.below
              have hq : wr.cell? ⟨Q, 2, none⟩ = some v := hO.out.bq.cell 2
              by_cases hlt : k < n3
              · have d1 : decide (k < n3) = true := decide_eq_true hlt
                have hltI : (k : Int) < (n3 : Int) := by omega
                have hLn := HL3.out
                obtain ⟨x, hx, hnx⟩ := turned_take ss tu k (by omega)
                rw [hLn] at hx
                obtain ⟨m, hm⟩ : ∃ m, (k + tu) % n3 = m := ⟨_, rfl⟩
                have hmN : m < n3 := by rw [← hm]; exact Nat.mod_lt _ (by omega)
                have q3 := rem_nat k tu n3
                rw [hm] at hx q3
                have q1 : IntKind.i64.wrap ((k : Int) + (tu : Int)) = (k : Int) + (tu : Int) := IntWalk.i64_in _ (by omega)
                have q0 : IntKind.i64.wrap (tu : Int) = (tu : Int) := IntWalk.i64_in _ (by omega)
                have qn : ¬ n3 = 0 := by omega
                have q4 : (0 : Int) ≤ (m : Int) := by omega
                have q5 : (m : Int) < (n3 : Int) := by omega
                have hklen : ((turned ss tu).take k).length = k := by rw [List.length_take, turned_len]; omega
                obtain ⟨_, z0 | ⟨blk, off, rfl, hat⟩⟩ := HPol.out.is3.below hb
                · omega
                obtain ⟨E, hE⟩ : ∃ E, bs x = E := ⟨_, rfl⟩
                have hcell : wr.cell? ⟨blk, off + m, none⟩ = some (.string (bs x)) := hat m _ hx
                rw [hE] at hcell
                have HNW := hid (new_S wr.drew E x hE)
                have HOW := hid ((own_below hw.out ((Below.refl wr.heap.size wr).drew)).alloc (.cells #[.string E] 9))
                have HO2 := hid (hO.out.drew.alloc (.cells #[.string E] 9))
                have hqa : (wr.alloc (.cells #[.string E] 9)).cell? ⟨Q, 2, none⟩ = some v := (hO.out.alloc _).bq.cell 2
                have HNX := hid hnx
                have HKL := hid hklen
                have n1' := World.block_lt_of_cell? _ _ hq
                have n2' := World.block_lt_of_cell? _ _ hcell
                have n3' := World.block_lt_of_cell? _ _ (h0 wr hb)
                have n5' : Q ≠ wr.heap.size := by simp at n1'; omega
                have n6' : blk ≠ wr.heap.size := by simp at n2'; omega
                have n7' : P ≠ wr.heap.size := by simp at n3'; omega
                have n8' : wr.heap.size ≠ Q := fun e => n5' e.symm
                have n9' : wr.heap.size ≠ blk := fun e => n6' e.symm
                have n0' : wr.heap.size ≠ P := fun e => n7' e.symm
                have hg0 := HO2.out.below
                have hlenk : ((turned ss tu).take k).length ≤ 3000000 := by omega
                have hbase2 : B3 ≤ (wr.drew.alloc (.cells #[.string E] 9)).heap.size := by have := J3.out; have := hO.out.below.size; simp; omega
                clear hE hat hx hm hnx hw hklen hLn n1' n2' n3'
                go_wp2
                go_region_law (refine step_S1 rfl _ _ rfl B3 _ ((turned ss tu).take k) rfl HOW.out ⟨wr.drew.heap.size, 0, none⟩ 1 x rfl HNW.out (by omega) hbase2 ?_; intro v' w' own2 gr2; obtain ⟨xa, xc, hve, _⟩ := own_isS' own2; obtain ⟨xl, hxl⟩ : ∃ xl, ((turned ss tu).take k ++ [x]).length = xl := ⟨_, rfl⟩; rw [hxl] at hve; clear hxl; subst hve; have own3 : Hid (w'.ownsRow B3 9 1 _ ((turned ss tu).take k ++ [x]).length (strsL ((turned ss tu).take k ++ [x]))) := hid own2; have hO3 := hid (HO2.out.grown gr2 (fun z hz => by have := own_ge HOW.out z hz; have := HB3.out; omega)); have hq2 : w'.cell? ⟨Q, 2, none⟩ = some v := hO3.out.bq.cell 2; have fq2 : w'.frozen? ⟨Q, 2, none⟩ = false := hO3.out.bq.free 2; clear own2)
                all_goals
                  go_wp2
                  go_roundg (n3 - (k + 1))
                  case measure => omega
                  case rel => exact ⟨k + 1, _, by omega, by go_num, hid (hO3.out.set2 _), hid (own_far (by rw [HNX.out]; exact own3.out) _ _ (by have := hO.out.bq.lt; show Q < B3; have := HB3.out; omega)), hid (by have g1 := gr2.size; have g2 := J3.out; simp at g1 ⊢; omega), hid (((I1.out.below (((Below.refl wr.heap.size wr).drew).alloc (by simp) (.cells #[.string E] 9))).grown gr2 (own_ge HOW.out) (fun z hz => (HX1.out z hz).2)).set_ _ _ (fun z hz => by have := (HX1.out z hz).1; show z.block ≠ Q; omega)), hid (((I2.out.below (((Below.refl wr.heap.size wr).drew).alloc (by simp) (.cells #[.string E] 9))).grown gr2 (own_ge HOW.out) (fun z hz => (HX2.out z hz).2)).set_ _ _ (fun z hz => by have := (HX2.out z hz).1; show z.block ≠ Q; omega))⟩
              · have d1 : decide (k < n3) = false := decide_eq_false hlt
                have hltI : ¬ (k : Int) < (n3 : Int) := by omega
                have hall : (turned ss tu).take k = turned ss tu := List.take_of_length_le (by rw [turned_len]; have := HL3.out; omega)
                rw [hall] at hw
                obtain ⟨x3, k3, hv, i3, l3, m3, bb3, nn3⟩ := own_isS' hw.out
                have htl : (turned ss tu).length = n3 := by rw [turned_len]; exact HL3.out
                rw [htl] at hv i3 l3 hw
                subst hv
                have L3 := hid l3
                have M3 := hid m3
                have I3 := hid i3
                have W3 := hw
                obtain ⟨B4, hB4⟩ : ∃ B, wr.heap.size = B := ⟨_, rfl⟩
                have HX3 := hid (show ∀ z, x3 = some z → Q + 1 ≤ z.block ∧ z.block < B4 from fun z hz => by
                  subst hz
                  have hbk := own_block hw.out
                  have := HB3.out; exact ⟨by omega, by omega⟩)
                have HB4 := hid (show Q + 1 ≤ B4 by have := hO.out.bq.lt; omega)
                have J4 := hid (show B4 ≤ wr.heap.size by omega)
                clear l3 m3 i3 hw bb3 nn3 hall htl hB4
                go_wp2_with fail
                have hQl := hid hO.out.lt
                have hQb := hid hO.out.bq
                have hp9 := hid (HPol.out.below hb)
                have E1 := hid (bs_self X)
                have E2 := hid (bs_self Y)
                have E3 := hid (bs_self Z)
                have hq9 := hid (show PolW wr x1 n1 k1 (turned es tu) x2 n2 k2 (turned ats tu) x3 n3 k3 (turned ss tu) from
                  ⟨I1.out, I2.out, I3.out, L1.out, L2.out, L3.out, by have := M1.out; unfold maxLen at this; omega, by have := M2.out; unfold maxLen at this; omega, by have := M3.out; unfold maxLen at this; omega, sn1, sn2, sn3,
                    fun l hl => HPol.out.tx1 l ((turned_perm es tu).mem_iff.1 hl), fun l hl => HPol.out.tx2 l ((turned_perm ats tu).mem_iff.1 hl), fun l hl => HPol.out.tx3 l ((turned_perm ss tu).mem_iff.1 hl)⟩)
                have hTW := hid (url_below HT.out (b0.out.trans (hb.mono b0.out.size)))
                obtain ⟨F, hF⟩ : ∃ F, wr = F := ⟨_, rfl⟩
                have zX : X.data.toList.length ≤ 1000000 := by rw [size_list]; omega
                have zY : Y.data.toList.length ≤ 1000000 := by rw [size_list]; omega
                have zZ : Z.data.toList.length ≤ 1000000 := by rw [size_list]; omega
                obtain ⟨kb, hkb⟩ : ∃ kb, keepsB ats ss X.data.toList Y.data.toList Z.data.toList = kb := ⟨_, rfl⟩
                obtain ⟨ok, hok⟩ : ∃ ok, okB es ats ss = ok := ⟨_, rfl⟩
                obtain ⟨zc, hzc, z1, z2⟩ : ∃ zc : Int, chk ok = .returned (.int .u16 zc) ∧ 0 ≤ zc ∧ zc ≤ 50 := by
                  cases ok
                  · exact ⟨50, rfl, by omega, by omega⟩
                  · exact ⟨0, rfl, by omega, by omega⟩
                have KP := hid (fun V (hV : Below wr.heap.size wr V) => (keeps_any a1 n1 c1 es a2 n2 c2 ats a3 n3 c3 ss _ _ _ V (hp9.out.below hV) (url_below hTW.out hV) zX zY zZ).mono
                  fun e w' (hh : e = .returned (.bool (keepsB ats ss X.data.toList Y.data.toList Z.data.toList)) ∧ Below V.heap.size V w') => (⟨hh.1.trans (by rw [hkb]), hV.trans (hh.2.mono hV.size)⟩ : e = .returned (.bool kb) ∧ Below wr.heap.size wr w'))
                have KQ := hid (fun V (hV : Below wr.heap.size wr V) => (keeps_any x1 n1 k1 (turned es tu) x2 n2 k2 (turned ats tu) x3 n3 k3 (turned ss tu) _ _ _ V (hq9.out.below hV) (url_below hTW.out hV) zX zY zZ).mono
                  fun e w' (hh : e = .returned (.bool (keepsB (turned ats tu) (turned ss tu) X.data.toList Y.data.toList Z.data.toList)) ∧ Below V.heap.size V w') => (⟨hh.1.trans (by rw [← hkb, keeps_perm (turned_perm ats tu) (turned_perm ss tu)]), hV.trans (hh.2.mono hV.size)⟩ : e = .returned (.bool kb) ∧ Below wr.heap.size wr w'))
                have CP := hid (fun V (hV : Below wr.heap.size wr V) => (check_any a1 n1 c1 es a2 n2 c2 ats a3 n3 c3 ss V (hp9.out.below hV) (url_below hTW.out hV)).mono
                  fun e w' (hh : e = chk (okB es ats ss) ∧ Below V.heap.size V w') => (⟨hh.1.trans (by rw [hok, hzc]), hV.trans (hh.2.mono hV.size)⟩ : e = .returned (.int .u16 zc) ∧ Below wr.heap.size wr w'))
                have CQ := hid (fun V (hV : Below wr.heap.size wr V) => (check_any x1 n1 k1 (turned es tu) x2 n2 k2 (turned ats tu) x3 n3 k3 (turned ss tu) V (hq9.out.below hV) (url_below hTW.out hV)).mono
                  fun e w' (hh : e = chk (okB (turned es tu) (turned ats tu) (turned ss tu)) ∧ Below V.heap.size V w') => (⟨hh.1.trans (by rw [ok_perm (turned_perm es tu) (turned_perm ats tu) (turned_perm ss tu), hok, hzc]), hV.trans (hh.2.mono hV.size)⟩ : e = .returned (.int .u16 zc) ∧ Below wr.heap.size wr w'))
                have HKB := hid hkb
                have HN3K := hid hn3k
                rw [E1.out, E2.out, E3.out] at KP KQ
                have j0 : ∀ V, Below wr.heap.size wr V → V.cell? ⟨P, 0, none⟩ = some (.slice a1 n1 c1) := fun V hV => h0 V (hb.trans (hV.mono hb.size))
                have j1' : ∀ V, Below wr.heap.size wr V → V.cell? ⟨P, 1, none⟩ = some (.slice a2 n2 c2) := fun V hV => h1 V (hb.trans (hV.mono hb.size))
                have j2' : ∀ V, Below wr.heap.size wr V → V.cell? ⟨P, 2, none⟩ = some (.slice a3 n3 c3) := fun V hV => h2 V (hb.trans (hV.mono hb.size))
                have y0 : ∀ V, Below wr.heap.size wr V → V.cell? ⟨P + 1, 0, none⟩ = some (.string Y) := fun V hV => u0 V (hb.trans (hV.mono hb.size))
                have y1 : ∀ V, Below wr.heap.size wr V → V.cell? ⟨P + 1, 1, none⟩ = some (.string Z) := fun V hV => u1 V (hb.trans (hV.mono hb.size))
                have p0' : ∀ V, Below wr.heap.size wr V → V.cell? ⟨Q, 0, none⟩ = some (.slice x1 n1 k1) := fun V hV => (hQb.out.below hV hQb.out.lt).cell 0
                have p1' : ∀ V, Below wr.heap.size wr V → V.cell? ⟨Q, 1, none⟩ = some (.slice x2 n2 k2) := fun V hV => (hQb.out.below hV hQb.out.lt).cell 1
                have p2' : ∀ V, Below wr.heap.size wr V → V.cell? ⟨Q, 2, none⟩ = some (.slice x3 n3 k3) := fun V hV => (hQb.out.below hV hQb.out.lt).cell 2
                have f0 : Below wr.heap.size wr wr := Below.refl _ _
                have HB := hid hb
                have HZC := hid hzc
                have hzz : (zc != zc) = false := by simp
                have HU0 := hid u0
                have HU1 := hid u1
                clear hF hkb hok hzc hq h0 h1 h2 u0 u1 hb d1 hltI hlt hk
                refine (KP.out _ f0).mono ?_
                rintro e w4 ⟨rfl, f1⟩
                have hkk : (kb != kb) = false := by cases kb <;> rfl
                go_wp2_with fail
                go_region_held3 (fun w' => w'.cell? ⟨P, 0, none⟩ = some (.slice a1 n1 c1) ∧ w'.cell? ⟨P, 1, none⟩ = some (.slice a2 n2 c2) ∧ w'.cell? ⟨P, 2, none⟩ = some (.slice a3 n3 c3) ∧ w'.cell? ⟨P + 1, 0, none⟩ = some (.string Y) ∧ w'.cell? ⟨P + 1, 1, none⟩ = some (.string Z) ∧ w'.cell? ⟨Q, 0, none⟩ = some (.slice x1 n1 k1) ∧ w'.cell? ⟨Q, 1, none⟩ = some (.slice x2 n2 k2) ∧ w'.cell? ⟨Q, 2, none⟩ = some (.slice x3 n3 k3) ∧ Below wr.heap.size wr w')
                  (first | exact ⟨j0 _ (by assumption), j1' _ (by assumption), j2' _ (by assumption), y0 _ (by assumption), y1 _ (by assumption), p0' _ (by assumption), p1' _ (by assumption), p2' _ (by assumption), by assumption⟩ | exact ⟨j0 _ f1.drew, j1' _ f1.drew, j2' _ f1.drew, y0 _ f1.drew, y1 _ f1.drew, p0' _ f1.drew, p1' _ f1.drew, p2' _ f1.drew, f1.drew⟩)
                  (first
                    | (go_at_call 9; (with_reducible refine (CP.out _ (by first | assumption | exact f1.drew)).mono ?_); rintro e w5 ⟨rfl, f2⟩)
                    | (go_at_call 9; (with_reducible refine (CQ.out _ (by first | assumption | exact f1.drew)).mono ?_); rintro e w6 ⟨rfl, f3⟩)
                    | (go_at_call 15; (with_reducible refine (KQ.out _ (by first | assumption | exact f1.drew)).mono ?_); rintro e w7 ⟨rfl, f4⟩))
                have htl : (turned ss tu).length = n3 := by rw [turned_len]; exact HL3.out
                have own7 : w7.ownsRow B3 9 1 (.slice x3 n3 k3) (turned ss tu).length (strsL (turned ss tu)) := by rw [htl]; exact own_below W3.out f4
                have OWN7 := hid (own7.alloc (.cells #[.string ⟨#[109, 111, 114, 101]⟩] 9))
                have ORD7 := hid (((OrdW.mk HB.out hQb.out hQl.out).next f4).alloc (.cells #[.string ⟨#[109, 111, 114, 101]⟩] 9))
                have F4 := hid f4
                have HTL := hid htl
                have hlt3 : (turned ss tu).length ≤ 100000 := by omega
                have hbs7 : B3 ≤ (w7.alloc (.cells #[.string ⟨#[109, 111, 114, 101]⟩] 9)).heap.size := by have := J3.out; have := f4.size; simp; omega
                clear own7 htl
                go_wp2_with (at_builtin; refine append_S rfl _ _ rfl B3 _ (turned ss tu) rfl OWN7.out (some ⟨w7.heap.size, 0, none⟩) 1 1 [[109, 111, 114, 101]] rfl (isS_of_cells rfl (heap_alloc_new _ _) rfl) (fun e => by cases e) (by omega) hbs7 ?_)
                intro v8 w8 own8 gr8
                have own8 : Hid (w8.ownsRow B3 9 1 v8 (turned ss tu ++ [[109, 111, 114, 101]]).length (strsL (turned ss tu ++ [[109, 111, 114, 101]]))) := hid (by rw [List.length_append]; exact own8)
                obtain ⟨x8, k8, hv8, i8, l8, m8, bb8, nn8⟩ := own_isS' own8.out
                have hl8 : (turned ss tu ++ [[109, 111, 114, 101]]).length = n3 + 1 := by rw [List.length_append, HTL.out]; rfl
                rw [hl8] at hv8 i8 l8
                subst hv8
                have GE := hid (own_ge OWN7.out)
                have ORD8 := hid (ORD7.out.grown gr8 (fun z hz => by have := GE.out z hz; have := HB3.out; omega))
                have cq0 : w8.cell? ⟨Q, 0, none⟩ = some (.slice x1 n1 k1) := ORD8.out.bq.cell 0
                have cq1 : w8.cell? ⟨Q, 1, none⟩ = some (.slice x2 n2 k2) := ORD8.out.bq.cell 1
                have cq2 : w8.cell? ⟨Q, 2, none⟩ = some (.slice x3 n3 k3) := ORD8.out.bq.cell 2
                have fq2 : w8.frozen? ⟨Q, 2, none⟩ = false := ORD8.out.bq.free 2
                have cy0 : w8.cell? ⟨P + 1, 0, none⟩ = some (.string Y) := HU0.out w8 ORD8.out.below
                have cy1 : w8.cell? ⟨P + 1, 1, none⟩ = some (.string Z) := HU1.out w8 ORD8.out.below
                have hPW : P + 1 < W.heap.size := hb2.out.lt
                have hne1 : ¬ Q = P + 1 := by have := hQl.out; omega
                have hne2 : ¬ P + 1 = Q := by have := hQl.out; omega
                have ORD9 := hid (ORD8.out.set2 (.slice x8 (n3 + 1) k8))
                have BA := hid (Below.alloc (B := w7.heap.size) (Below.refl w7.heap.size w7) (Nat.le_refl _) (.cells #[.string ⟨#[109, 111, 114, 101]⟩] 9))
                have P9 := hid (show PolW (w8.setCell ⟨Q, 2, none⟩ (.slice x8 (n3 + 1) k8)) x1 n1 k1 (turned es tu) x2 n2 k2 (turned ats tu) x8 (n3 + 1) k8 (turned ss tu ++ [[109, 111, 114, 101]]) from
                  ⟨((((I1.out.below F4.out).below BA.out).grown gr8 GE.out (fun z hz => (HX1.out z hz).2)).set_ _ _ (fun z hz => by have := (HX1.out z hz).1; show z.block ≠ Q; omega)),
                    ((((I2.out.below F4.out).below BA.out).grown gr8 GE.out (fun z hz => (HX2.out z hz).2)).set_ _ _ (fun z hz => by have := (HX2.out z hz).1; show z.block ≠ Q; omega)),
                    i8.set_ _ _ (fun z hz => by have := bb8 z hz; have := HB3.out; show z.block ≠ Q; omega),
                    hq9.out.lc1, hq9.out.lc2, l8, hq9.out.cm1, hq9.out.cm2, by unfold maxLen at m8; omega, sn1, sn2, by have := HN3K.out; omega, hq9.out.tx1, hq9.out.tx2, fun l hl => by
                      rcases List.mem_append.1 hl with hl | hl
                      · exact hq9.out.tx3 l hl
                      · rw [List.mem_singleton.1 hl]; decide⟩)
                have KM := hid (fun (hh : keepsB ats ss X.data.toList Y.data.toList Z.data.toList = true) => show keepsB (turned ats tu) (turned ss tu ++ [[109, 111, 114, 101]]) X.data.toList Y.data.toList Z.data.toList = true from
                  keeps_mono (fun z hz => (turned_perm ats tu).mem_iff.2 hz) (fun z hz => List.mem_append.2 (.inl ((turned_perm ss tu).mem_iff.2 hz))) hh)
                have B9 := hid (b0.out.trans (ORD9.out.below.mono b0.out.size))
                have ZZ := hid (⟨zX, zY, zZ⟩ : X.data.toList.length ≤ 1000000 ∧ Y.data.toList.length ≤ 1000000 ∧ Z.data.toList.length ≤ 1000000)
                clear gr8 bb8 nn8 i8 l8 m8 hl8 f4 hPW j0 j1' j2' y0 y1 p0' p1' p2' f0 f1 f2 f3
                cases kb with
                | false =>
                  go_wp2
                  go_ret
                  exact ⟨rfl, B9.out⟩
                | true =>
                  have KK := keeps_any x1 n1 k1 (turned es tu) x2 n2 k2 (turned ats tu) x8 (n3 + 1) k8 (turned ss tu ++ [[109, 111, 114, 101]]) _ _ _ _ P9.out (url_below HT.out B9.out) ZZ.out.1 ZZ.out.2.1 ZZ.out.2.2
                  rw [KM.out HKB.out, E1.out, E2.out, E3.out] at KK
                  have KK := hid KK
                  go_wp2_with fail
                  refine KK.out.mono ?_
                  rintro e w9 ⟨rfl, j9⟩
                  have c9 := B9.out.trans (j9.mono B9.out.size)
                  go_wp2
                  go_ret
                  exact ⟨rfl, c9⟩
end Go.Proofs.YtpheaepifjcmiaaDoor.ruleOrder
