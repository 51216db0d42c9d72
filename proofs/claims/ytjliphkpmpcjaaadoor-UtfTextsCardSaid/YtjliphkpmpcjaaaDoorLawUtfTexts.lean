/- The statement UtfTexts: whatever the input, the call returns true, and what came in reads as it read. No condition. Its walk, its row, and the card: the row's two listed variables are tied to the program's text. -/
import Derived.Test.YtjliphkpmpcjaaaDoorFrame
import Derived.Test.YtjliphkpmpcjaaaDoorBytes
namespace Go.Proofs.YtjliphkpmpcjaaaDoor.utfTexts
open Go.ChangeShapes Go.WideShapes Go.ChangeAt Go.RowKit Go.Lib
open Go.ChangeMaps (open_string shut_string)
set_option maxRecDepth 100000
set_option linter.unusedVariables false

set_option maxHeartbeats 1000000 in
theorem walk (w : World) (hT : Tabs w) (a : Option Addr) (len cap : Nat) (l : List UInt8) (hB : IsB w a len l) (hlc : len ≤ cap) (hm : cap ≤ maxLen) (hn : a = none → cap = 0) :
    Calls Tryd.prog 3 #[.slice a len cap] w fun e w' => e = .returned (.bool true) ∧ Below w.heap.size w w' := by
  unfold maxLen at hm
  by_cases hs : 20000 < len
  · have hd : decide ((20000 : Int) < (len : Int)) = true := by simp; omega
    clear hT hB hn
    go_enter Tryd.func3, Tryd.ntmps3
    go_wp2
    go_ret
    exact ⟨rfl, Below.refl _ _⟩
  · have hd : decide ((20000 : Int) < (len : Int)) = false := by simp; omega
    have HB := hid hB; have HN := hid hn; have HT := hid hT
    have hll := hB.1
    have HLL := hid hll
    have h1 : len ≤ 20000 := by omega
    clear hB hn hT hll
    go_enter Tryd.func3, Tryd.ntmps3
    go_wp2_with (at_builtin; refine append_in rfl _ _ rfl w.heap.size _ [] rfl (World.ownsRow_nil _ _ _ _) a len cap l rfl HB.out HN.out (by simp; omega) (Nat.le_refl _) ?_)
    intro v' w1 o1 g1
    have b1 := (Below.refl w.heap.size w).grown g1 (Nat.le_refl _) (own_ge (World.ownsRow_nil w w.heap.size 5 1))
    have o1' : w1.ownsRow w.heap.size 5 1 v' l.length (byteCells l) := by simpa using o1
    obtain ⟨a2, cap2, rfl, i2, q2, m2⟩ := own_isB o1'
    have h2 : l.length ≤ 4294967296 := by rw [HLL.out]; omega
    have HTx := hid (utext_any a2 l.length cap2 l w1 i2 h2 (Utf8Tabs_below HT.out b1))
    have HI2 := hid i2
    clear o1 g1 o1' i2
    go_wp2_with fail
    refine HTx.out.mono ?_
    rintro e w2 ⟨rfl, b2⟩
    have c2 := b1.trans (b2.mono b1.size)
    go_wp2_with fail
    refine (known_any w2 (Utf8Tabs_below HT.out c2)).mono ?_
    rintro e w3 ⟨rfl, b3⟩
    have c3 := c2.trans (b3.mono c2.size)
    have HI3 := hid (HB.out.below c3)
    go_wp2_with fail
    refine (rtext_any a len cap l w3 HI3.out hlc hm (by omega)).mono ?_
    rintro e w4 ⟨rfl, b4⟩
    have c4 := c3.trans (b4.mono c3.size)
    have HI4 := hid (HB.out.below c4)
    have d3 := b2.trans (b3.mono b2.size)
    have d4 := d3.trans (b4.mono d3.size)
    have HI24 := hid (HI2.out.below d4)
    clear b1 b2 b3 b4 c2 c3 d3 d4 HI2 HI3
    obtain ⟨T, hTT⟩ : ∃ T, (⟨(U8.text l).toArray⟩ : ByteArray) = T := ⟨_, rfl⟩
    rw [hTT]
    clear hTT HTx
    go_wp2_with fail
    refine (sameBytes_any cap2 cap w4 HI24.out HI4.out).mono ?_
    rintro e w5 ⟨rfl, rfl⟩
    go_wp2
    go_ret
    exact ⟨ret_bool' (by simp), c4⟩

theorem contract (H : Type) (enc : TypeId × Value → H) (W : World) (base : Nat) (args : Array Value) (ds gs : List (DataW H)) (before : List MemPlace)
    (hval0 : ∀ (j : Nat) t v, Tryd.f3.params[j]? = some t → args[j]? = some v → Value.okWide Tryd.prog W .any base t v)
    (hW : DataW.Whole enc Tryd.prog Tryd.f3.params.toList Rows.utfTextsSpec.vars false W args.toList ds gs before) (hL : laidMetH Tryd.prog Rows.utfTextsRow.laid W) :
    Calls Tryd.prog 3 args W fun e W' => ∃ v, e = .returned v ∧ Rows.utfTextsSpec.post enc Tryd.prog Tryd.f3 false true false false W args v W' := by
  have hval : ∀ (j : Nat) t v, Tryd.f3.params[j]? = some t → args[j]? = some v → Value.okWide Tryd.prog W .any base t v := hval0
  have hT : Tabs W := tabs_of_laid hL
  have hW' := hW
  obtain ⟨p, q, hA0, hV, rfl, hfz, hnd⟩ := hW
  have hA : DataW.TrodAll enc Tryd.prog W 0 (fun _ => true) true Tryd.f3.params.toList args.toList ds p := hA0
  rw [Tryd.params3] at hA hval
  obtain ⟨v0, vs0, d0, ds0, p0, q0, hargs, rfl, rfl, h0, r0⟩ := trodAll_cons hA
  obtain ⟨rfl, rfl, rfl⟩ := trodAll_nil r0
  obtain rfl : args = #[v0] := by cases args; simp_all
  obtain ⟨rfl, rfl⟩ := trodVars_none hV
  obtain ⟨a0, len0, cap0, rfl⟩ := okWide_slice Tryd.underlying22 (hval 0 22 v0 rfl rfl)
  have k0 := h0
  have lt0 : ∀ x ∈ p0, x.block < W.heap.size := by obtain ⟨m, hm⟩ := k0; exact DataW.trod_lt m _ _ _ hm
  obtain ⟨l0, w0, g0, m0, n0⟩ : ∃ l, IsB W a0 len0 l ∧ len0 ≤ cap0 ∧ cap0 ≤ maxLen ∧ (a0 = none → cap0 = 0) := by
    obtain ⟨fuel, hf⟩ := h0
    rcases open_ints Tryd.underlying22 Tryd.underlying5 (by kernel_rfl) hf with ⟨hcs, _⟩ | ⟨x, l, c, zs, hcs, _, hl, hm, hz, _, hcell, hwz⟩
    · simp [Value.cells] at hcs
      obtain ⟨rfl, rfl, rfl⟩ := hcs
      exact ⟨[], ⟨rfl, .inl rfl⟩, Nat.le_refl _, by unfold maxLen; omega, fun _ => rfl⟩
    · simp [Value.cells] at hcs
      obtain ⟨rfl, rfl, rfl⟩ := hcs
      exact ⟨_, isB_of_ints hl (by simpa using hz) hcell hwz, hl, hm, fun h => by cases h⟩
  clear hA0 hval0
  refine (walk W hT a0 len0 cap0 l0 w0 g0 m0 n0).mono fun e W' ⟨he, bel⟩ => ?_
  subst he
  exact ⟨_, rfl, _, _, _, [], _, [], hW', trodAll_mk1 (shut_bool Tryd.underlying4 _), (trodAll_cons_mk (Below.trod laidOut (by kernel_rfl) (of_decide_eq_true (by kernel_rfl)) k0 bel lt0) trodAll_mk0), rfl, bel.frame _, fun h => by cases h⟩

theorem reads (os : Os) {H : Type} (enc : TypeId × Value → H) : ∃ places, DataW.whole enc Tryd.prog ((laidWorld os).forCall (fun _ _ => 0) ⟨#[], #[.slice none 0 0], []⟩).memory Tryd.f3.params.toList Rows.utfTextsSpec.vars false (#[.slice none 0 0] : Array Value).toList 8 = some ([.nil], [], places) :=
  ⟨[], by kernel_rfl⟩

theorem lifted (os : Os) (started : os.Started) (H : Type) (enc : TypeId × Value → H) (F : Stop.Interp) :
    ReturnsInHanded {} Tryd.checked os 3 .any ((OpenSpec.ofChange Rows.utfTextsSpec).preRow enc Tryd.prog Tryd.f3 Rows.utfTextsRow.domain false Rows.utfTextsRow.laid) (((OpenSpec.ofChange Rows.utfTextsSpec).at F).post enc Tryd.prog Tryd.f3 false true false false) := by
  obtain ⟨places, hx⟩ := reads os enc
  refine returnsInHanded_of_row (C := Tryd.checked) (s := OpenSpec.ofChange Rows.utfTextsSpec) own started (by kernel_rfl) Tryd.func3
    (witness_row_at (enc := enc) (C := Tryd.checked) false (laidWorld os) #[.slice none 0 0] rfl (by kernel_rfl) (by kernel_rfl) (by kernel_rfl)
      (OpenSpec.preRow_of_cond 8 hx (by kernel_rfl) (fun k hk => by cases hk) (by kernel_rfl) (laid_met os _))) ?_
  intro W base args ds gs before hval hW _ _ _ hL _ _
  exact contract H enc W base args ds gs before hval hW hL

theorem said : Rows.UtfTextsSaid :=
  OpenClaim.holds_of_cond 3 Tryd.f3 rfl rfl rfl rfl rfl rfl rfl ⟨rfl, rfl, rfl, rfl, rfl⟩ rfl rfl rfl rfl rfl (by kernel_rfl) Tryd.func3 (by kernel_rfl)
    (of_decide_eq_true (by kernel_rfl)) (by unfold Func.isWrapper; first | (rw [if_pos (by decide +kernel)]; kernel_rfl) | (rw [if_neg (by decide +kernel)]; exact ⟨rfl, rfl⟩))
    (fun os started H enc _ F => by rw [OpenClaim.pre_eq_preRow]; exact lifted os started H enc F)

theorem asks (f : FuncId) (fn : Func) (hf : Tryd.pinned.checked.prog.funcNamed "tympan/tympanlaw01.UtfTexts" = some f) (hfn : Tryd.pinned.checked.prog.funcs[f]? = some fn) :
    false = Tryd.pinned.checked.prog.looks [] ∧ ∀ (j : Nat) t, fn.params[j]? = some t → Tryd.pinned.checked.prog.wantsStandIn t = false := by
  obtain rfl : f = 3 := Option.some.inj ((show Tryd.prog.funcNamed "tympan/tympanlaw01.UtfTexts" = some 3 by kernel_rfl).symm.trans hf) |>.symm
  obtain rfl : fn = Tryd.f3 := (Option.some.inj (Tryd.func3.symm.trans hfn)).symm
  refine ⟨by kernel_rfl, fun j t ht => ?_⟩
  rw [Tryd.params3] at ht
  have hm := Array.mem_of_getElem? ht
  obtain rfl : t = 22 := by simpa using hm
  exact (show Tryd.prog.wantsStandIn 22 = false by kernel_rfl)

/-- The card. -/
theorem card : Rows.UtfTextsCardSaid :=
  Claim7.holds_tied_plain_at .later [] _ _ _ _ said (fun _ h => by cases h) (by kernel_rfl) (fun _ h => by cases h) utfTexts_row_tie rfl ⟨rfl, rfl⟩ (by kernel_rfl) rfl asks (by kernel_rfl)
#print axioms card
end Go.Proofs.YtjliphkpmpcjaaaDoor.utfTexts
