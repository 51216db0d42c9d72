/- The walk of the statement NoteEnds. -/
import Derived.Test.YtinioghpghcdiaaDoorFrameN
import Derived.Test.YtinioghpghcdiaaDoorNoteRow
import Derived.Test.YtinioghpghcdiaaDoorNoteHas
namespace Go.Proofs.YtinioghpghcdiaaDoor.noteEnds
open Go.ChangeShapes Go.WideShapes Go.ChangeAt Go.RowKit Go.Lib
open Go.ChangeMaps (open_string shut_string)
set_option maxRecDepth 100000
set_option linter.unusedVariables false

theorem quiet_eq {P : Program} {f : FuncId} {args : Array Value} {w : World} {n : Nat} {v : Value}
    (h : Calls P f args (w.drewN n) fun e w' => e = .returned v ∧ w.drewN n = w') : Calls P f args (w.drewN n) fun e w'' => e = .returned v ∧ ∃ m, w'' = w.drewN m :=
  Calls.quiet_of_same (h.mono fun _ _ ⟨a, b⟩ => ⟨a, b.symm⟩)
theorem emp_no {t : List UInt8} (h : t ≠ []) : (bs t).toList.isEmpty = false := by
  rw [ByteArray.toList_eq]
  cases t with
  | nil => exact absurd rfl h
  | cons a r => rfl
theorem piece_has {l t : List UInt8} {n m a k : Nat} (h : a + k ≤ m) (ht : t = ((l.drop n).drop a).take k) (hm : m ≤ (l.drop n).length) : Note.hasB ((l.drop n).take m) t = true := by
  refine has_yes (k := a) (by rw [List.length_take]; omega) ?_
  rw [ht]
  unfold hasPrefix
  rw [List.isPrefixOf_iff_prefix, List.drop_take]
  refine ⟨(((l.drop n).drop a).take (m - a)).drop k, ?_⟩
  have : ((l.drop n).drop a).take k = (((l.drop n).drop a).take (m - a)).take k := by rw [List.take_take]; congr 1; omega
  rw [this, List.take_append_drop]
set_option maxHeartbeats 4000000 in
theorem walk (w : World) (hT : NoteW w) (s : ByteArray) (ws : s.size ≤ maxLen) (i : Int) (wi : (Lit.int .i64 i).wf = true) (cd : Bool) :
    Calls Tryd.prog 6 #[.string s, .int .i64 i, .bool cd] w fun e w' => e = .returned (.bool true) ∧ Below w.heap.size w w' := by
  unfold maxLen at ws
  have HT := hid hT
  have HK := hid known7_any
  have hi := Go.bounds_i64 wi
  by_cases hs : 3000 < s.size
  · have hd : decide ((3000 : Int) < (s.size : Int)) = true := by simp; omega
    clear hT hi
    go_enter Tryd.func6, Tryd.ntmps6
    go_wp2_with fail
    refine (HK.out _ HT.out).mono ?_
    rintro e w1 ⟨rfl, b1⟩
    go_wp2
    go_ret
    exact ⟨rfl, b1⟩
  have hd : decide ((3000 : Int) < (s.size : Int)) = false := by simp; omega
  have H1 := fun W => nbegins_any s i W (by omega) (by omega)
  have H2 := fun W h => nread_any s i cd W h (by omega) (by omega)
  have hsl := size_list s
  cases hb : begNI s.data.toList i with
  | false =>
    rw [hb] at H1
    unfold noteV at H2
    rw [if_neg (by rw [hb]; decide)] at H2
    unfold tokV at H2
    have d1 : (i == i) = true := by simp
    have H1 := hid H1
    have H2 := hid H2
    clear hT hb hi hsl
    go_enter Tryd.func6, Tryd.ntmps6
    go_wp2_with fail
    refine (HK.out _ HT.out).mono ?_
    rintro e w1 ⟨rfl, b1⟩
    have HT1 := hid (note_below HT.out b1)
    go_wp2_with fail
    refine (H1.out _).mono ?_
    rintro e w2 ⟨rfl, rfl⟩
    go_wp2_with fail
    refine (H2.out _ HT1.out).mono ?_
    rintro e w2 ⟨rfl, b2⟩
    have Z := BlkW.new w2 #[.int .u8 0, .string (bs []), .slice none 0 0, .bool false, .string (bs [])] 24
    have B := hid ((b1.trans (b2.mono b1.size)).alloc (b1.trans (b2.mono b1.size)).size (.cells #[.int .u8 0, .string (bs []), .slice none 0 0, .bool false, .string (bs [])] 24))
    have p0 := Z.cell 0
    simp only [List.getElem?_toArray, List.getElem?_cons_zero] at p0
    clear Z b1 b2
    go_wp2
    go_ret
    exact ⟨ret_bool' (by simp), B.out⟩
  | true =>
    have hin : 0 ≤ i := by
      have h := hb
      unfold begNI at h
      simp only [Bool.and_eq_true, decide_eq_true_eq] at h
      exact h.1
    obtain ⟨n, rfl⟩ : ∃ n : Nat, i = n := ⟨i.toNat, by omega⟩
    have hB := hb
    rw [begNI_nat] at hB
    obtain ⟨f1, f2, f3, a, k, f4, f5⟩ := Note.first_form cd hB
    have hlen : (s.data.toList.drop n).length = s.size - n := by rw [List.length_drop, hsl]
    obtain ⟨F, hF⟩ : ∃ F, Note.first (s.data.toList.drop n) cd = F := ⟨_, rfl⟩
    have hV := noteV_yes hb hF
    obtain ⟨K, t, m⟩ := F
    simp only [hF] at f1 f2 f3 f4 f5 hV
    obtain ⟨q, hq⟩ : ∃ q, n + m = q := ⟨_, rfl⟩
    rw [show (n : Int) + (m : Int) = (q : Int) by omega] at hV
    rw [hV] at H2
    rw [hb] at H1
    have d1 : decide ((q : Int) ≤ (n : Int) + 1) = false := decide_eq_false (by omega)
    have d1N : decide (q ≤ n + 1) = false := decide_eq_false (by omega)
    have d2 : decide ((s.size : Int) < (q : Int)) = false := decide_eq_false (by omega)
    have d2N : decide (s.size < q) = false := decide_eq_false (by omega)
    have k2 : (((K : Nat) : Int) == 2) = false := by rcases f3 with h | h | h | h <;> (rw [h]; rfl)
    have k3 : (((K : Nat) : Int) == 3) = false := by rcases f3 with h | h | h | h <;> (rw [h]; rfl)
    have k6 : (((K : Nat) : Int) == 6) = false := by rcases f3 with h | h | h | h <;> (rw [h]; rfl)
    have q1 : ((n : Int)).toNat = n := by omega
    have q2 : (0 : Int) ≤ (n : Int) := by omega
    have q3 : (n : Int) ≤ (q : Int) := by omega
    have q4 : (q : Int) ≤ (s.size : Int) := by omega
    have q5 : ((q : Int)).toNat = q := by omega
    have q6 : (0 : Int) ≤ (q : Int) := by omega
    have q7 : n ≤ q := by omega
    have q8 : q ≤ s.size := by omega
    have hn3 : n ≤ 3000 := by omega
    have hs3 : s.size ≤ 3000 := by omega
    have hw : IntKind.i64.wrap ((n : Int) + 1) = (n : Int) + 1 := IntWalk.i64_in _ (by omega)
    have d1W : decide ((q : Int) ≤ (n : Int)) = false := decide_eq_false (by omega)
    have hE : (s.extract n q).data.toList = (s.data.toList.drop n).take m := by rw [← ByteArray.toList_eq, ext_mid, show q - n = m by omega]
    have hH := piece_has f4 f5 (by omega)
    have htl : t.length ≤ 3000 := by rw [f5, List.length_take, List.length_drop]; omega
    obtain ⟨X, hX⟩ : ∃ X, bs t = X := ⟨_, rfl⟩
    have HN := fun W => nhas_any (s.extract n q) X W (by rw [← size_list, hE, List.length_take]; omega) (by rw [← hX, bs_size]; omega)
    rw [hE, show X.data.toList = t by rw [← hX]; rfl, hH] at HN
    rw [hX] at H2
    have H1 := hid H1
    have H2 := hid H2
    have HN := hid HN
    by_cases ht : t = []
    · have he : X.toList.isEmpty = true := by rw [← hX, ht, ByteArray.toList_eq]; rfl
      clear hT hb hi hsl hF hV hX hE hH f1 f2 f3 f4 f5 hlen htl hq hB ht HN hs
      go_enter Tryd.func6, Tryd.ntmps6
      go_wp2_with fail
      refine (HK.out _ HT.out).mono ?_
      rintro e w1 ⟨rfl, b1⟩
      have HT1 := hid (note_below HT.out b1)
      go_wp2_with fail
      refine (H1.out _).mono ?_
      rintro e w2 ⟨rfl, rfl⟩
      go_wp2_with fail
      refine (H2.out _ HT1.out).mono ?_
      rintro e w2 ⟨rfl, b2⟩
      have Z := BlkW.new w2 #[.int .u8 K, .string ⟨#[]⟩, .slice none 0 0, .bool false, .string X] 24
      have B := hid ((b1.trans (b2.mono b1.size)).alloc (b1.trans (b2.mono b1.size)).size (.cells #[.int .u8 K, .string ⟨#[]⟩, .slice none 0 0, .bool false, .string X] 24))
      have p0 := Z.cell 0
      have p4 := Z.cell 4
      simp only [List.getElem?_toArray, List.getElem?_cons_zero, List.getElem?_cons_succ] at p0 p4
      clear Z b1 b2
      go_wp2
      go_quiet (fail)
      go_wp2
      go_ret
      exact ⟨rfl, bel_drewN B.out _⟩
    · have he : X.toList.isEmpty = false := by rw [← hX]; exact emp_no ht
      clear hT hb hi hsl hF hV hX hE hH f1 f2 f3 f4 f5 hlen htl hq hB ht hs
      go_enter Tryd.func6, Tryd.ntmps6
      go_wp2_with fail
      refine (HK.out _ HT.out).mono ?_
      rintro e w1 ⟨rfl, b1⟩
      have HT1 := hid (note_below HT.out b1)
      go_wp2_with fail
      refine (H1.out _).mono ?_
      rintro e w2 ⟨rfl, rfl⟩
      go_wp2_with fail
      refine (H2.out _ HT1.out).mono ?_
      rintro e w2 ⟨rfl, b2⟩
      have Z := BlkW.new w2 #[.int .u8 K, .string ⟨#[]⟩, .slice none 0 0, .bool false, .string X] 24
      have B := hid ((b1.trans (b2.mono b1.size)).alloc (b1.trans (b2.mono b1.size)).size (.cells #[.int .u8 K, .string ⟨#[]⟩, .slice none 0 0, .bool false, .string X] 24))
      have p0 := Z.cell 0
      have p4 := Z.cell 4
      simp only [List.getElem?_toArray, List.getElem?_cons_zero, List.getElem?_cons_succ] at p0 p4
      clear Z b1 b2
      go_wp2
      go_quiet ((go_at_call 13; exact quiet_eq (HN.out _)))
      go_wp2
      go_ret
      exact ⟨rfl, bel_drewN B.out _⟩
end Go.Proofs.YtinioghpghcdiaaDoor.noteEnds
