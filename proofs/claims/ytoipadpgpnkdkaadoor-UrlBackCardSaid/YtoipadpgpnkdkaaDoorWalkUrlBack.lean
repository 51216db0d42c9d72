/- The walk of the statement UrlBack. -/
import Derived.Test.YtoipadpgpnkdkaaDoorKnownU
import Derived.Test.YtoipadpgpnkdkaaDoorUrlBack
import Derived.Test.YtoipadpgpnkdkaaDoorRefByte
namespace Go.Proofs.YtoipadpgpnkdkaaDoor.urlBack
open Go.ChangeShapes Go.WideShapes Go.ChangeAt Go.RowKit Go.Lib
open Go.ChangeMaps (open_string shut_string)
set_option maxRecDepth 100000
set_option linter.unusedVariables false

theorem cat_list (X Y : ByteArray) : (X ++ Y).data.toList = X.data.toList ++ Y.data.toList := by
  rw [ByteArray.data_append]; simp
theorem one_byte (s : ByteArray) (k : Nat) (hk : k < s.size) : (s.extract k (k + 1)).data.toList = [s[k]'hk] := by
  rw [extract_data, show k + 1 - k = 1 by omega, List.drop_eq_getElem_cons (by rw [size_list]; exact hk)]
  rfl
/-- Behind k bytes. -/
def BareI (l : List UInt8) (k : Nat) (T : ByteArray) : Prop := T.data.toList = Url.bare (l.take k)
theorem BareI.le {l : List UInt8} {k : Nat} {T : ByteArray} (h : BareI l k T) : T.size ≤ l.length := by
  have h1 := Url.bare_le (l.take k)
  rw [← h, List.length_take, size_list] at h1
  omega
theorem BareI.keep {s : ByteArray} {k : Nat} {T X : ByteArray} (h : BareI s.data.toList k T) (hk : k < s.size) (hc : (s[k]'hk) ≠ 37) (hX : X.data.toList = [s[k]'hk]) : BareI s.data.toList (k + 1) (T ++ X) := by
  unfold BareI at h ⊢
  rw [List.take_succ_eq_append_getElem (by rw [size_list]; exact hk), cat_list, h, hX, Url.bare, Url.bare, List.filter_append]
  congr 1
  show _ = List.filter Url.bareB [s[k]'hk]
  simp [Url.bareB, hc]
theorem BareI.leave {s : ByteArray} {k : Nat} {T : ByteArray} (h : BareI s.data.toList k T) (hk : k < s.size) (hc : (s[k]'hk) = 37) : BareI s.data.toList (k + 1) T := by
  unfold BareI at h ⊢
  rw [List.take_succ_eq_append_getElem (by rw [size_list]; exact hk), h, Url.bare, Url.bare, List.filter_append]
  show _ = _ ++ List.filter Url.bareB [s[k]'hk]
  simp [Url.bareB, hc]
/-- Behind j bytes, taken back. -/
def BackI (l : List UInt8) (j : Nat) (O : ByteArray) : Prop := O.data.toList = l.take j
theorem BackI.next {l : List UInt8} {j : Nat} {O X : ByteArray} (h : BackI l j O) (hj : j < l.length) (hX : X.data.toList = [l[j]]) : BackI l (j + 1) (O ++ X) := by
  unfold BackI at h ⊢
  rw [cat_list, h, hX, List.take_succ_eq_append_getElem hj]
theorem BackI.size {l : List UInt8} {j : Nat} {O : ByteArray} (h : BackI l j O) : O.size ≤ l.length := by
  rw [← size_list, h, List.length_take]; omega
theorem at_of (T : ByteArray) {i : Nat} {c : UInt8} (h : T.data.toList[i]? = some c) : ∃ hi : i < T.size, (T[i]'hi) = c := by
  have hl := (List.getElem?_eq_some_iff.1 h).1
  rw [size_list] at hl
  refine ⟨hl, UInt8.toNat_inj.1 ?_⟩
  rw [get_of T i hl]
  exact U8.B_eq h
theorem conv_one (c : UInt8) (n : Nat) (hn : c.toNat = n) (w : World) : (convert 31 9 (.slice (some ⟨w.heap.size, 0, none⟩) 1 1)).run Tryd.prog (w.alloc (.cells #[.int .u8 (n : Nat)] 5 (0, 0))) = .ok (.string ⟨#[c]⟩) (w.alloc (.cells #[.int .u8 (n : Nat)] 5 (0, 0))) := by
  refine conv_bytes (l := [c]) ⟨rfl, .inr ⟨w.heap.size, 0, rfl, fun i hi => ?_⟩⟩ 1
  obtain rfl : i = 0 := by simp at hi; omega
  rw [Nat.zero_add, World.cell?_alloc_mark, ← hn]
  rfl
theorem conv_drew (c : UInt8) (n : Nat) (hn : c.toNat = n) (w : World) : (convert 31 9 (.slice (some ⟨w.heap.size, 0, none⟩) 1 1)).run Tryd.prog (w.alloc (.cells #[.int .u8 (n : Nat)] 5 (0, 0))).drew = .ok (.string ⟨#[c]⟩) (w.alloc (.cells #[.int .u8 (n : Nat)] 5 (0, 0))).drew :=
  conv_one c n hn w.drew

set_option maxHeartbeats 4000000 in
theorem walk (w : World) (hT : UrlW w) (s : ByteArray) (ws : s.size ≤ maxLen) :
    Calls Tryd.prog 8 #[.string s] w fun e w' => e = .returned (.bool true) ∧ Below w.heap.size w w' := by
  unfold maxLen at ws
  have HT := hid hT
  clear hT
  by_cases hs : 3000 < s.size
  · have hd : decide ((3000 : Int) < (s.size : Int)) = true := by simp; omega
    go_enter Tryd.func8, Tryd.ntmps8
    go_wp2_with fail
    refine (known4_any _ HT.out).mono ?_
    rintro e w1 ⟨rfl, b1⟩
    go_wp2
    go_ret
    exact ⟨rfl, b1⟩
  · have hd : decide ((3000 : Int) < (s.size : Int)) = false := by simp; omega
    have hsl := size_list s
    go_enter Tryd.func8, Tryd.ntmps8
    go_wp2_with fail
    refine (known4_any _ HT.out).mono ?_
    rintro e w1 ⟨rfl, b1⟩
    go_wp2
    go_loopg [3, 4] s.size (fun g tv iv wr => ∃ (k : Nat) (T : ByteArray), k + g = s.size ∧ iv = .int .i64 k ∧ tv = .string T ∧ Hid (BareI s.data.toList k T) ∧ w1 = wr)
    case atStart => exact ⟨0, ⟨#[]⟩, by omega, rfl, rfl, hid rfl, rfl⟩
    case round =>
      obtain ⟨k, T, hk, rfl, rfl, hI, rfl⟩ := hrel
      have hT1 := hI.out.le
      rw [hsl] at hT1
      by_cases hlt : k < s.size
      · have hX := one_byte s k hlt
        have hXs : (s.extract k (k + 1)).size = 1 := by rw [size_eq, hX]; rfl
        have d1 : decide (k < s.size) = true := decide_eq_true hlt
        obtain ⟨c, hc⟩ : ∃ c, (s[k]'hlt) = c := ⟨_, rfl⟩
        by_cases h37 : c.toNat = 37
        · have t0 : ((c.toNat : Int) != 37) = false := by rw [h37]; rfl
          have HN := hid (hI.out.leave hlt (by rw [hc]; exact UInt8.toNat_inj.1 h37))
          clear hX h37 hI hXs
          go_wp2
          go_roundg (s.size - (k + 1))
          case measure => omega
          case rel => exact ⟨k + 1, T, by omega, by go_num, rfl, HN, rfl⟩
        · have t0 : ((c.toNat : Int) != 37) = true := bne_iff_ne.2 (by omega)
          have HN := hid (hI.out.keep hlt (by rw [hc]; intro e; exact h37 (by rw [e]; rfl)) hX)
          have q1 : (k : Int) + 1 ≤ (s.size : Int) := by omega
          have q2 : (k : Int) ≤ (k : Int) + 1 := by omega
          have q3 : k + 1 ≤ s.size := by omega
          clear hX h37 hI
          go_wp2
          go_roundg (s.size - (k + 1))
          case measure => omega
          case rel => exact ⟨k + 1, _, by omega, by go_num, rfl, HN, rfl⟩
      · have d1 : decide (k < s.size) = false := decide_eq_false hlt
        have hTb : T.data.toList = Url.bare s.data.toList := by
          have := hI.out
          unfold BareI at this
          rwa [List.take_of_length_le (by rw [hsl]; omega)] at this
        have HE := fun w => escape_any T w (by omega)
        have hle := Url.esc_le T.data.toList
        rw [size_list] at hle
        obtain ⟨E, hE⟩ : ∃ E : ByteArray, E = ⟨(Url.esc T.data.toList).toArray⟩ := ⟨_, rfl⟩
        have hEl : E.data.toList = Url.esc T.data.toList := by rw [hE]
        have hEs : E.size ≤ 9000 := by rw [← size_list, hEl]; omega
        have hne : ∀ j (h : j < T.data.toList.length), T.data.toList[j] ≠ 37 := by
          intro j h
          have : ∀ c ∈ T.data.toList, c ≠ 37 := by
            rw [hTb]
            intro c hc
            have := (List.mem_filter.1 hc).2
            simpa [Url.bareB] using this
          exact this _ (List.getElem_mem h)
        rw [← hE] at HE
        have HE := hid HE
        have HEL := hid hEl
        have HNE := hid hne
        have hTsz := size_list T
        have HTS := hid hTsz
        clear hE hEl hne hTb hI hle
        go_wp2_with fail
        refine (HE.out _).mono ?_
        rintro e w2 ⟨rfl, b2⟩
        have c2 := b1.trans (b2.mono b1.size)
        clear b1 b2
        go_wp2
        go_loopg [6, 7] (T.size + 1) (fun g ov iv wr => ∃ (j i : Nat) (O : ByteArray), j + g = T.size + 1 ∧ Hid (i = Url.at_ T.data.toList j) ∧ iv = .int .i64 i ∧ ov = .string O ∧ Hid (BackI T.data.toList j O) ∧ Below w.heap.size w wr)
        case atStart => exact ⟨0, 0, ⟨#[]⟩, by omega, hid rfl, rfl, rfl, hid rfl, c2⟩
        case round =>
          obtain ⟨j, i, O, hj, hi, rfl, rfl, hO, cw⟩ := hrel
          have hOs := hO.out.size
          rw [hTsz] at hOs
          have hszr := cw.size
          by_cases hlj : j < T.data.toList.length
          · have hnl := HNE.out j hlj
            cases hm : Url.mayE T.data.toList[j] with
            | true =>
              obtain ⟨g1, g2, g3⟩ := Url.at_fine hlj hm
              rw [← hi.out, ← HEL.out] at g1
              obtain ⟨hiE, hiC⟩ := at_of E g1
              have hr := Url.mayE_range _ hm
              have hX := one_byte E i hiE
              have hXs : (E.extract i (i + 1)).size = 1 := by rw [size_eq, hX]; rfl
              have HN := hid (hO.out.next hlj (by rw [hX, hiC]))
              have HI2 := hid (show i + 1 = Url.at_ T.data.toList (j + 1) by rw [g2, ← hi.out])
              rw [← hiC] at hr hnl
              obtain ⟨c, hc⟩ : ∃ c, (E[i]'hiE) = c := ⟨_, rfl⟩
              rw [hc] at hr hnl
              have h37 : c.toNat ≠ 37 := fun e => hnl (UInt8.toNat_inj.1 e)
              obtain ⟨n, hn⟩ : ∃ n, c.toNat = n := ⟨_, rfl⟩
              rw [hn] at hr h37
              have d1 : decide (i < E.size) = true := decide_eq_true hiE
              have d2 : decide ((n : Int) ≤ 32) = false := decide_eq_false (by omega)
              have d3 : decide ((127 : Int) ≤ (n : Int)) = false := decide_eq_false (by omega)
              have t0 : ((n : Int) != 37) = true := bne_iff_ne.2 (by omega)
              have q1 : (i : Int) + 1 ≤ (E.size : Int) := by omega
              have q2 : (i : Int) ≤ (i : Int) + 1 := by omega
              have q3 : i + 1 ≤ E.size := by omega
              have hjT : j < T.size := by omega
              clear hX hm g1 g2 g3 hiC hr hnl h37 hi hO hlj
              go_wp2
              go_roundg (T.size + 1 - (j + 1))
              case measure => omega
              case rel => exact ⟨j + 1, i + 1, _, by omega, HI2, by go_num, rfl, HN, cw⟩
            | false =>
              obtain ⟨g1, g2, g3, g4, g5⟩ := Url.at_hex hlj hm
              rw [← hi.out, ← HEL.out] at g1 g2 g3
              have g5E : i + 3 ≤ E.size := by rw [← size_list, HEL.out, hi.out]; exact g5
              obtain ⟨hiE, hiC⟩ := at_of E g1
              obtain ⟨hiE1, hiC1⟩ := at_of E g2
              obtain ⟨hiE2, hiC2⟩ := at_of E g3
              obtain ⟨x, hx⟩ : ∃ x, T.data.toList[j] = x := ⟨_, rfl⟩
              rw [hx] at hiC1 hiC2
              have hx256 := x.toNat_lt
              have hX : (⟨#[x]⟩ : ByteArray).data.toList = [T.data.toList[j]] := by rw [hx]
              have HN := hid (hO.out.next hlj hX)
              have HI2 := hid (show i + 2 + 1 = Url.at_ T.data.toList (j + 1) by rw [g4, ← hi.out])
              have CV := hid (fun W => conv_drew x x.toNat rfl W)
              have r1 := Url.hexC_range (x.toNat / 16) (by omega)
              have r2 := Url.hexC_range (x.toNat % 16) (by omega)
              have H1 := fun W => rhex_any (Url.hexC (x.toNat / 16)).toNat (by omega) W
              have H2 := fun W => rhex_any (Url.hexC (x.toNat % 16)).toNat (by omega) W
              rw [r1.2.2] at H1
              rw [r2.2.2] at H2
              have hsum : 16 * (x.toNat / 16) + x.toNat % 16 = x.toNat := Nat.div_add_mod _ _
              have hu : x.toNat / 16 < 16 := by omega
              have hv : x.toNat % 16 < 16 := by omega
              obtain ⟨u, hue⟩ : ∃ u, x.toNat / 16 = u := ⟨_, rfl⟩
              obtain ⟨v, hve⟩ : ∃ v, x.toNat % 16 = v := ⟨_, rfl⟩
              rw [hue] at H1 hiC1 hsum hu
              rw [hve] at H2 hiC2 hsum hv
              obtain ⟨c1, hc1⟩ : ∃ c1, Url.hexC u = c1 := ⟨_, rfl⟩
              obtain ⟨c2, hc2⟩ : ∃ c2, Url.hexC v = c2 := ⟨_, rfl⟩
              rw [hc1] at H1 hiC1
              rw [hc2] at H2 hiC2
              have CV := CV.out
              obtain ⟨n, hn⟩ : ∃ n, x.toNat = n := ⟨_, rfl⟩
              rw [hn] at hsum hx256 CV
              have H1 := hid H1
              have H2 := hid H2
              obtain ⟨c0, hc0⟩ : ∃ c0, (E[i]'hiE) = c0 := ⟨_, rfl⟩
              rw [hc0] at hiC
              obtain ⟨n0, hn0⟩ : ∃ n0, c0.toNat = n0 := ⟨_, rfl⟩
              have hn37 : n0 = 37 := by rw [← hn0, hiC]; rfl
              have d1 : decide (i < E.size) = true := decide_eq_true hiE
              have d2 : decide ((n0 : Int) ≤ 32) = false := decide_eq_false (by omega)
              have d3 : decide ((127 : Int) ≤ (n0 : Int)) = false := decide_eq_false (by omega)
              have t0 : ((n0 : Int) != 37) = false := by rw [hn37]; rfl
              have d4 : decide ((E.size : Int) ≤ (i : Int) + 2) = false := decide_eq_false (by omega)
              have q1 : (i : Int) + 1 < (E.size : Int) := by omega
              have q2 : (i : Int) + 2 < (E.size : Int) := by omega
              have p1 : (0 : Int) ≤ (i : Int) + 1 := by omega
              have p2 : (0 : Int) ≤ (i : Int) + 2 := by omega
              have p3 : IntKind.i64.wrap ((i : Int) + 1) = (i : Int) + 1 := IntWalk.i64_in _ (by omega)
              have p4 : IntKind.i64.wrap ((i : Int) + 2) = (i : Int) + 2 := IntWalk.i64_in _ (by omega)
              have p5 : ((i : Int) + 1).toNat = i + 1 := by omega
              have p6 : ((i : Int) + 2).toNat = i + 2 := by omega
              have p7 : IntKind.i64.wrap (16 * (u : Int)) = 16 * (u : Int) := IntWalk.i64_in _ (by omega)
              have p8 : IntKind.i64.wrap (16 * (u : Int) + (v : Int)) = 16 * (u : Int) + (v : Int) := IntWalk.i64_in _ (by omega)
              have e1 : IntKind.u8.wrap (16 * (u : Int) + (v : Int)) = (n : Int) := by rw [IntWalk.u8_in _ (by omega)]; omega
              have hjT : j < T.size := by omega
              clear hX hm g1 g2 g3 g4 g5 hiC hnl hi hO hlj hue hve hc1 hc2 r1 r2 hx hn37 hn
              go_wp2
              go_region_with
                (first
                  | (go_at_call 18; with_reducible refine (H1.out _).mono ?_; rintro e wk ⟨rfl, rfl⟩)
                  | (go_at_call 18; with_reducible refine (H2.out _).mono ?_; rintro e wk ⟨rfl, rfl⟩))
              all_goals
                have cw2 := (cw.alloc hszr (.cells #[.int .u8 (n : Nat)] 5)).drew
                go_wp2
                go_roundg (T.size + 1 - (j + 1))
                case measure => omega
                case rel => exact ⟨j + 1, i + 2 + 1, _, by omega, HI2, by go_num, rfl, HN, cw2⟩
          · have hie : ¬ i < E.size := by
              rw [hi.out, Url.at_end _ (by omega), ← HEL.out, size_list]
              omega
            have hOT : O = T := by
              have h1 := hO.out
              unfold BackI at h1
              rw [List.take_of_length_le (by omega)] at h1
              rw [of_list O h1, of_list T rfl]
            have d1 : decide (i < E.size) = false := decide_eq_false hie
            have t0 : (O.toList == T.toList) = true := by rw [hOT]; simp
            clear hi hO hOT
            go_wp2
            go_ret
            exact ⟨ret_bool' (by first | exact t0 | simp), cw⟩
end Go.Proofs.YtoipadpgpnkdkaaDoor.urlBack
