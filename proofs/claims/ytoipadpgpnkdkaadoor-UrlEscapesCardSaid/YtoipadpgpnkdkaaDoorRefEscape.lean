/- Walks over the reference of layer 4: Escape. -/
import Derived.Test.YtoipadpgpnkdkaaDoorRefStrip
import Derived.Test.YtoipadpgpnkdkaaDoorStep
import Derived.IntWalk
namespace Go.Proofs.YtoipadpgpnkdkaaDoor
open Go.RowKit Go.Lib
set_option maxRecDepth 100000
set_option linter.unusedVariables false

/-- Behind k bytes. -/
def REscI (l : List UInt8) (k : Nat) (acc : List UInt8) : Prop := acc = Url.esc (l.take k)
theorem REscI.next {s : ByteArray} {k : Nat} {acc : List UInt8} (h : REscI s.data.toList k acc) (hk : k < s.size) : REscI s.data.toList (k + 1) (acc ++ Url.escB (s[k]'hk)) := by
  unfold REscI at h ⊢
  rw [List.take_succ_eq_append_getElem (by rw [size_list]; exact hk), Url.esc_append, h]
  congr 1
  show _ = Url.escB _ ++ []
  rw [List.append_nil]
  rfl
theorem REscI.le {s : ByteArray} {k : Nat} {acc : List UInt8} (h : REscI s.data.toList k acc) : acc.length ≤ 3 * s.size := by
  have h1 := Url.esc_le (s.data.toList.take k)
  rw [← h, List.length_take, size_list] at h1
  omega
theorem REscI.done {s : ByteArray} {k : Nat} {acc : List UInt8} (h : REscI s.data.toList k acc) (hk : ¬ k < s.size) : acc = Url.esc s.data.toList := by
  unfold REscI at h
  rwa [List.take_of_length_le (by rw [size_list]; omega)] at h
theorem rhex_at (i : Nat) (h : i < 16) (h' : i < (⟨#[48, 49, 50, 51, 52, 53, 54, 55, 56, 57, 65, 66, 67, 68, 69, 70]⟩ : ByteArray).size) : ((⟨#[48, 49, 50, 51, 52, 53, 54, 55, 56, 57, 65, 66, 67, 68, 69, 70]⟩ : ByteArray)[i]'h').toNat = (Url.hexC i).toNat := by
  have : ∀ n : Fin 16, ((⟨#[48, 49, 50, 51, 52, 53, 54, 55, 56, 57, 65, 66, 67, 68, 69, 70]⟩ : ByteArray)[n.val]'(n.isLt)).toNat = (Url.hexC n.val).toNat := by decide +kernel
  exact this ⟨i, h⟩
theorem take_fine (k n x : Nat) (h : Url.fine[k]? = some x) : (Url.fine.take (k + 1)).contains n = ((Url.fine.take k).contains n || (x == n)) := by
  rw [List.take_add_one, h]
  generalize Url.fine.take k = L
  rw [Bool.eq_iff_iff, List.contains_iff_mem, Bool.or_eq_true, List.contains_iff_mem, List.mem_append, beq_iff_eq]
  constructor
  · rintro (h1 | h1)
    · exact .inl h1
    · exact .inr (List.mem_singleton.1 h1).symm
  · rintro (h1 | h1)
    · exact .inl h1
    · exact .inr (List.mem_singleton.2 h1.symm)
theorem fine_get : ∀ j : Fin 21, Url.fine[j.val]? = some ((⟨#[45, 95, 46, 43, 33, 42, 39, 40, 41, 44, 37, 35, 64, 63, 61, 59, 58, 47, 38, 36, 126]⟩ : ByteArray)[j.val]'(j.isLt)).toNat := by decide +kernel
theorem fine_at (k n : Nat) (h : k < 21) (h' : k < (⟨#[45, 95, 46, 43, 33, 42, 39, 40, 41, 44, 37, 35, 64, 63, 61, 59, 58, 47, 38, 36, 126]⟩ : ByteArray).size) : (Url.fine.take (k + 1)).contains n = ((Url.fine.take k).contains n || (((⟨#[45, 95, 46, 43, 33, 42, 39, 40, 41, 44, 37, 35, 64, 63, 61, 59, 58, 47, 38, 36, 126]⟩ : ByteArray)[k]'h').toNat == n)) :=
  take_fine k n _ (fine_get ⟨k, h⟩)

set_option maxHeartbeats 2000000 in
theorem rescape_any (s : ByteArray) (w : World) (hs : s.size ≤ 4000000) :
    Calls Tryd.prog 15 #[.string s] w fun e w' => e = .returned (.string ⟨(Url.esc s.data.toList).toArray⟩) ∧ Below w.heap.size w w' := by
  go_enter Tryd.func15, Tryd.ntmps15
  go_wp2
  go_loopg [3, 4] s.size (fun g v iv wr => ∃ (k : Nat) (acc : List UInt8), k + g = s.size ∧ iv = .int .i64 k ∧ wr.ownsRow w.heap.size 5 1 v acc.length (byteCells acc) ∧ Below w.heap.size w wr ∧ Hid (REscI s.data.toList k acc))
  case atStart => exact ⟨0, [], by omega, rfl, World.ownsRow_nil _ _ _ _, Below.refl _ _, hid rfl⟩
  case round =>
    obtain ⟨k, acc, hk, rfl, hown, hbw, hI⟩ := hrel
    have hacc := hI.out.le
    have hszr := hbw.size
    by_cases hlt : k < s.size
    · have d1 : decide (k < s.size) = true := decide_eq_true hlt
      have hx256 := (s[k]'hlt).toNat_lt
      have HN0 := hI.out.next hlt
      obtain ⟨c, hc⟩ : ∃ c, (s[k]'hlt) = c := ⟨_, rfl⟩
      rw [hc] at HN0 hx256
      have hm : Url.mayE c = (letterN c.toNat || digitN c.toNat || Url.fine.contains c.toNat) := rfl
      have H1 := fun w => rletter_any c.toNat (by omega) w
      have H2 := fun w => rdigit_any c.toNat (by omega) w
      obtain ⟨n, hn⟩ : ∃ n, c.toNat = n := ⟨_, rfl⟩
      rw [hn] at H1 H2 hm hx256
      have HN0 := hid HN0
      have HM := hid hm
      have HNN := hid hn
      have HCN := hid (show #[Value.int .u8 (n : Nat)] = (byteCells [c]).toArray by simp [byteCells, hn])
      clear hm hI
      cases hl : letterN n with
      | true =>
        have HN := hid (show REscI s.data.toList (k + 1) (acc ++ [c]) by
          have h1 := HN0.out
          rwa [Url.escB, if_pos (by rw [HM.out, hl]; rfl)] at h1)
        rw [hl] at H1
        have H1 := hid H1
        clear hl H2
        go_wp2_with fail
        refine (H1.out _).mono ?_
        rintro e w4 ⟨rfl, rfl⟩
        go_wp2
        go_loopg [6, 7] 21 (fun g ov jv wx => ∃ j : Nat, j + g = 21 ∧ jv = .int .i64 j ∧ ov = .bool true ∧ wr = wx)
        case atStart => exact ⟨0, by omega, rfl, rfl, rfl⟩
        case round =>
          obtain ⟨j, hj, rfl, rfl, rfl⟩ := hrel
          by_cases hj21 : j < 21
          · have d3 : decide (j < 21) = true := decide_eq_true hj21
            go_wp2
            go_roundg (21 - (j + 1))
            case measure => omega
            case rel => exact ⟨j + 1, by omega, by go_num, rfl, rfl⟩
          · have d3 : decide (j < 21) = false := decide_eq_false hj21
            have HL := hid (show (acc ++ [c]).length = acc.length + 1 by simp)
            go_wp2_with (at_builtin; refine append_bytes rfl _ _ rfl w.heap.size _ acc rfl (hown.alloc _) ⟨wr.heap.size, 0, none⟩ 1 1 [c] rfl rfl (new_bytes wr [c] _ (0, 0) HCN.out) (by omega) (by simp; omega) ?_)
            intro v' w' hown2 hgr
            have hown3 : w'.ownsRow w.heap.size 5 1 v' (acc ++ [c]).length (byteCells (acc ++ [c])) := by rw [HL.out]; exact hown2
            have hbw3 := (hbw.alloc hszr _).grown hgr (by simp; omega) (own_ge (hown.alloc (.cells #[] 0)))
            clear hown2 hgr hown hbw
            go_wp2
            go_roundg (s.size - (k + 1))
            case measure => omega
            case rel => exact ⟨k + 1, acc ++ [c], by omega, by go_num, hown3, hbw3, HN⟩
      | false =>
        cases hd : digitN n with
        | true =>
          have HN := hid (show REscI s.data.toList (k + 1) (acc ++ [c]) by
            have h1 := HN0.out
            rwa [Url.escB, if_pos (by rw [HM.out, hl, hd]; rfl)] at h1)
          rw [hl] at H1
          rw [hd] at H2
          have H1 := hid H1
          have H2 := hid H2
          clear hl hd
          go_wp2_with fail
          refine (H1.out _).mono ?_
          rintro e w4 ⟨rfl, rfl⟩
          go_wp2_with fail
          refine (H2.out _).mono ?_
          rintro e w4 ⟨rfl, rfl⟩
          go_wp2
          go_loopg [6, 7] 21 (fun g ov jv wx => ∃ j : Nat, j + g = 21 ∧ jv = .int .i64 j ∧ ov = .bool true ∧ wr = wx)
          case atStart => exact ⟨0, by omega, rfl, rfl, rfl⟩
          case round =>
            obtain ⟨j, hj, rfl, rfl, rfl⟩ := hrel
            by_cases hj21 : j < 21
            · have d3 : decide (j < 21) = true := decide_eq_true hj21
              go_wp2
              go_roundg (21 - (j + 1))
              case measure => omega
              case rel => exact ⟨j + 1, by omega, by go_num, rfl, rfl⟩
            · have d3 : decide (j < 21) = false := decide_eq_false hj21
              have HL := hid (show (acc ++ [c]).length = acc.length + 1 by simp)
              go_wp2_with (at_builtin; refine append_bytes rfl _ _ rfl w.heap.size _ acc rfl (hown.alloc _) ⟨wr.heap.size, 0, none⟩ 1 1 [c] rfl rfl (new_bytes wr [c] _ (0, 0) HCN.out) (by omega) (by simp; omega) ?_)
              intro v' w' hown2 hgr
              have hown3 : w'.ownsRow w.heap.size 5 1 v' (acc ++ [c]).length (byteCells (acc ++ [c])) := by rw [HL.out]; exact hown2
              have hbw3 := (hbw.alloc hszr _).grown hgr (by simp; omega) (own_ge (hown.alloc (.cells #[] 0)))
              clear hown2 hgr hown hbw
              go_wp2
              go_roundg (s.size - (k + 1))
              case measure => omega
              case rel => exact ⟨k + 1, acc ++ [c], by omega, by go_num, hown3, hbw3, HN⟩
        | false =>
          rw [hl] at H1
          rw [hd] at H2
          have H1 := hid H1
          have H2 := hid H2
          go_wp2_with fail
          refine (H1.out _).mono ?_
          rintro e w4 ⟨rfl, rfl⟩
          go_wp2_with fail
          refine (H2.out _).mono ?_
          rintro e w4 ⟨rfl, rfl⟩
          go_wp2
          go_loopg [6, 7] 21 (fun g ov jv wx => ∃ (j : Nat) (b : Bool), j + g = 21 ∧ jv = .int .i64 j ∧ ov = .bool b ∧ Hid (b = (Url.fine.take j).contains n) ∧ wr = wx)
          case atStart => exact ⟨0, false, by omega, rfl, rfl, hid rfl, rfl⟩
          case round =>
            obtain ⟨j, b, hj, rfl, rfl, hb, rfl⟩ := hrel
            by_cases hj21 : j < 21
            · have d3 : decide (j < 21) = true := decide_eq_true hj21
              have HF := hid (fun h' => fine_at j n hj21 h')
              cases b with
              | true =>
                have HB := hid (show true = (Url.fine.take (j + 1)).contains n by rw [HF.out (by exact hj21), ← hb.out]; rfl)
                clear hb
                go_wp2
                go_roundg (21 - (j + 1))
                case measure => omega
                case rel => exact ⟨j + 1, true, by omega, by go_num, rfl, HB, rfl⟩
              | false =>
                have HB := hid (fun h' => show _ = (Url.fine.take (j + 1)).contains n by rw [HF.out h', ← hb.out])
                clear hb
                go_wp2
                go_roundg (21 - (j + 1))
                case measure => omega
                case rel => exact ⟨j + 1, _, by omega, by go_num, rfl, hid (by rw [← HB.out (by exact hj21), Bool.eq_iff_iff, Bool.or_eq_true, beq_iff_eq, beq_iff_eq]; simpa using Int.ofNat_inj), rfl⟩
            · have d3 : decide (j < 21) = false := decide_eq_false hj21
              have hj2 : j = 21 := by omega
              have hbf : b = Url.fine.contains n := by rw [hb.out, hj2]; rfl
              cases b with
              | true =>
                have HN := hid (show REscI s.data.toList (k + 1) (acc ++ [c]) by
                  have h1 := HN0.out
                  rwa [Url.escB, if_pos (by rw [HM.out, ← hbf]; simp)] at h1)
                clear hb hbf hj2
                have HL := hid (show (acc ++ [c]).length = acc.length + 1 by simp)
                go_wp2_with (at_builtin; refine append_bytes rfl _ _ rfl w.heap.size _ acc rfl (hown.alloc _) ⟨wr.heap.size, 0, none⟩ 1 1 [c] rfl rfl (new_bytes wr [c] _ (0, 0) HCN.out) (by omega) (by simp; omega) ?_)
                intro v' w' hown2 hgr
                have hown3 : w'.ownsRow w.heap.size 5 1 v' (acc ++ [c]).length (byteCells (acc ++ [c])) := by rw [HL.out]; exact hown2
                have hbw3 := (hbw.alloc hszr _).grown hgr (by simp; omega) (own_ge (hown.alloc (.cells #[] 0)))
                clear hown2 hgr hown hbw
                go_wp2
                go_roundg (s.size - (k + 1))
                case measure => omega
                case rel => exact ⟨k + 1, acc ++ [c], by omega, by go_num, hown3, hbw3, HN⟩
              | false =>
                have HN := hid (show REscI s.data.toList (k + 1) (acc ++ [37, Url.hexC (n / 16), Url.hexC (n % 16)]) by
                  have h1 := HN0.out
                  rw [Url.escB, if_neg (by rw [HM.out, ← hbf, hl, hd]; decide)] at h1
                  rw [← HNN.out]
                  exact h1)
                clear hb hbf hj2 hl hd
                have b2 : Below wr.heap.size wr wr.drew := (Below.refl wr.heap.size wr).drew
                have hown' := own_below hown b2
                have hbw' := hbw.trans (b2.mono hszr)
                have x1 : n / 16 < 16 := by omega
                have x2 : n % 16 < 16 := by omega
                have HCH := hid (fun (h1 : n / 16 < (⟨#[48, 49, 50, 51, 52, 53, 54, 55, 56, 57, 65, 66, 67, 68, 69, 70]⟩ : ByteArray).size) (h2 : n % 16 < (⟨#[48, 49, 50, 51, 52, 53, 54, 55, 56, 57, 65, 66, 67, 68, 69, 70]⟩ : ByteArray).size) => show #[Value.int .u8 37, Value.int .u8 (((⟨#[48, 49, 50, 51, 52, 53, 54, 55, 56, 57, 65, 66, 67, 68, 69, 70]⟩ : ByteArray)[n / 16]'h1).toNat : Nat), Value.int .u8 (((⟨#[48, 49, 50, 51, 52, 53, 54, 55, 56, 57, 65, 66, 67, 68, 69, 70]⟩ : ByteArray)[n % 16]'h2).toNat : Nat)] = (byteCells [37, Url.hexC (n / 16), Url.hexC (n % 16)]).toArray by rw [rhex_at _ x1, rhex_at _ x2]; simp [byteCells])
                have HL := hid (show (acc ++ [37, Url.hexC (n / 16), Url.hexC (n % 16)]).length = acc.length + 3 by simp)
                have i1 : (0 : Int) ≤ (n : Int) / 16 := by omega
                have i2 : (n : Int) / 16 < 16 := by omega
                have i3 : (0 : Int) ≤ (n : Int) % 16 := by omega
                have i4 : (n : Int) % 16 < 16 := by omega
                have i5 : ((n : Int) / 16).toNat = n / 16 := by omega
                have i6 : ((n : Int) % 16).toNat = n % 16 := by omega
                have q1 : IntKind.u8.wrap ((n : Int) / 16) = (n : Int) / 16 := IntWalk.u8_in _ (by omega)
                have q3 : (n : Int).tmod 16 = (n : Int) % 16 := IntWalk.rem_in _ _ (by omega)
                have HOW := hid hown'
                have HBW := hid hbw'
                clear hown' hbw' hown hbw b2
                go_wp2
                go_region_law (refine step_bytes rfl _ _ rfl w.heap.size _ acc rfl (HOW.out.alloc _) ⟨wr.drew.heap.size, 0, none⟩ 3 3 [37, Url.hexC (n / 16), Url.hexC (n % 16)] rfl rfl (new_bytes wr.drew _ _ (0, 0) (HCH.out _ _)) (by omega) (by simp; omega) ?_; intro v' w' hown2 hgr; have hown3 : w'.ownsRow w.heap.size 5 1 v' (acc ++ [37, Url.hexC (n / 16), Url.hexC (n % 16)]).length (byteCells (acc ++ [37, Url.hexC (n / 16), Url.hexC (n % 16)])) := hown2; have hbw3 := (HBW.out.alloc hszr _).grown hgr (by simp; omega) (own_ge (HOW.out.alloc (.cells #[] 0))); clear hown2 hgr)
                all_goals
                  go_wp2
                  go_roundg (s.size - (k + 1))
                  case measure => omega
                  case rel => exact ⟨k + 1, _, by omega, by go_num, hown3, hbw3, HN⟩
    · have hcv := conv_own hown
      have HX := hid (hI.out.done hlt)
      have d1 : decide (k < s.size) = false := decide_eq_false hlt
      clear hI
      go_wp2
      go_ret
      exact ⟨congrArg (fun x : List UInt8 => Ending.returned (.string ⟨x.toArray⟩)) HX.out, hbw⟩
end Go.Proofs.YtoipadpgpnkdkaaDoor
