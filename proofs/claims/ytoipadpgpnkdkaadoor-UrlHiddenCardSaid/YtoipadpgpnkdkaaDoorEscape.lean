/- Walks: package url, Escape. -/
import Derived.Test.YtoipadpgpnkdkaaDoorScheme
namespace Go.Proofs.YtoipadpgpnkdkaaDoor
open Go.RowKit Go.Lib
set_option maxRecDepth 100000
set_option linter.unusedVariables false

/-- Behind k bytes. -/
def EscI (l : List UInt8) (k : Nat) (acc : List UInt8) : Prop := acc = Url.esc (l.take k)
theorem EscI.start (l : List UInt8) : EscI l 0 [] := rfl
theorem EscI.next {s : ByteArray} {k : Nat} {acc : List UInt8} (h : EscI s.data.toList k acc) (hk : k < s.size) : EscI s.data.toList (k + 1) (acc ++ Url.escB (s[k]'hk)) := by
  unfold EscI at h ⊢
  rw [List.take_succ_eq_append_getElem (by rw [size_list]; exact hk), Url.esc_append, h]
  congr 1
  show _ = Url.escB _ ++ []
  rw [List.append_nil]
  rfl
theorem EscI.le {s : ByteArray} {k : Nat} {acc : List UInt8} (h : EscI s.data.toList k acc) : acc.length ≤ 3 * s.size := by
  have h1 := Url.esc_le (s.data.toList.take k)
  rw [← h, List.length_take, size_list] at h1
  omega
theorem EscI.done {s : ByteArray} {k : Nat} {acc : List UInt8} (h : EscI s.data.toList k acc) (hk : ¬ k < s.size) : acc = Url.esc s.data.toList := by
  unfold EscI at h
  rwa [List.take_of_length_le (by rw [size_list]; omega)] at h

theorem hex_at (i : Nat) (h : i < 16) (h' : i < (⟨#[48, 49, 50, 51, 52, 53, 54, 55, 56, 57, 65, 66, 67, 68, 69, 70]⟩ : ByteArray).size) : ((⟨#[48, 49, 50, 51, 52, 53, 54, 55, 56, 57, 65, 66, 67, 68, 69, 70]⟩ : ByteArray)[i]'h').toNat = (Url.hexC i).toNat := by
  have : ∀ n : Fin 16, ((⟨#[48, 49, 50, 51, 52, 53, 54, 55, 56, 57, 65, 66, 67, 68, 69, 70]⟩ : ByteArray)[n.val]'(n.isLt)).toNat = (Url.hexC n.val).toNat := by decide +kernel
  exact this ⟨i, h⟩

set_option maxHeartbeats 1000000 in
theorem escape_any (s : ByteArray) (w : World) (hs : s.size ≤ 4000000) :
    Calls Tryd.prog 14 #[.string s] w fun e w' => e = .returned (.string ⟨(Url.esc s.data.toList).toArray⟩) ∧ Below w.heap.size w w' := by
  go_enter Tryd.func14, Tryd.ntmps14
  go_wp2_with fail
  refine (standing_any _ _).mono ?_
  rintro e w1 ⟨rfl, rfl⟩
  have c1 := (Below.refl w.heap.size w).alloc (Nat.le_refl _) (.cells #[.string ⟨#[45, 95, 46, 43, 33, 42, 39, 40, 41, 44, 37, 35, 64, 63, 61, 59, 58, 47, 38, 36, 126]⟩] 9)
  have cell : (w.alloc (.cells #[.string ⟨#[45, 95, 46, 43, 33, 42, 39, 40, 41, 44, 37, 35, 64, 63, 61, 59, 58, 47, 38, 36, 126]⟩] 9)).cell? ⟨w.heap.size, 0, none⟩ = some (.string ⟨#[45, 95, 46, 43, 33, 42, 39, 40, 41, 44, 37, 35, 64, 63, 61, 59, 58, 47, 38, 36, 126]⟩) := by simp
  obtain ⟨W, hW⟩ : ∃ W, w.alloc (.cells #[.string ⟨#[45, 95, 46, 43, 33, 42, 39, 40, 41, 44, 37, 35, 64, 63, 61, 59, 58, 47, 38, 36, 126]⟩] 9) = W := ⟨_, rfl⟩
  have hsz0 : W.heap.size = w.heap.size + 1 := by rw [← hW]; simp
  obtain ⟨B, hB⟩ : ∃ B, w.heap.size = B := ⟨_, rfl⟩
  rw [hW] at cell c1 ⊢
  rw [hB] at cell hsz0 ⊢
  have HSZ := hid hsz0
  clear hW hsz0 hB
  go_wp2_with fail
  refine (Tryd.Builder_Grow_fresh W.heap.size W.heap.size s.size _ (Nat.le_refl _) (heap_alloc_new W _) (by simp) (by omega)).mono ?_
  rintro e W1 ⟨rfl, hBA, hb1⟩
  have hbel := ((Below.refl W.heap.size W).alloc (Nat.le_refl _) (.cells #[.pointer none, .slice none 0 0] 38)).trans hb1
  have hIs : IsBuilderF 38 5 W.heap.size W.heap.size (byteCells []) W1 := IsBuilderF.of (.inr hBA)
  have HF := hid (fun c V (hV : Below W.heap.size W V) => stands_any ⟨#[45, 95, 46, 43, 33, 42, 39, 40, 41, 44, 37, 35, 64, 63, 61, 59, 58, 47, 38, 36, 126]⟩ B c V ((hV.cell (p := ⟨B, 0, none⟩) (by rw [HSZ.out]; exact Nat.lt_succ_self B)).trans cell))
  clear hb1 hBA cell
  go_wp2
  go_loopg [13] s.size (fun g iv wr => ∃ (k : Nat) (acc : List UInt8), k + g = s.size ∧ iv = .int .i64 k ∧ Hid (EscI s.data.toList k acc) ∧ IsBuilderF 38 5 W.heap.size W.heap.size (byteCells acc) wr ∧ Below W.heap.size W wr)
  case atStart => exact ⟨0, [], by omega, rfl, hid (EscI.start _), hIs, hbel⟩
  case round =>
    obtain ⟨k, acc, hk, rfl, hI, hBu, hbw⟩ := hrel
    have hszr := hbw.size
    have hal := hI.out.le
    by_cases hlt : k < s.size
    · have d1 : decide (k < s.size) = true := decide_eq_true hlt
      have HF1 := HF.out (s[k]'hlt) _ hbw
      rw [stands_e] at HF1
      have HN0 := hI.out.next hlt
      have hx256 := (s[k]'hlt).toNat_lt
      cases hm : Url.mayE (s[k]'hlt) with
      | true =>
        rw [hm] at HF1
        have HN1 := HN0
        rw [Url.escB, if_pos hm] at HN1
        have hbc : byteCells acc ++ [Value.int .u8 (((s[k]'hlt).toNat : Nat) : Int)] = byteCells (acc ++ [s[k]'hlt]) := by rw [byteCells_append]; rfl
        obtain ⟨c, hc⟩ : ∃ c, (s[k]'hlt) = c := ⟨_, rfl⟩
        rw [hc] at HN1 HF1 hbc
        obtain ⟨n, hn⟩ : ∃ n, c.toNat = n := ⟨_, rfl⟩
        rw [hn] at HF1 hbc
        have HF1 := hid HF1
        have HN := hid HN1
        clear hm hI HN0 HN1
        go_wp2_with fail
        refine HF1.out.mono ?_
        rintro e w2 ⟨rfl, rfl⟩
        go_wp2_with fail
        refine (Tryd.Builder_WriteByte_k W.heap.size W.heap.size (byteCells acc) (n : Int) _ hBu (by rw [byteCells_length]; omega) hszr).mono ?_
        rintro e w3 ⟨rfl, hB3, hb3, _⟩
        rw [hbc] at hB3
        have hB3' := (Or.inr hB3 : IsBuilderF 38 5 W.heap.size W.heap.size (byteCells (acc ++ [c])) w3)
        have hbw3 := hbw.trans hb3
        clear hBu hB3 hb3 hbw
        go_wp2
        go_roundg (s.size - (k + 1))
        case measure => omega
        case rel => exact ⟨k + 1, acc ++ [c], by omega, by go_num, HN, hB3', hbw3⟩
      | false =>
        rw [hm] at HF1
        have HN1 := HN0
        rw [Url.escB, if_neg (by rw [hm]; decide)] at HN1
        obtain ⟨c, hc⟩ : ∃ c, (s[k]'hlt) = c := ⟨_, rfl⟩
        rw [hc] at HN1 HF1 hx256
        obtain ⟨n, hn⟩ : ∃ n, c.toNat = n := ⟨_, rfl⟩
        rw [hn] at HF1 HN1 hx256
        have HF1 := hid HF1
        have HN := hid HN1
        clear hm hI HN0 HN1
        go_wp2_with fail
        refine HF1.out.mono ?_
        rintro e w2 ⟨rfl, rfl⟩
        go_wp2_with fail
        refine (Tryd.Builder_WriteByte_k W.heap.size W.heap.size (byteCells acc) 37 _ hBu (by rw [byteCells_length]; omega) hszr).mono ?_
        rintro e w3 ⟨rfl, hB3, hb3, _⟩
        have hbw3 := hbw.trans hb3
        clear hb3 hbw
        go_wp2_with fail
        refine (Tryd.Builder_WriteByte_k W.heap.size W.heap.size _ _ w3 (.inr hB3) (by rw [List.length_append, byteCells_length]; simp; omega) hbw3.size).mono ?_
        rintro e w4 ⟨rfl, hB4, hb4, _⟩
        rw [hex_at _ (by omega)] at hB4
        have hbw4 := hbw3.trans hb4
        clear hB3 hb4 hbw3
        go_wp2_with fail
        refine (Tryd.Builder_WriteByte_k W.heap.size W.heap.size _ _ w4 (.inr hB4) (by simp only [List.length_append, byteCells_length, List.length_cons, List.length_nil]; omega) hbw4.size).mono ?_
        rintro e w5 ⟨rfl, hB5, hb5, _⟩
        rw [hex_at _ (by omega)] at hB5
        have hbc : byteCells acc ++ [Value.int .u8 37] ++ [Value.int .u8 ((Url.hexC (n / 16)).toNat : Nat)] ++ [Value.int .u8 ((Url.hexC (n % 16)).toNat : Nat)] = byteCells (acc ++ [37, Url.hexC (n / 16), Url.hexC (n % 16)]) := by
          rw [byteCells_append]
          simp [byteCells]
        rw [hbc] at hB5
        have hB5' := (Or.inr hB5 : IsBuilderF 38 5 W.heap.size W.heap.size (byteCells (acc ++ [37, Url.hexC (n / 16), Url.hexC (n % 16)])) w5)
        have hbw5 := hbw4.trans hb5
        clear hB4 hb5 hbw4 hBu hB5 hbc
        go_wp2
        go_roundg (s.size - (k + 1))
        case measure => omega
        case rel => exact ⟨k + 1, _, by omega, by go_num, HN, hB5', hbw5⟩
    · have HX := hid (hI.out.done hlt)
      have d1 : decide (k < s.size) = false := decide_eq_false hlt
      clear hI
      go_wp2_with fail
      refine (Tryd.Builder_String_any_k W.heap.size W.heap.size acc _ hBu hszr).mono ?_
      rintro e w3 ⟨rfl, _, b3, _⟩
      have hb3 := hid (c1.trans ((hbw.trans b3).mono c1.size))
      clear hBu b3 hbw
      go_wp2
      go_ret
      exact ⟨congrArg (fun x : List UInt8 => Ending.returned (.string ⟨x.toArray⟩)) HX.out, hb3.out⟩
end Go.Proofs.YtoipadpgpnkdkaaDoor
