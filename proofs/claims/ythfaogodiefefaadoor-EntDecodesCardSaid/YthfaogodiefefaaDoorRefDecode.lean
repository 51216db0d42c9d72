/- Walks over the reference of layer 3: Decode. -/
import Derived.Test.YthfaogodiefefaaDoorRefOne
import Derived.Deep.LoopGhost
namespace Go.Proofs.YthfaogodiefefaaDoor
open Go.RowKit Go.Lib Ent
set_option maxRecDepth 100000
set_option linter.unusedVariables false

theorem bytes_eq {X : ByteArray} {l : List UInt8} (h : X.data.toList = l) : X = ⟨l.toArray⟩ := by
  apply ByteArray.ext; apply Array.ext'; exact h
/-- What is written, and what is left. -/
def DcI (attr : Bool) (L : List UInt8) (X S : ByteArray) : Prop := X.data.toList ++ Ent.decode attr S.data.toList = Ent.decode attr L
theorem dc_len {attr : Bool} {L : List UInt8} {X S : ByteArray} (h : DcI attr L X S) : X.size ≤ 7 * L.length := by
  have h1 := Ent.decode_le attr L
  unfold DcI at h
  rw [← h, List.length_append, size_list] at h1
  omega
theorem dc_other {attr : Bool} {L : List UInt8} {X S : ByteArray} (h : DcI attr L X S) (hp : 0 < S.size) (hc : U8.B S.data.toList 0 ≠ 38) : DcI attr L (X ++ S.extract 0 1) (S.extract 1 S.size) := by
  unfold DcI at h ⊢
  rw [cat_list, extract_list, extract_drop]
  cases hl : S.data.toList with
  | nil => rw [size_eq, hl] at hp; simp at hp
  | cons a r =>
    rw [hl] at h hc
    have ha : a ≠ 38 := fun e => hc (by rw [e]; rfl)
    rw [Ent.decode_other attr a r ha] at h
    rw [← h]
    simp
theorem dc_amp {attr : Bool} {L q : List UInt8} {X S I : ByteArray} {n : Nat} (h : DcI attr L X S) (hq : S.data.toList = 38 :: q) (hI : I.data.toList = (refer attr q).1) (hn : n = (refer attr q).2) : DcI attr L (X ++ I) (S.extract (n + 1) S.size) := by
  unfold DcI at h ⊢
  rw [cat_list, extract_drop, hI, hq, List.drop_succ_cons, hn, ← h, hq, Ent.decode_amp, List.append_assoc]

set_option maxHeartbeats 2000000 in
theorem rdecode_any (s : ByteArray) (attr : Bool) (w : World) (hs : s.size ≤ 500000) :
    Calls Tryd.prog 16 #[.string s, .bool attr] w fun e w' => e = .returned (.string ⟨(Ent.decode attr s.data.toList).toArray⟩) ∧ Below w.heap.size w w' := by
  have hsl := size_list s
  obtain ⟨L, hL⟩ : ∃ L, s.data.toList = L := ⟨_, rfl⟩
  have H0 : Hid (DcI attr L ⟨#[]⟩ s) := hid (by unfold DcI; rw [hL]; rfl)
  rw [hL] at hsl ⊢
  clear hL
  go_enter Tryd.func16, Tryd.ntmps16
  go_wp2
  go_loopg [0, 5] s.size (fun g sv ov wr => ∃ (S X : ByteArray), sv = .string S ∧ ov = .string X ∧ Hid (DcI attr L X S) ∧ S.size ≤ g ∧ S.size ≤ s.size ∧ Below w.heap.size w wr)
  case atStart => exact ⟨s, ⟨#[]⟩, rfl, rfl, H0, by omega, by omega, Below.refl _ _⟩
  case round =>
    obtain ⟨S, X, rfl, rfl, hD, hg, hle, hbw⟩ := hrel
    have hXs := dc_len hD.out
    have hszr := hbw.size
    by_cases hp : 0 < S.size
    · have hd : decide ((0 : Int) < (S.size : Int)) = true := decide_eq_true (by omega)
      have hg0 := get_of S 0 hp
      obtain ⟨c, hc⟩ : ∃ c, (S[0]'hp) = c := ⟨_, rfl⟩
      rw [hc] at hg0
      have hcat : X.size + 8 ≤ 9223372036854775807 := by omega
      by_cases h38 : c.toNat = 38
      · have t0 : ((c.toNat : Int) != 38) = false := by rw [h38]; rfl
        obtain ⟨q, hq⟩ : ∃ q, S.data.toList = 38 :: q := by
          cases hl : S.data.toList with
          | nil => rw [size_eq, hl] at hp; simp at hp
          | cons a r =>
            have : U8.B (a :: r) 0 = a.toNat := rfl
            rw [hl, this, h38] at hg0
            have ha : a = 38 := UInt8.toNat_inj.1 (show a.toNat = (38 : UInt8).toNat from hg0.symm)
            exact ⟨r, by rw [ha]⟩
        have HO := rone_any S attr q wr (by omega) hq
        have hrl := refer_le attr q
        have hql : q.length + 1 = S.size := by rw [← size_list, hq]; simp
        obtain ⟨i, n, hin⟩ : ∃ i n, refer attr q = (i, n) := ⟨_, _, rfl⟩
        rw [oneE_eq hin] at HO
        obtain ⟨I, hI0⟩ : ∃ I : ByteArray, I = ⟨i.toArray⟩ := ⟨_, rfl⟩
        have hIl : I.data.toList = i := by rw [hI0]
        have HN := hid (dc_amp (I := I) (n := n) hD.out hq (by rw [hin]; exact hIl) (by rw [hin]))
        rw [hin] at hrl
        simp only at hrl
        obtain ⟨r1, r2, _⟩ := hrl
        have hIs : I.size ≤ 7 := by rw [size_eq, hIl]; exact r2
        rw [← hI0] at HO
        have HO := hid HO
        have hn1 : n + 1 ≤ S.size := by omega
        have hxs : (S.extract (n + 1) S.size).size = S.size - (n + 1) := by rw [size_eq, extract_drop, List.length_drop, size_list]
        clear h38 hin hI0 hIl hg0 hD hql hq r1 r2
        go_wp2_with fail
        refine HO.out.mono ?_
        rintro e w1 ⟨rfl, b1⟩
        have hb1 := hid (hbw.trans (b1.mono hszr))
        clear b1 hbw
        go_wp2
        go_roundg (S.size - (n + 1))
        case measure => omega
        case rel => exact ⟨_, _, rfl, rfl, HN, by omega, by omega, hb1.out⟩
      · have t0 : ((c.toNat : Int) != 38) = true := bne_iff_ne.2 (by omega)
        have HN := hid (dc_other hD.out hp (by rw [← hg0]; exact h38))
        have hxs : (S.extract 1 S.size).size = S.size - 1 := by rw [size_eq, extract_drop, List.length_drop, size_list]
        have hx0 : (S.extract 0 1).size = 1 := size_extract0 S 1 (by omega)
        clear h38 hg0 hD
        go_wp2
        go_roundg (S.size - 1)
        case measure => omega
        case rel => exact ⟨_, _, rfl, rfl, HN, by omega, by omega, hbw⟩
    · have hd : decide ((0 : Int) < (S.size : Int)) = false := decide_eq_false (by omega)
      have hSl : S.data.toList = [] := List.length_eq_zero_iff.1 (by rw [size_list]; omega)
      have HE := hid (bytes_eq (show X.data.toList = Ent.decode attr L by have := hD.out; unfold DcI at this; rw [hSl, Ent.decode_nil, List.append_nil] at this; exact this))
      clear hSl hD
      go_wp2
      go_ret
      exact ⟨by rw [← HE.out]; rfl, hbw⟩
end Go.Proofs.YthfaogodiefefaaDoor
