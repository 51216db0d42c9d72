/- Plain Lean: a tag that is written well is read as it is. Nothing of a program stands here. -/
import Derived.Test.YtojmffpkjnpnlaaDoorTagPl
import Derived.Test.YtojmffpkjnpnlaaDoorEntMore
namespace Go.Proofs.YtojmffpkjnpnlaaDoor.Tag
open Go.Lib
set_option maxRecDepth 100000
set_option linter.unusedVariables false

/-! ### Pieces of a list -/
theorem skip_seg {p : UInt8 → Bool} (pre seg rest : List UInt8) (h1 : ∀ c ∈ seg, p c = true) (h2 : ∀ c, rest[0]? = some c → p c = false) : skip p (pre ++ (seg ++ rest)) pre.length = pre.length + seg.length := by
  unfold skip
  rw [List.drop_left]
  congr 1
  induction seg with
  | nil =>
    rw [List.nil_append]
    cases rest with
    | nil => rfl
    | cons a t => rw [List.takeWhile_cons, h2 a rfl]; rfl
  | cons a t ih =>
    rw [List.cons_append, List.takeWhile_cons, h1 a (by simp), if_pos rfl, List.length_cons, List.length_cons, ih (fun c hc => h1 c (by simp [hc]))]
theorem at_seg (pre rest : List UInt8) (c : UInt8) : (pre ++ c :: rest)[pre.length]? = some c := by
  rw [List.getElem?_append_right (Nat.le_refl _), Nat.sub_self]
  rfl
theorem cut_seg (pre seg rest : List UInt8) : cutP (pre ++ (seg ++ rest)) pre.length (pre.length + seg.length) = seg := by
  unfold cutP
  rw [List.drop_left, Nat.add_sub_cancel_left, List.take_left]

/-! ### What is written -/
def smallB (c : UInt8) : Bool := decide (97 ≤ c.toNat ∧ c.toNat ≤ 122)
def nameP (x : List UInt8) (i : Nat) : List UInt8 := [UInt8.ofNat (97 + i % 26), UInt8.ofNat (97 + i / 26 % 26)] ++ (x.take 20).filter smallB
def escq (x : List UInt8) : List UInt8 := x.flatMap fun c => if c = 38 then [38, 97, 109, 112, 59] else if c = 34 then [38, 113, 117, 111, 116, 59] else [c]
def partP (x : List UInt8) (i : Nat) : List UInt8 := [32] ++ nameP x i ++ [32, 61, 32] ++ ([34] ++ escq x ++ [34])
def textF : List (List UInt8) → Nat → List UInt8
  | [], _ => []
  | x :: r, i => partP x i ++ textF r (i + 1)
def attsF : List (List UInt8) → Nat → List At
  | [], _ => []
  | x :: r, i => (nameP x i, x) :: attsF r (i + 1)
theorem textF_append : ∀ (a b : List (List UInt8)) (i : Nat), textF (a ++ b) i = textF a i ++ textF b (i + a.length)
  | [], b, i => by simp [textF]
  | x :: r, b, i => by
    show partP x i ++ textF (r ++ b) (i + 1) = (partP x i ++ textF r (i + 1)) ++ textF b (i + (r.length + 1))
    rw [textF_append r b (i + 1), List.append_assoc, show i + 1 + r.length = i + (r.length + 1) by omega]
theorem textF_snoc (ls : List (List UInt8)) (k : Nat) (x : List UInt8) (h : ls[k]? = some x) : textF (ls.take (k + 1)) 0 = textF (ls.take k) 0 ++ partP x k := by
  have hk : k < ls.length := (List.getElem?_eq_some_iff.1 h).1
  rw [List.take_add_one, h, textF_append, List.length_take, Nat.zero_add, show min k ls.length = k by omega]
  simp [textF]
theorem attsF_get : ∀ (ls : List (List UInt8)) (i k : Nat) (x : List UInt8), ls[k]? = some x → (attsF ls i)[k]? = some (nameP x (i + k), x)
  | [], i, k, x, h => by simp at h
  | y :: r, i, 0, x, h => by
    simp at h
    subst h
    rfl
  | y :: r, i, k + 1, x, h => by
    show (attsF r (i + 1))[k]? = _
    rw [attsF_get r (i + 1) k x (by simpa using h), show i + 1 + k = i + (k + 1) by omega]
theorem attsF_len : ∀ (ls : List (List UInt8)) (i : Nat), (attsF ls i).length = ls.length
  | [], i => rfl
  | x :: r, i => by show (attsF r (i + 1)).length + 1 = r.length + 1; rw [attsF_len r (i + 1)]
theorem small_of {c : UInt8} (h : smallB c = true) : spB c = false ∧ wdB true c = true ∧ wdB false c = true ∧ lowC c = c ∧ c.toNat ≠ 62 ∧ c.toNat ≠ 47 := by
  have : ∀ n : Fin 256, smallB (UInt8.ofNat n.val) = true → spB (UInt8.ofNat n.val) = false ∧ wdB true (UInt8.ofNat n.val) = true ∧ wdB false (UInt8.ofNat n.val) = true ∧ lowC (UInt8.ofNat n.val) = UInt8.ofNat n.val ∧ (UInt8.ofNat n.val).toNat ≠ 62 ∧ (UInt8.ofNat n.val).toNat ≠ 47 := by decide +kernel
  have h2 := this ⟨c.toNat, c.toNat_lt⟩
  simp only [UInt8.ofNat_toNat] at h2
  exact h2 h
theorem ofNat_small (n : Nat) (h : n < 26) : smallB (UInt8.ofNat (97 + n)) = true ∧ (UInt8.ofNat (97 + n)).toNat = 97 + n := by
  have h1 : (UInt8.ofNat (97 + n)).toNat = 97 + n := UInt8.toNat_ofNat_of_lt' (by show 97 + n < 256; omega)
  exact ⟨by unfold smallB; rw [h1]; exact decide_eq_true (by omega), h1⟩
theorem name_small {x : List UInt8} {i : Nat} : ∀ c ∈ nameP x i, smallB c = true := by
  intro c hc
  unfold nameP at hc
  simp only [List.mem_append, List.mem_cons, List.not_mem_nil, or_false] at hc
  rcases hc with (rfl | rfl) | h
  · exact (ofNat_small _ (Nat.mod_lt _ (by omega))).1
  · exact (ofNat_small _ (Nat.mod_lt _ (by omega))).1
  · exact (List.mem_filter.1 h).2
theorem name_low (x : List UInt8) (i : Nat) : lowL (nameP x i) = nameP x i := by
  unfold lowL
  rw [List.map_congr_left (g := id) (fun c hc => (small_of (name_small c hc)).2.2.2.1), List.map_id]
theorem name_ne (x : List UInt8) (i : Nat) : 2 ≤ (nameP x i).length ∧ (nameP x i).length ≤ 22 := by
  unfold nameP
  have := List.length_filter_le smallB (x.take 20)
  rw [List.length_take] at this
  simp only [List.length_append, List.length_cons, List.length_nil]
  omega
theorem name_inj {x y : List UInt8} {i j : Nat} (hi : i < 676) (hj : j < 676) (h : nameP x i = nameP y j) : i = j := by
  unfold nameP at h
  simp only [List.cons_append, List.nil_append, List.cons.injEq] at h
  have h1 := congrArg UInt8.toNat h.1
  have h2 := congrArg UInt8.toNat h.2.1
  rw [(ofNat_small _ (Nat.mod_lt i (by omega))).2, (ofNat_small _ (Nat.mod_lt j (by omega))).2] at h1
  rw [(ofNat_small _ (Nat.mod_lt (i / 26) (by omega))).2, (ofNat_small _ (Nat.mod_lt (j / 26) (by omega))).2] at h2
  omega
theorem escq_cons (c : UInt8) (r : List UInt8) : escq (c :: r) = (if c = 38 then [38, 97, 109, 112, 59] else if c = 34 then [38, 113, 117, 111, 116, 59] else [c]) ++ escq r := by unfold escq; rw [List.flatMap_cons]
theorem escq_append (a b : List UInt8) : escq (a ++ b) = escq a ++ escq b := by unfold escq; rw [List.flatMap_append]
theorem escq_le : ∀ x, (escq x).length ≤ 6 * x.length
  | [] => by simp [escq]
  | c :: r => by
    rw [escq_cons, List.length_append, List.length_cons]
    have := escq_le r
    split
    · simp; omega
    · split
      · simp; omega
      · simp; omega
theorem escq_no : ∀ (x : List UInt8), ∀ c ∈ escq x, qtB 34 c = true
  | [], c, h => by simp [escq] at h
  | d :: r, c, h => by
    rw [escq_cons] at h
    rcases List.mem_append.1 h with h1 | h1
    · unfold qtB
      by_cases h38 : d = 38
      · rw [if_pos h38] at h1
        have : ∀ c ∈ ([38, 97, 109, 112, 59] : List UInt8), (c != 34) = true := by decide
        exact this c h1
      · rw [if_neg h38] at h1
        by_cases h34 : d = 34
        · rw [if_pos h34] at h1
          have : ∀ c ∈ ([38, 113, 117, 111, 116, 59] : List UInt8), (c != 34) = true := by decide
          exact this c h1
        · rw [if_neg h34] at h1
          simp at h1
          subst h1
          simpa using h34
    · exact escq_no r c h1
theorem quot_in : (([113, 117, 111, 116], 34, 0, true) : Ent.Row) ∈ Ent.tab := by decide +kernel
theorem refer_quot (attr : Bool) (r : List UInt8) : Ent.refer attr (113 :: 117 :: 111 :: 116 :: 59 :: r) = ([34], 5) := by
  have hd : Ent.digs (113 :: 117 :: 111 :: 116 :: 59 :: r) = [] := by
    unfold Ent.digs
    rw [if_neg (fun h => absurd h.2 (by show ¬ (113 : UInt8).toNat = 35; decide))]
  have hn : Ent.named (113 :: 117 :: 111 :: 116 :: 59 :: r) = ([34], 5) := Ent.named_semi quot_in ⟨r, rfl⟩
  unfold Ent.refer
  rw [if_neg (fun h => h hd), hn, if_neg]
  rintro (h | h)
  · simp at h
  · unfold Ent.refuses at h
    rw [hn] at h
    have : U8.B (113 :: 117 :: 111 :: 116 :: 59 :: r) (5 - 1) = 59 := rfl
    simp [this] at h
theorem decode_escq (attr : Bool) : ∀ l, Ent.decode attr (escq l) = l
  | [] => rfl
  | c :: r => by
    rw [escq_cons]
    by_cases hc : c = 38
    · rw [if_pos hc]
      show Ent.decode attr (38 :: 97 :: 109 :: 112 :: 59 :: escq r) = c :: r
      rw [Ent.decode_amp, Ent.refer_amp]
      show [38] ++ Ent.decode attr (escq r) = c :: r
      rw [decode_escq attr r, hc]; rfl
    · rw [if_neg hc]
      by_cases h34 : c = 34
      · rw [if_pos h34]
        show Ent.decode attr (38 :: 113 :: 117 :: 111 :: 116 :: 59 :: escq r) = c :: r
        rw [Ent.decode_amp, refer_quot]
        show [34] ++ Ent.decode attr (escq r) = c :: r
        rw [decode_escq attr r, h34]; rfl
      · rw [if_neg h34]
        show Ent.decode attr (c :: escq r) = c :: r
        rw [Ent.decode_other attr c _ hc, decode_escq attr r]

/-! ### Reading it -/
theorem part_read (pre rest x : List UInt8) (i : Nat) (atts : List At) (hf : atts.any (fun a => a.1 == nameP x i) = false) :
    runs (pre ++ (partP x i ++ rest)) pre.length atts = runs (pre ++ (partP x i ++ rest)) (pre.length + (partP x i).length) (atts ++ [(nameP x i, x)]) := by
  obtain ⟨n, hn⟩ : ∃ n, nameP x i = n := ⟨_, rfl⟩
  have hsm : ∀ c ∈ n, smallB c = true := by rw [← hn]; exact name_small
  have hlw : lowL n = n := by rw [← hn]; exact name_low x i
  have hln : 2 ≤ n.length := by rw [← hn]; exact (name_ne x i).1
  obtain ⟨q, hq⟩ : ∃ q, escq x = q := ⟨_, rfl⟩
  have hqn : ∀ c ∈ q, qtB 34 c = true := by rw [← hq]; exact escq_no x
  have hdq : Ent.decode true q = x := by rw [← hq]; exact decode_escq true x
  have hP : partP x i = [32] ++ n ++ [32, 61, 32] ++ ([34] ++ q ++ [34]) := by unfold partP; rw [hn, hq]
  rw [hn] at hf ⊢
  rw [hP]
  obtain ⟨L, hL⟩ : ∃ L, pre ++ ([32] ++ n ++ [32, 61, 32] ++ ([34] ++ q ++ [34]) ++ rest) = L := ⟨_, rfl⟩
  rw [hL]
  have e1 : L = pre ++ ([32] ++ (n ++ ([32, 61, 32] ++ ([34] ++ q ++ [34]) ++ rest))) := by rw [← hL]; simp
  have e2 : L = (pre ++ [32]) ++ (n ++ ([32, 61, 32] ++ ([34] ++ q ++ [34]) ++ rest)) := by rw [← hL]; simp
  obtain ⟨c, t, hct⟩ : ∃ c t, n = c :: t := by
    cases n with
    | nil => simp at hln
    | cons c t => exact ⟨c, t, rfl⟩
  have e3 : L = (pre ++ [32] ++ [c]) ++ (t ++ ([32, 61, 32] ++ ([34] ++ q ++ [34]) ++ rest)) := by rw [← hL, hct]; simp
  have e4 : L = (pre ++ [32] ++ n) ++ ([32] ++ ([61, 32] ++ ([34] ++ q ++ [34]) ++ rest)) := by rw [← hL]; simp
  have e5 : L = (pre ++ [32] ++ n ++ [32]) ++ (61 :: ([32] ++ ([34] ++ q ++ [34]) ++ rest)) := by rw [← hL]; simp
  have e6 : L = (pre ++ [32] ++ n ++ [32, 61]) ++ ([32] ++ (([34] ++ q ++ [34]) ++ rest)) := by rw [← hL]; simp
  have e7 : L = (pre ++ [32] ++ n ++ [32, 61, 32]) ++ (34 :: (q ++ [34] ++ rest)) := by rw [← hL]; simp
  have e8 : L = (pre ++ [32] ++ n ++ [32, 61, 32, 34]) ++ (q ++ ([34] ++ rest)) := by rw [← hL]; simp
  have hcs := small_of (hsm c (by rw [hct]; simp))
  have ha : skip spB L pre.length = pre.length + 1 := by
    have := skip_seg (p := spB) pre [32] (n ++ ([32, 61, 32] ++ ([34] ++ q ++ [34]) ++ rest)) (by decide) (fun d hd => by rw [hct] at hd; simp at hd; subst hd; exact hcs.1)
    rw [← e1] at this
    exact this
  have hat : L[pre.length + 1]? = some c := by
    have := at_seg (pre ++ [32]) (t ++ ([32, 61, 32] ++ ([34] ++ q ++ [34]) ++ rest)) c
    rw [show (pre ++ [32]) ++ c :: (t ++ ([32, 61, 32] ++ ([34] ++ q ++ [34]) ++ rest)) = L by rw [e2, hct]; simp] at this
    simpa using this
  have he : skip (wdB true) L (pre.length + 1 + 1) = pre.length + 1 + n.length := by
    have := skip_seg (p := wdB true) (pre ++ [32] ++ [c]) t ([32, 61, 32] ++ ([34] ++ q ++ [34]) ++ rest) (fun d hd => (small_of (hsm d (by rw [hct]; simp [hd]))).2.1) (fun d hd => by simp at hd; subst hd; decide)
    rw [← e3] at this
    simp only [List.length_append, List.length_cons, List.length_nil] at this
    rw [show pre.length + 1 + 1 = pre.length + (0 + 1) + (0 + 1) by omega, this, hct, List.length_cons]
    omega
  have hb : skip spB L (pre.length + 1 + n.length) = pre.length + 1 + n.length + 1 := by
    have := skip_seg (p := spB) (pre ++ [32] ++ n) [32] ([61, 32] ++ ([34] ++ q ++ [34]) ++ rest) (by decide) (fun d hd => by simp at hd; subst hd; decide)
    rw [← e4] at this
    simp only [List.length_append, List.length_cons, List.length_nil] at this
    exact this
  have hd : L[pre.length + 1 + n.length + 1]? = some 61 := by
    have := at_seg (pre ++ [32] ++ n ++ [32]) ([32] ++ ([34] ++ q ++ [34]) ++ rest) 61
    rw [← e5] at this
    simp only [List.length_append, List.length_cons, List.length_nil] at this
    exact this
  have hv1 : skip spB L (pre.length + 1 + n.length + 1 + 1) = pre.length + 1 + n.length + 1 + 1 + 1 := by
    have := skip_seg (p := spB) (pre ++ [32] ++ n ++ [32, 61]) [32] (([34] ++ q ++ [34]) ++ rest) (by decide) (fun d hd => by simp at hd; subst hd; decide)
    rw [← e6] at this
    simp only [List.length_append, List.length_cons, List.length_nil] at this
    exact this
  have hv2 : L[pre.length + 1 + n.length + 1 + 1 + 1]? = some 34 := by
    have := at_seg (pre ++ [32] ++ n ++ [32, 61, 32]) (q ++ [34] ++ rest) 34
    rw [← e7] at this
    simp only [List.length_append, List.length_cons, List.length_nil] at this
    exact this
  have hv3 : skip (qtB 34) L (pre.length + 1 + n.length + 1 + 1 + 1 + 1) = pre.length + 1 + n.length + 1 + 1 + 1 + 1 + q.length := by
    have := skip_seg (p := qtB 34) (pre ++ [32] ++ n ++ [32, 61, 32, 34]) q ([34] ++ rest) hqn (fun d hd => by simp at hd; subst hd; decide)
    rw [← e8] at this
    simp only [List.length_append, List.length_cons, List.length_nil] at this
    exact this
  have hv4 : cutP L (pre.length + 1 + n.length + 1 + 1 + 1 + 1) (pre.length + 1 + n.length + 1 + 1 + 1 + 1 + q.length) = q := by
    have := cut_seg (pre ++ [32] ++ n ++ [32, 61, 32, 34]) q ([34] ++ rest)
    rw [← e8] at this
    simp only [List.length_append, List.length_cons, List.length_nil] at this
    exact this
  have hlen : L.length = pre.length + 1 + n.length + 1 + 1 + 1 + 1 + q.length + 1 + rest.length := by
    rw [e8]
    simp only [List.length_append, List.length_cons, List.length_nil]
    omega
  have hv : valP L (pre.length + 1 + n.length + 1 + 1) = (x, pre.length + 1 + n.length + 1 + 1 + 1 + 1 + q.length + 1, true) := by
    rw [valP_blank hv1, hv2]
    simp only
    rw [if_neg (by decide), if_pos (.inl (by decide)), hv3, if_neg (by omega), hv4, hdq]
  have hcut : cutP L (pre.length + 1) (pre.length + 1 + n.length) = n := by
    have := cut_seg (pre ++ [32]) n ([32, 61, 32] ++ ([34] ++ q ++ [34]) ++ rest)
    rw [← e2] at this
    simp only [List.length_append, List.length_cons, List.length_nil] at this
    exact this
  have h := runs_val atts (by omega : pre.length ≤ L.length) ha hat hcs.2.2.2.2.1 hcs.2.2.2.2.2 he hb hd (by decide) hv
  rw [hcut, hlw] at h
  rw [h]
  unfold addA
  rw [hf]
  simp only [List.length_append, List.length_cons, List.length_nil]
  rw [show pre.length + (0 + 1 + n.length + (0 + 1 + 1 + 1) + (0 + 1 + q.length + (0 + 1))) = pre.length + 1 + n.length + 1 + 1 + 1 + 1 + q.length + 1 by omega]
  rfl
theorem text_read : ∀ (ls : List (List UInt8)) (i : Nat) (pre rest : List UInt8) (atts : List At), i + ls.length ≤ 676 → (∀ z ∈ atts, ∃ y j, j < i ∧ z.1 = nameP y j) →
    runs (pre ++ (textF ls i ++ rest)) pre.length atts = runs (pre ++ (textF ls i ++ rest)) (pre.length + (textF ls i).length) (atts ++ attsF ls i)
  | [], i, pre, rest, atts, hi, h => by simp [textF, attsF]
  | x :: r, i, pre, rest, atts, hi, h => by
    rw [List.length_cons] at hi
    have hfresh : atts.any (fun a => a.1 == nameP x i) = false := by
      rw [List.any_eq_false]
      intro z hz e
      obtain ⟨y, j, hj, hy⟩ := h z hz
      have e2 : nameP y j = nameP x i := by rw [← hy]; simpa using e
      have := name_inj (by omega) (by omega) e2
      omega
    have s1 := part_read pre (textF r (i + 1) ++ rest) x i atts hfresh
    have s2 := text_read r (i + 1) (pre ++ partP x i) rest (atts ++ [(nameP x i, x)]) (by omega) (fun z hz => by
      rcases List.mem_append.1 hz with h1 | h1
      · obtain ⟨y, j, hj, hy⟩ := h z h1
        exact ⟨y, j, by omega, hy⟩
      · simp at h1
        subst h1
        exact ⟨x, i, by omega, rfl⟩)
    have e : pre ++ (textF (x :: r) i ++ rest) = pre ++ (partP x i ++ (textF r (i + 1) ++ rest)) := by
      show pre ++ ((partP x i ++ textF r (i + 1)) ++ rest) = _
      rw [List.append_assoc]
    have e' : pre ++ (partP x i ++ (textF r (i + 1) ++ rest)) = (pre ++ partP x i) ++ (textF r (i + 1) ++ rest) := by rw [List.append_assoc]
    rw [e, s1, e', show pre.length + (partP x i).length = (pre ++ partP x i).length by rw [List.length_append], s2]
    congr 1
    · show (pre ++ partP x i).length + (textF r (i + 1)).length = pre.length + (partP x i ++ textF r (i + 1)).length
      rw [List.length_append, List.length_append]; omega
    · show atts ++ [(nameP x i, x)] ++ attsF r (i + 1) = atts ++ ((nameP x i, x) :: attsF r (i + 1))
      rw [List.append_assoc]; rfl
def tailP (cl : Bool) : List UInt8 := (if cl = true then [47] else []) ++ [62]
def tagP (ls : List (List UInt8)) (cl : Bool) : List UInt8 := [60, 120, 121] ++ textF ls 0 ++ tailP cl
theorem textF_head (ls : List (List UInt8)) (i : Nat) (cl : Bool) (more : List UInt8) (d : UInt8) (h : (textF ls i ++ (tailP cl ++ more))[0]? = some d) : wdB false d = false := by
  cases ls with
  | nil =>
    cases cl with
    | true => simp [textF, tailP] at h; subst h; decide
    | false => simp [textF, tailP] at h; subst h; decide
  | cons x r =>
    have : (textF (x :: r) i ++ (tailP cl ++ more))[0]? = some 32 := by
      show ((partP x i ++ textF r (i + 1)) ++ (tailP cl ++ more))[0]? = some 32
      unfold partP
      simp
    rw [this] at h
    cases h
    decide
theorem tag_read (ls : List (List UInt8)) (cl : Bool) (more : List UInt8) (hl : ls.length ≤ 60) :
    begB (tagP ls cl ++ more) 0 = true ∧ readP (tagP ls cl ++ more) 0 = some ({ kind := 2, name := [120, 121], atts := attsF ls 0, self := cl }, (tagP ls cl).length) := by
  obtain ⟨L, hL⟩ : ∃ L, tagP ls cl ++ more = L := ⟨_, rfl⟩
  have e0 : L = 60 :: 120 :: 121 :: (textF ls 0 ++ (tailP cl ++ more)) := by rw [← hL]; unfold tagP; simp
  have e1 : L = [60] ++ ([120, 121] ++ (textF ls 0 ++ (tailP cl ++ more))) := by rw [e0]; rfl
  have e2 : L = [60, 120, 121] ++ (textF ls 0 ++ (tailP cl ++ more)) := by rw [e0]; rfl
  have e3 : L = ([60, 120, 121] ++ textF ls 0) ++ (tailP cl ++ more) := by rw [e2, List.append_assoc]
  rw [hL]
  have hB1 : U8.B L 1 = 120 := by rw [e0]; rfl
  have hB0 : U8.B L 0 = 60 := by rw [e0]; rfl
  have hf : fromP L 0 = 1 := by unfold fromP; rw [if_neg (by rw [Nat.zero_add, hB1]; decide)]
  have hie : isEnd L 0 = false := by unfold isEnd; rw [Nat.zero_add, hB1]; rfl
  have hne : nameEnd L 0 = 3 := by
    unfold nameEnd
    rw [hf]
    have := skip_seg (p := wdB false) [60] [120, 121] (textF ls 0 ++ (tailP cl ++ more)) (by decide) (fun d hd => textF_head ls 0 cl more d hd)
    rw [← e1] at this
    exact this
  have hcut : lowL (cutP L 1 3) = [120, 121] := by
    have := cut_seg [60] [120, 121] (textF ls 0 ++ (tailP cl ++ more))
    rw [← e1] at this
    rw [show cutP L 1 3 = [120, 121] from this]
    decide
  refine ⟨?_, ?_⟩
  · unfold begB
    rw [Nat.zero_add, hB0, hB1, decide_eq_true (by rw [e0]; simp), if_neg (by decide)]
    decide
  · have hr := text_read ls 0 [60, 120, 121] (tailP cl ++ more) [] (by omega) (fun z hz => (by cases hz))
    rw [← e2] at hr
    have hend : runs L (([60, 120, 121] : List UInt8).length + (textF ls 0).length) ([] ++ attsF ls 0) = some (attsF ls 0, (tagP ls cl).length - 1, cl) := by
      have hp : ([60, 120, 121] : List UInt8).length + (textF ls 0).length = ([60, 120, 121] ++ textF ls 0).length := by rw [List.length_append]
      rw [hp, List.nil_append]
      obtain ⟨pre, hpre⟩ : ∃ pre, ([60, 120, 121] : List UInt8) ++ textF ls 0 = pre := ⟨_, rfl⟩
      rw [hpre] at e3 ⊢
      have htl : (tagP ls cl).length = pre.length + (tailP cl).length := by unfold tagP; rw [hpre, List.length_append]
      rw [htl]
      cases cl with
      | true =>
        have e4 : L = pre ++ (47 :: 62 :: more) := by rw [e3]; rfl
        have e5 : L = (pre ++ [47]) ++ (62 :: more) := by rw [e4]; simp
        have h1 := at_seg pre (62 :: more) 47
        rw [← e4] at h1
        have h2 := at_seg (pre ++ [47]) more 62
        rw [← e5] at h2
        simp only [List.length_append, List.length_cons, List.length_nil] at h2
        exact runs_self (attsF ls 0) (skip_stop h1 (by decide)) h1 (by decide) h2 (by decide)
      | false =>
        have e4 : L = pre ++ (62 :: more) := by rw [e3]; rfl
        have h1 := at_seg pre more 62
        rw [← e4] at h1
        exact runs_gt (attsF ls 0) (skip_stop h1 (by decide)) h1 (by decide)
    have hr3 : runs L 3 [] = some (attsF ls 0, (tagP ls cl).length - 1, cl) := hr.trans hend
    have hpos : 1 ≤ (tagP ls cl).length := by unfold tagP tailP; simp
    unfold readP
    rw [hne, hr3, hf, hie]
    simp only [hcut, Nat.sub_add_cancel hpos]
    rfl
end Go.Proofs.YtojmffpkjnpnlaaDoor.Tag
