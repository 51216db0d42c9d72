/- Plain Lean: kinds of characters, folding and small letters. Nothing of a program stands here. Laws on slices of bytes that the call itself made: appending, reading them as a text. Plain: what a loop that makes letters small has done so far. Walks over the reference of layer 2: Lower. -/
import Derived.Test.YtgldgdopabmefaaGreatDoorRunes
import Derived.Test.YtgldgdopabmefaaGreatDoorRefHex
namespace Go.Proofs.YtgldgdopabmefaaGreatDoor
open Go.Lib U8
set_option maxRecDepth 100000
set_option linter.unusedVariables false

/-! ### bytes -/
def lowC (c : UInt8) : UInt8 := if 65 ≤ c.toNat ∧ c.toNat ≤ 90 then c + 32 else c
theorem lowC_num (c : UInt8) : (lowC c).toNat = if 65 ≤ c.toNat ∧ c.toNat ≤ 90 then c.toNat + 32 else c.toNat := by
  unfold lowC
  split
  · rw [UInt8.toNat_add]
    have : (32 : UInt8).toNat = 32 := rfl
    omega
  · rfl
theorem lowC_low (c : UInt8) : lowC (lowC c) = lowC c := by
  apply UInt8.toNat_inj.1
  rw [lowC_num (lowC c), lowC_num c]
  repeat' split
  all_goals omega
def lowL (l : List UInt8) : List UInt8 := l.map lowC
theorem lowL_len (l : List UInt8) : (lowL l).length = l.length := by simp [lowL]
theorem lowL_low (l : List UInt8) : lowL (lowL l) = lowL l := by
  unfold lowL
  rw [List.map_map]
  exact List.map_congr_left fun c _ => lowC_low c

/-! ### folding -/
/-- The numbers that a character is folded to. -/
def foldC (r : Nat) : List Nat :=
  if r = 223 ∨ r = 7838 then [115, 115]
  else if (65 ≤ r ∧ r ≤ 90) ∨ (192 ≤ r ∧ r ≤ 222 ∧ r ≠ 215) ∨ (913 ≤ r ∧ r ≤ 937 ∧ r ≠ 930) ∨ (1040 ≤ r ∧ r ≤ 1071) then [r + 32]
  else if 1024 ≤ r ∧ r ≤ 1039 then [r + 80]
  else if r = 962 then [963]
  else if ((256 ≤ r ∧ r ≤ 311) ∨ (330 ≤ r ∧ r ≤ 375) ∨ (7680 ≤ r ∧ r ≤ 7829)) ∧ r % 2 = 0 then [r + 1]
  else if ((313 ≤ r ∧ r ≤ 328) ∨ (377 ≤ r ∧ r ≤ 382)) ∧ r % 2 = 1 then [r + 1]
  else [r]
theorem foldC_len (r : Nat) : 1 ≤ (foldC r).length ∧ (foldC r).length ≤ 2 := by
  unfold foldC
  repeat' split
  all_goals simp
theorem foldC_self {r : Nat} (h1 : ¬ (r = 223 ∨ r = 7838)) (h2 : ¬ ((65 ≤ r ∧ r ≤ 90) ∨ (192 ≤ r ∧ r ≤ 222 ∧ r ≠ 215) ∨ (913 ≤ r ∧ r ≤ 937 ∧ r ≠ 930) ∨ (1040 ≤ r ∧ r ≤ 1071)))
    (h3 : ¬ (1024 ≤ r ∧ r ≤ 1039)) (h4 : ¬ r = 962) (h5 : ¬ (((256 ≤ r ∧ r ≤ 311) ∨ (330 ≤ r ∧ r ≤ 375) ∨ (7680 ≤ r ∧ r ≤ 7829)) ∧ r % 2 = 0))
    (h6 : ¬ (((313 ≤ r ∧ r ≤ 328) ∨ (377 ≤ r ∧ r ≤ 382)) ∧ r % 2 = 1)) : foldC r = [r] := by
  unfold foldC
  rw [if_neg h1, if_neg h2, if_neg h3, if_neg h4, if_neg h5, if_neg h6]
theorem foldC_all {P : Nat → Prop} {r : Nat} (h : TxtC r) (hp : ∀ d, TxtC d → foldC d = [d] → P d) : ∀ d ∈ foldC r, P d := by
  unfold TxtC OkC at h
  intro d hd
  unfold foldC at hd
  split at hd
  · obtain rfl : d = 115 := by simpa using hd
    exact hp _ ⟨by decide, .inl (by decide)⟩ rfl
  split at hd
  · obtain rfl : d = r + 32 := by simpa using hd
    exact hp _ ⟨by omega, by unfold OkC; omega⟩ (foldC_self (by omega) (by omega) (by omega) (by omega) (by omega) (by omega))
  split at hd
  · obtain rfl : d = r + 80 := by simpa using hd
    exact hp _ ⟨by omega, by unfold OkC; omega⟩ (foldC_self (by omega) (by omega) (by omega) (by omega) (by omega) (by omega))
  split at hd
  · obtain rfl : d = 963 := by simpa using hd
    exact hp _ ⟨by decide, .inl (by decide)⟩ rfl
  split at hd
  · obtain rfl : d = r + 1 := by simpa using hd
    exact hp _ ⟨by omega, by unfold OkC; omega⟩ (foldC_self (by omega) (by omega) (by omega) (by omega) (by omega) (by omega))
  split at hd
  · obtain rfl : d = r + 1 := by simpa using hd
    exact hp _ ⟨by omega, by unfold OkC; omega⟩ (foldC_self (by omega) (by omega) (by omega) (by omega) (by omega) (by omega))
  · rename_i h1 h2 h3 h4 h5 h6
    obtain rfl : d = r := by simpa using hd
    exact hp _ h (foldC_self h1 h2 h3 h4 h5 h6)
def foldCs (cs : List Nat) : List Nat := cs.flatMap foldC
theorem foldCs_txt (cs : List Nat) (h : ∀ c ∈ cs, TxtC c) : ∀ d ∈ foldCs cs, TxtC d := by
  intro d hd
  obtain ⟨c, hc, hd⟩ := List.mem_flatMap.1 hd
  exact foldC_all (P := TxtC) (h c hc) (fun _ h _ => h) d hd
theorem flat_one {f : Nat → List Nat} : ∀ (cs : List Nat), (∀ c ∈ cs, f c = [c]) → cs.flatMap f = cs
  | [], _ => rfl
  | c :: cs, h => by rw [List.flatMap_cons, h c (by simp), flat_one cs (fun c hc => h c (by simp [hc]))]; rfl
/-- Folding twice is folding once. -/
theorem foldCs_fold (cs : List Nat) (h : ∀ c ∈ cs, TxtC c) : foldCs (foldCs cs) = foldCs cs := by
  apply flat_one
  intro d hd
  obtain ⟨c, hc, hd⟩ := List.mem_flatMap.1 hd
  exact foldC_all (P := fun d => foldC d = [d]) (h c hc) (fun _ _ h => h) d hd
/-- A text, folded. -/
def foldL (l : List UInt8) : List UInt8 := encs (foldCs (runes l))
theorem foldL_right (l : List UInt8) (h : right l = true) : right (foldL l) = true :=
  right_enc _ (foldCs_txt _ (enc_runes l h).2)
theorem foldL_runes (l : List UInt8) (h : right l = true) : runes (foldL l) = foldCs (runes l) :=
  runes_enc _ fun c hc => (foldCs_txt _ (enc_runes l h).2 c hc).2
theorem foldL_fold (l : List UInt8) (h : right l = true) : foldL (foldL l) = foldL l := by
  unfold foldL
  have h1 := enc_runes l h
  rw [runes_enc _ fun c hc => (foldCs_txt _ h1.2 c hc).2, foldCs_fold _ h1.2]
theorem foldL_append (l r : List UInt8) (h : right l = true) : foldL (l ++ r) = foldL l ++ foldL r := by
  unfold foldL foldCs
  rw [runes_append l r h, List.flatMap_append, encs_append]

/-! ### around a place -/
/-- The character ahead of the end; a newline's number: there is none. -/
def lastC (l : List UInt8) : Nat := (runes l).getLast?.getD 10
def firstC (l : List UInt8) : Nat := (runes l).head?.getD 10
theorem firstC_dec (l : List UInt8) (h : l ≠ []) : firstC l = (dec l).1 := by
  unfold firstC
  rw [runes_step l h]
  rfl
theorem runes_ne (l : List UInt8) (h : l ≠ []) : runes l ≠ [] := by rw [runes_step l h]; simp
/-- Of a text, and one whole character behind it, that is the last. -/
theorem lastC_append (l : List UInt8) (c : Nat) (h : right l = true) (hc : OkC c) : lastC (l ++ encN c) = c := by
  unfold lastC
  have h1 : runes (encN c) = [c] := by
    have := runes_enc [c] (fun d hd => by rw [List.mem_singleton.1 hd]; exact hc)
    rwa [encs_cons, encs_nil, List.append_nil] at this
  rw [runes_append l _ h, h1, List.getLast?_append]
  simp
/-- A text that is not empty ends with a character, and what stands ahead of it is a text. -/
theorem right_last (l : List UInt8) (h : right l = true) (hne : l ≠ []) : ∃ m c, TxtC c ∧ right m = true ∧ l = m ++ encN c ∧ lastC l = c := by
  obtain ⟨e1, e2⟩ := enc_runes l h
  have hr := runes_ne l hne
  obtain ⟨cs, c, hcs⟩ : ∃ cs c, runes l = cs ++ [c] := ⟨(runes l).dropLast, (runes l).getLast hr, (List.dropLast_concat_getLast hr).symm⟩
  have t : TxtC c := e2 c (by rw [hcs]; simp)
  have ts : ∀ d ∈ cs, TxtC d := fun d hd => e2 d (by rw [hcs]; simp [hd])
  refine ⟨encs cs, c, t, right_enc cs ts, ?_, ?_⟩
  · rw [← e1, hcs, encs_append, encs_cons, encs_nil, List.append_nil]
  · unfold lastC; rw [hcs]; simp
end Go.Proofs.YtgldgdopabmefaaGreatDoor
namespace Go.Proofs.YtgldgdopabmefaaGreatDoor
open Go.RowKit Go.Lib
set_option maxRecDepth 100000
set_option linter.unusedVariables false

theorem info_u8 : (Tryz.prog.info? 5).map (fun i => (i.zero, i.size, i.bytes)) = some (some (.int .u8 0), 1, 1) := by kernel_rfl

theorem byteCells_get (l : List UInt8) (j : Nat) : (byteCells l)[j]? = (l[j]?).map fun b => Value.int .u8 (b.toNat : Int) := by
  simp [byteCells]
theorem byteCells_len (l : List UInt8) : (byteCells l).length = l.length := byteCells_length l

/-- 'append(out, ..)' of bytes, out the call's own. -/
theorem append_bytes {w : World} {ops : Array Oper} {rest : List Oper} {o : Oper} {a : Act} {Q : Exit → Act → World → Prop} (hgd : o.guard = none) (s x : Operand)
    (ho : o.op = .call { callee := .builtin .append, args := #[s, x], argTypes := #[60, 60] })
    (base : Nat) (v : Value) (acc : List UInt8) (hs : a.eval s = v) (hown : w.ownsRow base 5 1 v acc.length (byteCells acc))
    (ad : Addr) (m c : Nat) (new : List UInt8) (hx : a.eval x = .slice (some ad) m c) (hm : new.length = m) (hnew : ∀ j, j < new.length → w.cell? (ad.add j) = some (.int .u8 (U8.B new j)))
    (hlen : acc.length + m ≤ 140737488355328) (hbase : base ≤ w.heap.size)
    (h : ∀ v' w', w'.ownsRow base 5 1 v' (acc ++ new).length (byteCells (acc ++ new)) → w.grownBy w' v.ownBlock → wpList Tryz.prog ops Q rest (a.put o.dst v') w') : wpList Tryz.prog ops Q (o :: rest) a w := by
  obtain ⟨i0, hi, hz0, hz1, hz2⟩ := info_parts info_u8
  refine wpList_append_own w hgd s x 60 ho base 5 i0 (.int .u8 0) 1 1 Tryz.underlying60 hi hz0 hz1 hz2 rfl (by decide) v acc.length (byteCells acc) hs hown ad m c (byteCells new) hx (by rw [byteCells_len]; omega) ?_ ?_ (by unfold maxLen; omega) (by omega) hbase ?_
  · intro j u hj
    rw [byteCells_get] at hj
    by_cases hlt : j < new.length
    · rw [hnew j hlt, ← hj, List.getElem?_eq_getElem hlt, U8.B_eq (List.getElem?_eq_getElem hlt)]
      rfl
    · rw [List.getElem?_eq_none (by omega)] at hj
      cases hj
  · intro u hu
    simp only [byteCells, List.mem_map] at hu
    obtain ⟨b, _, rfl⟩ := hu
    rfl
  · intro v' w' h1 h2 _
    refine h v' w' ?_ h2
    rw [List.length_append, hm, byteCells_append]
    exact h1

/-- What is owned is a slice of bytes. -/
theorem own_isB {w : World} {base : Nat} {v : Value} {acc : List UInt8} (h : w.ownsRow base 5 1 v acc.length (byteCells acc)) :
    ∃ a cap, v = .slice a acc.length cap ∧ IsB w a acc.length acc ∧ acc.length ≤ cap ∧ cap ≤ maxLen := by
  obtain ⟨_, ⟨rfl, h0⟩ | ⟨g, cap, cur, rfl, hb, hg, hn, hc, hcs, ht⟩⟩ := h
  · exact ⟨none, 0, by rw [h0], ⟨rfl, .inl h0⟩, by omega, by unfold maxLen; omega⟩
  · refine ⟨_, cap, rfl, ⟨rfl, .inr ⟨g, 0, rfl, fun i hi => ?_⟩⟩, hn, hc⟩
    have h1 : (byteCells acc)[i]? = some (.int .u8 (U8.B acc i)) := by
      rw [byteCells_get, List.getElem?_eq_getElem hi, U8.B_eq (List.getElem?_eq_getElem hi)]; rfl
    rw [← ht, Nat.mul_one, List.getElem?_take_of_lt hi] at h1
    simp only [World.cell?, Nat.zero_add, hg]
    simpa using h1
/-- 'string(out)'. -/
theorem conv_own {w : World} {base : Nat} {v : Value} {acc : List UInt8} (h : w.ownsRow base 5 1 v acc.length (byteCells acc)) :
    (convert 60 9 v).run Tryz.prog w = .ok (.string ⟨acc.toArray⟩) w := by
  obtain ⟨a, cap, rfl, hB, _⟩ := own_isB h
  exact conv_bytes hB cap
theorem IsB.below {w w' : World} {a : Option Addr} {len : Nat} {l : List UInt8} (h : IsB w a len l) (hb : Below w.heap.size w w') : IsB w' a len l := by
  refine ⟨h.1, h.2.elim .inl fun ⟨b, off, e, hat⟩ => ?_⟩
  by_cases h0 : l = []
  · subst h0; exact .inl h.1.symm
  · have hlt : b < w.heap.size := by
      have := hat 0 (by cases l with
        | nil => exact absurd rfl h0
        | cons a r => simp)
      rcases Nat.lt_or_ge b w.heap.size with h' | h'
      · exact h'
      · simp [World.cell?, Array.getElem?_eq_none h'] at this
    exact .inr ⟨b, off, e, fun i hi => (hb.cell (p := ⟨b, off + i, none⟩) hlt).trans (hat i hi)⟩
theorem bytesAt_below {w w' : World} {B b off : Nat} {l : List UInt8} (h : BytesAt w b off l) (hb : Below B w w') (hB : b < B) : BytesAt w' b off l :=
  h.mono fun o => hb.cell (p := ⟨b, o, none⟩) hB
theorem new_bytes (w : World) (new : List UInt8) (C : Array Value) (fr : Nat × Nat) (hC : C = (byteCells new).toArray) : ∀ j, j < new.length → (w.alloc (.cells C 5 fr)).cell? ((⟨w.heap.size, 0, none⟩ : Addr).add j) = some (.int .u8 (U8.B new j)) := by
  intro j hj
  subst hC
  rw [addr_add, Nat.zero_add, World.cell?_alloc_mark, List.getElem?_toArray, byteCells_get, List.getElem?_eq_getElem hj, U8.B_eq (List.getElem?_eq_getElem hj)]
  rfl
/-- The slice that '[]byte(s)' makes. -/
theorem isB_made (w : World) (s : ByteArray) (c : Nat) (fr : Nat × Nat) : IsB (w.drew.alloc (.cells (bytesRow s c) 5 fr)) (some ⟨w.heap.size, 0, none⟩) s.size s.data.toList := by
  refine ⟨size_list s, .inr ⟨w.heap.size, 0, rfl, fun i hi => ?_⟩⟩
  have hsz : w.drew.heap.size = w.heap.size := rfl
  rw [Nat.zero_add, ← hsz, World.cell?_alloc_mark]
  have hi' : i < s.data.size := by simpa using hi
  unfold bytesRow
  rw [Array.getElem?_append_left (by simpa using hi')]
  simp only [Array.getElem?_map, Array.getElem?_eq_getElem hi', Option.map_some]
  rw [U8.B_eq (c := s.data[i]) (by rw [Array.getElem?_toList, Array.getElem?_eq_getElem hi'])]
end Go.Proofs.YtgldgdopabmefaaGreatDoor
namespace Go.Proofs.YtgldgdopabmefaaGreatDoor
open Go.RowKit Go.Lib
set_option maxRecDepth 100000
set_option linter.unusedVariables false

theorem drop_at (s : ByteArray) (k : Nat) (h : k < s.size) : s.data.toList.drop k = s[k]'h :: s.data.toList.drop (k + 1) := by
  rw [List.drop_eq_getElem_cons (by rw [size_list]; exact h)]
  rfl
def LwInv (l : List UInt8) (k : Nat) (acc : List UInt8) : Prop := acc ++ lowL (l.drop k) = lowL l ∧ acc.length = k
theorem LwInv.step {s : ByteArray} {k : Nat} {acc : List UInt8} (h : LwInv s.data.toList k acc) (hk : k < s.size) : LwInv s.data.toList (k + 1) (acc ++ [lowC (s[k]'hk)]) := by
  obtain ⟨h1, h2⟩ := h
  rw [drop_at s k hk] at h1
  exact ⟨by rw [← h1]; simp [lowL], by simp; omega⟩
theorem LwInv.done {s : ByteArray} {k : Nat} {acc : List UInt8} (h : LwInv s.data.toList k acc) (hk : ¬ k < s.size) : acc = lowL s.data.toList := by
  obtain ⟨h1, _⟩ := h
  rw [List.drop_of_length_le (by rw [size_list]; omega)] at h1
  simpa [lowL] using h1

end Go.Proofs.YtgldgdopabmefaaGreatDoor
namespace Go.Proofs.YtgldgdopabmefaaGreatDoor
open Go.RowKit Go.Lib
set_option maxRecDepth 100000
set_option linter.unusedVariables false

set_option maxHeartbeats 1000000 in
theorem rlower_any (s : ByteArray) (w : World) (hs : s.size ≤ 4294967296) :
    Calls Tryz.prog 38 #[.string s] w fun e w' => e = .returned (.string ⟨(lowL s.data.toList).toArray⟩) ∧ Below w.heap.size w w' := by
  go_enter Tryz.func38, Tryz.ntmps38
  go_wp2
  go_loopw [3, 4] (fun v i wr => ∃ (k : Nat) (acc : List UInt8), i = .int .i64 k ∧ k ≤ s.size ∧ wr.ownsRow w.heap.size 5 1 v acc.length (byteCells acc) ∧ Below w.heap.size w wr ∧ Hid (LwInv s.data.toList k acc)) (fun _ i _ => s.size - (RowKit.intOf i).toNat)
  case atStart => exact ⟨0, [], rfl, by omega, World.ownsRow_nil _ _ _ _, Below.refl _ _, hid ⟨by simp, rfl⟩⟩
  case round =>
    obtain ⟨k, acc, rfl, hk, hown, hbw, hI⟩ := hrel
    have hacc := hI.out.2
    have hszr := hbw.size
    by_cases hlt : k < s.size
    · obtain ⟨x, hx⟩ : ∃ x, s[k]'hlt = x := ⟨_, rfl⟩
      have HN0 := hI.out.step hlt
      rw [hx] at HN0
      obtain ⟨y, hy⟩ : ∃ y, lowC x = y := ⟨_, rfl⟩
      rw [hy] at HN0
      have hyn := lowC_num x
      rw [hy] at hyn
      have HN := hid HN0
      have hln : (acc ++ [y]).length = acc.length + 1 := by simp
      have HLN := hid hln
      have hx256 := x.toNat_lt
      clear hln HN0 hy
      by_cases hc : 65 ≤ x.toNat ∧ x.toNat ≤ 90
      · rw [if_pos hc] at hyn
        have hyI : ((y.toNat : Nat) : Int) = (x.toNat : Int) + 32 := by omega
        obtain ⟨n, hn⟩ : ∃ n, x.toNat = n := ⟨_, rfl⟩
        rw [hn] at hc hyI hx256
        obtain ⟨c1, c2⟩ := hc
        have d2 : decide ((n : Int) ≤ 90) = true := by simp; omega
        have HC := hid (show (#[Value.int .u8 ((n : Int) + 32)] : Array Value) = (byteCells [y]).toArray by simp [byteCells, hyI])
        clear hyn hyI
        go_wp2_with (at_builtin; refine append_bytes rfl _ _ rfl w.heap.size _ acc rfl (hown.alloc _) ⟨wr.heap.size, 0, none⟩ 1 1 [y] rfl rfl (new_bytes wr [y] _ (0, 0) HC.out) (by omega) (by simp; omega) ?_)
        intro v' w' hown2 hgr
        have hown3 : w'.ownsRow w.heap.size 5 1 v' (acc ++ [y]).length (byteCells (acc ++ [y])) := by rw [HLN.out, hacc]; exact hown2
        have hbw3 := (hbw.alloc hszr _).grown hgr (by simp; omega) (own_ge (hown.alloc (.cells #[] 0)))
        clear hown2 hgr hown hbw
        go_wp2
        go_roundw
        case rel => exact ⟨k + 1, acc ++ [y], by go_num, by omega, hown3, hbw3, HN⟩
        case measure => simp [RowKit.intOf]; omega
      · rw [if_neg hc] at hyn
        obtain ⟨n, hn⟩ : ∃ n, x.toNat = n := ⟨_, rfl⟩
        rw [hn] at hc hyn hx256
        have HC := hid (show (#[Value.int .u8 (n : Int)] : Array Value) = (byteCells [y]).toArray by simp [byteCells, hyn])
        clear hyn
        rcases (show n < 65 ∨ (65 ≤ n ∧ 90 < n) by omega) with h6 | ⟨h6, h7⟩
        · clear hc
          go_wp2_with (at_builtin; refine append_bytes rfl _ _ rfl w.heap.size _ acc rfl (hown.alloc _) ⟨wr.heap.size, 0, none⟩ 1 1 [y] rfl rfl (new_bytes wr [y] _ (0, 0) HC.out) (by omega) (by simp; omega) ?_)
          intro v' w' hown2 hgr
          have hown3 : w'.ownsRow w.heap.size 5 1 v' (acc ++ [y]).length (byteCells (acc ++ [y])) := by rw [HLN.out, hacc]; exact hown2
          have hbw3 := (hbw.alloc hszr _).grown hgr (by simp; omega) (own_ge (hown.alloc (.cells #[] 0)))
          clear hown2 hgr hown hbw
          go_wp2
          go_roundw
          case rel => exact ⟨k + 1, acc ++ [y], by go_num, by omega, hown3, hbw3, HN⟩
          case measure => simp [RowKit.intOf]; omega
        · clear hc
          have d2 : decide ((n : Int) ≤ 90) = false := by simp; omega
          go_wp2_with (at_builtin; refine append_bytes rfl _ _ rfl w.heap.size _ acc rfl (hown.alloc _) ⟨wr.heap.size, 0, none⟩ 1 1 [y] rfl rfl (new_bytes wr [y] _ (0, 0) HC.out) (by omega) (by simp; omega) ?_)
          intro v' w' hown2 hgr
          have hown3 : w'.ownsRow w.heap.size 5 1 v' (acc ++ [y]).length (byteCells (acc ++ [y])) := by rw [HLN.out, hacc]; exact hown2
          have hbw3 := (hbw.alloc hszr _).grown hgr (by simp; omega) (own_ge (hown.alloc (.cells #[] 0)))
          clear hown2 hgr hown hbw
          go_wp2
          go_roundw
          case rel => exact ⟨k + 1, acc ++ [y], by go_num, by omega, hown3, hbw3, HN⟩
          case measure => simp [RowKit.intOf]; omega
    · have hcv := conv_own hown
      have HX := hid (hI.out.done hlt)
      go_wp2
      go_ret
      exact ⟨congrArg (fun x : List UInt8 => Ending.returned (.string ⟨x.toArray⟩)) HX.out, hbw⟩
end Go.Proofs.YtgldgdopabmefaaGreatDoor
