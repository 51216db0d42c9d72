/- Two tokens in memory, the result and one in work; what note's Read tells where something begins. -/
import Derived.Test.YtgldgdopabmefaaDoorNoteRead
namespace Go.Proofs.YtgldgdopabmefaaDoor
open Go.RowKit Go.Lib
set_option maxRecDepth 100000
set_option linter.unusedVariables false

/-- Two tokens in memory, one behind the other: the result, and the one in work. -/
structure TwoW (w W : World) (K : Nat) (T : ByteArray) : Prop where
  res : BlkW W w.heap.size #[.int .u8 0, .string ⟨#[]⟩, .slice none 0 0, .bool false, .string ⟨#[]⟩] 25
  tok : BlkW W (w.heap.size + 1) #[.int .u8 K, .string ⟨#[]⟩, .slice none 0 0, .bool false, .string T] 25
  bel : Below w.heap.size w W
theorem two_new (w : World) : TwoW w ((w.alloc (.cells #[.int .u8 0, .string ⟨#[]⟩, .slice none 0 0, .bool false, .string ⟨#[]⟩] 25)).alloc (.cells #[.int .u8 4, .string ⟨#[]⟩, .slice none 0 0, .bool false, .string ⟨#[]⟩] 25)) 4 ⟨#[]⟩ :=
  ⟨(BlkW.new w _ _).alloc _, by
    have h := BlkW.new (w.alloc (.cells #[.int .u8 0, .string ⟨#[]⟩, .slice none 0 0, .bool false, .string ⟨#[]⟩] 25)) #[.int .u8 4, .string ⟨#[]⟩, .slice none 0 0, .bool false, .string ⟨#[]⟩] 25
    rwa [show (w.alloc (.cells #[.int .u8 0, .string ⟨#[]⟩, .slice none 0 0, .bool false, .string ⟨#[]⟩] 25)).heap.size = w.heap.size + 1 by simp] at h, ((Below.refl w.heap.size w).alloc (Nat.le_refl _) _).alloc (by simp) _⟩
theorem TwoW.below' {w W W' : World} {K : Nat} {T : ByteArray} (h : TwoW w W K T) (hb : Below W.heap.size W W') : TwoW w W' K T := ⟨h.res.below hb h.res.lt, h.tok.below hb h.tok.lt, h.bel.trans (hb.mono h.bel.size)⟩
theorem TwoW.text {w W : World} {K : Nat} {T : ByteArray} (h : TwoW w W K T) (T' : ByteArray) : TwoW w (W.setCell ⟨w.heap.size + 1, 4, none⟩ (.string T')) K T' :=
  ⟨h.res.far _ _ (by simp), h.tok.set_ 4 _, h.bel.setCell (by simp) _⟩
theorem noteV_yes {l : List UInt8} {n : Nat} {cd : Bool} {K m : Nat} {t : List UInt8} (hb : begNI l n = true) (hf : Note.first (l.drop n) cd = (K, t, m)) : noteV l n cd = .tuple #[.agg #[.int .u8 K, .string ⟨#[]⟩, .slice none 0 0, .bool false, .string (bs t)], .int .i64 ((n : Int) + (m : Int))] := by
  unfold noteV
  rw [if_pos hb, show ((n : Int)).toNat = n by omega, hf]
  rfl
theorem two_new6 (w : World) : TwoW w ((w.alloc (.cells #[.int .u8 0, .string ⟨#[]⟩, .slice none 0 0, .bool false, .string ⟨#[]⟩] 25)).alloc (.cells #[.int .u8 6, .string ⟨#[]⟩, .slice none 0 0, .bool false, .string ⟨#[]⟩] 25)) 6 ⟨#[]⟩ :=
  ⟨(BlkW.new w _ _).alloc _, by
    have h := BlkW.new (w.alloc (.cells #[.int .u8 0, .string ⟨#[]⟩, .slice none 0 0, .bool false, .string ⟨#[]⟩] 25)) #[.int .u8 6, .string ⟨#[]⟩, .slice none 0 0, .bool false, .string ⟨#[]⟩] 25
    rwa [show (w.alloc (.cells #[.int .u8 0, .string ⟨#[]⟩, .slice none 0 0, .bool false, .string ⟨#[]⟩] 25)).heap.size = w.heap.size + 1 by simp] at h, ((Below.refl w.heap.size w).alloc (Nat.le_refl _) _).alloc (by simp) _⟩
theorem TwoW.more {w W : World} {K : Nat} {T : ByteArray} (h : TwoW w W K T) (o : Obj) : TwoW w (W.alloc o) K T := ⟨h.res.alloc o, h.tok.alloc o, h.bel.alloc h.bel.size o⟩
theorem blk_far {W : World} {g H : Nat} {cs : Array Value} {t : TypeId} (h : BlkW W H cs t) (hg : W.heap.size = g) : H ≠ g := by have := h.lt; omega
end Go.Proofs.YtgldgdopabmefaaDoor
