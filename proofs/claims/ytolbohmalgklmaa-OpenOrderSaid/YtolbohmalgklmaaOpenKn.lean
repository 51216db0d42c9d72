/- Walks over the statements of layer 11: the chapter's example. Written by tools/gen_openkn.py. -/
import Derived.Test.YtolbohmalgklmaaOpenRow
namespace Go.Proofs.Ytolbohmalgklmaa
open Go.RowKit Go.Lib
set_option maxRecDepth 100000
set_option linter.unusedVariables false
/-- A literal of texts, as names that came in. -/
theorem names_lit {ns : List (List UInt8)} {n : Nat} {C : Array Value} (W : World) (hn : ns.length = n) (hC : C.toList = strsL ns) (hs : n ≤ 1000) : NamesIn (some ⟨W.heap.size, 0, none⟩) n n ns (W.alloc (.cells C 9)) :=
  ⟨isS_of_block hn (heap_alloc_new W _) hC, by omega, Nat.le_refl _, by omega⟩
def kA : List (List UInt8) := [[104, 116, 109, 108], [100, 105, 118], [112], [98]]
def kB : List (List UInt8) := [[104, 116, 109, 108], [112], [98, 117, 116, 116, 111, 110], [98]]
def kC : List (List UInt8) := [[104, 116, 109, 108], [117, 108], [108, 105], [112]]
def kD : List (List UInt8) := [[104, 116, 109, 108], [117, 108], [108, 105], [100, 105, 118], [98]]
set_option maxHeartbeats 32000000 in
theorem known_any (w : World) : Calls Try.prog 9 #[] w fun e w' => e = .returned (.bool true) ∧ Below w.heap.size w w' := by
  have HRW := hid fun (b : Option Addr) (n : Nat) (ns : List (List UInt8)) (W : World) (g : NamesIn b n n ns W) (hn : n ≤ 3000) => row_any b n n ns W g hn
  go_enter Try.func9, Try.ntmps9
  have HN := hid (names_lit (ns := kA) (n := 4) (C := #[.string ⟨#[104, 116, 109, 108]⟩, .string ⟨#[100, 105, 118]⟩, .string ⟨#[112]⟩, .string ⟨#[98]⟩]) w rfl rfl (by omega))
  have HA := hid ((Below.refl w.heap.size w).alloc (Nat.le_refl _) (.cells #[.string ⟨#[104, 116, 109, 108]⟩, .string ⟨#[100, 105, 118]⟩, .string ⟨#[112]⟩, .string ⟨#[98]⟩] 9))
  go_wp2_with fail
  refine (HRW.out _ 4 kA _ HN.out (by omega)).mono ?_
  rintro e w1 ⟨⟨aA, cA, rfl, eA⟩, b2⟩
  have B1 := hid (HA.out.trans (b2.mono HA.out.size))
  have EA := hid eA
  clear HN HA b2 eA
  have HN := hid (names_lit (ns := kB) (n := 4) (C := #[.string ⟨#[104, 116, 109, 108]⟩, .string ⟨#[112]⟩, .string ⟨#[98, 117, 116, 116, 111, 110]⟩, .string ⟨#[98]⟩]) w1 rfl rfl (by omega))
  have HA := hid (B1.out.alloc B1.out.size (.cells #[.string ⟨#[104, 116, 109, 108]⟩, .string ⟨#[112]⟩, .string ⟨#[98, 117, 116, 116, 111, 110]⟩, .string ⟨#[98]⟩] 9))
  go_wp2_with fail
  refine (HRW.out _ 4 kB _ HN.out (by omega)).mono ?_
  rintro e w2 ⟨⟨aB, cB, rfl, eB⟩, b2⟩
  have B2 := hid (HA.out.trans (b2.mono HA.out.size))
  have EA := hid ((EA.out.below ((Below.refl w1.heap.size w1).alloc (Nat.le_refl _) (.cells #[.string ⟨#[104, 116, 109, 108]⟩, .string ⟨#[112]⟩, .string ⟨#[98, 117, 116, 116, 111, 110]⟩, .string ⟨#[98]⟩] 9))).below b2)
  have EB := hid eB
  clear HN HA b2 eB
  have HN := hid (names_lit (ns := kC) (n := 4) (C := #[.string ⟨#[104, 116, 109, 108]⟩, .string ⟨#[117, 108]⟩, .string ⟨#[108, 105]⟩, .string ⟨#[112]⟩]) w2 rfl rfl (by omega))
  have HA := hid (B2.out.alloc B2.out.size (.cells #[.string ⟨#[104, 116, 109, 108]⟩, .string ⟨#[117, 108]⟩, .string ⟨#[108, 105]⟩, .string ⟨#[112]⟩] 9))
  go_wp2_with fail
  refine (HRW.out _ 4 kC _ HN.out (by omega)).mono ?_
  rintro e w3 ⟨⟨aC, cC, rfl, eC⟩, b2⟩
  have B3 := hid (HA.out.trans (b2.mono HA.out.size))
  have EA := hid ((EA.out.below ((Below.refl w2.heap.size w2).alloc (Nat.le_refl _) (.cells #[.string ⟨#[104, 116, 109, 108]⟩, .string ⟨#[117, 108]⟩, .string ⟨#[108, 105]⟩, .string ⟨#[112]⟩] 9))).below b2)
  have EB := hid ((EB.out.below ((Below.refl w2.heap.size w2).alloc (Nat.le_refl _) (.cells #[.string ⟨#[104, 116, 109, 108]⟩, .string ⟨#[117, 108]⟩, .string ⟨#[108, 105]⟩, .string ⟨#[112]⟩] 9))).below b2)
  have EC := hid eC
  clear HN HA b2 eC
  have HN := hid (names_lit (ns := kD) (n := 5) (C := #[.string ⟨#[104, 116, 109, 108]⟩, .string ⟨#[117, 108]⟩, .string ⟨#[108, 105]⟩, .string ⟨#[100, 105, 118]⟩, .string ⟨#[98]⟩]) w3 rfl rfl (by omega))
  have HA := hid (B3.out.alloc B3.out.size (.cells #[.string ⟨#[104, 116, 109, 108]⟩, .string ⟨#[117, 108]⟩, .string ⟨#[108, 105]⟩, .string ⟨#[100, 105, 118]⟩, .string ⟨#[98]⟩] 9))
  go_wp2_with fail
  refine (HRW.out _ 5 kD _ HN.out (by omega)).mono ?_
  rintro e w4 ⟨⟨aD, cD, rfl, eD⟩, b2⟩
  have B4 := hid (HA.out.trans (b2.mono HA.out.size))
  have EA := hid ((EA.out.below ((Below.refl w3.heap.size w3).alloc (Nat.le_refl _) (.cells #[.string ⟨#[104, 116, 109, 108]⟩, .string ⟨#[117, 108]⟩, .string ⟨#[108, 105]⟩, .string ⟨#[100, 105, 118]⟩, .string ⟨#[98]⟩] 9))).below b2)
  have EB := hid ((EB.out.below ((Below.refl w3.heap.size w3).alloc (Nat.le_refl _) (.cells #[.string ⟨#[104, 116, 109, 108]⟩, .string ⟨#[117, 108]⟩, .string ⟨#[108, 105]⟩, .string ⟨#[100, 105, 118]⟩, .string ⟨#[98]⟩] 9))).below b2)
  have EC := hid ((EC.out.below ((Below.refl w3.heap.size w3).alloc (Nat.le_refl _) (.cells #[.string ⟨#[104, 116, 109, 108]⟩, .string ⟨#[117, 108]⟩, .string ⟨#[108, 105]⟩, .string ⟨#[100, 105, 118]⟩, .string ⟨#[98]⟩] 9))).below b2)
  have ED := hid eD
  clear HN HA b2 eD
  clear HRW
  have K0 := hid fun W (hb : Below w4.heap.size w4 W) (d : Option Addr) (g : NamesIn d 1 1 [[112]] W) => (show Calls Try.prog 10 #[.slice aA 4 cA, .int .u8 (2 : Nat), .slice d 1 1] W fun e w' => e = .returned (.bool true) ∧ Below W.heap.size W w' from pin_any aA 4 cA (rowK kA 4) 2 d 1 1 [[112]] W (EA.out.below hb) g (by omega))
  have K1 := hid fun W (hb : Below w4.heap.size w4 W) (d : Option Addr) (g : NamesIn d 1 1 [[112]] W) => (show Calls Try.prog 10 #[.slice aB 4 cB, .int .u8 (2 : Nat), .slice d 1 1] W fun e w' => e = .returned (.bool false) ∧ Below W.heap.size W w' from pin_any aB 4 cB (rowK kB 4) 2 d 1 1 [[112]] W (EB.out.below hb) g (by omega))
  have K2 := hid fun W (hb : Below w4.heap.size w4 W) (d : Option Addr) (g : NamesIn d 2 2 [[120], [112]] W) => (show Calls Try.prog 10 #[.slice aB 4 cB, .int .u8 (0 : Nat), .slice d 2 2] W fun e w' => e = .returned (.bool true) ∧ Below W.heap.size W w' from pin_any aB 4 cB (rowK kB 4) 0 d 2 2 [[120], [112]] W (EB.out.below hb) g (by omega))
  have K3 := hid fun W (hb : Below w4.heap.size w4 W) => (show Calls Try.prog 16 #[.slice aC 4 cC, .string ⟨#[]⟩] W fun e w' => e = .returned (.int .i64 2) ∧ Below W.heap.size W w' from pimplied_any aC 4 cC (rowK kC 4) [] W (EC.out.below hb))
  have K4 := hid fun W (hb : Below w4.heap.size w4 W) => (show Calls Try.prog 16 #[.slice aC 4 cC, .string ⟨#[112]⟩] W fun e w' => e = .returned (.int .i64 4) ∧ Below W.heap.size W w' from pimplied_any aC 4 cC (rowK kC 4) [112] W (EC.out.below hb))
  have K5 := hid fun W (hb : Below w4.heap.size w4 W) (d : Option Addr) (g : NamesIn d 1 1 [[100, 105, 118]] W) => (show Calls Try.prog 18 #[.slice aA 4 cA, .slice d 1 1] W fun e w' => e = .returned (.int .i64 1) ∧ Below W.heap.size W w' from puntil_any aA 4 cA (rowK kA 4)  d 1 1 [[100, 105, 118]] W (EA.out.below hb) g)
  have K6 := hid fun W (hb : Below w4.heap.size w4 W) (d : Option Addr) (g : NamesIn d 1 1 [[108, 105]] W) => (show Calls Try.prog 22 #[.slice aD 5 cD, .slice d 1 1] W fun e w' => e = .returned (.int .i64 2) ∧ Below W.heap.size W w' from pitem_any aD 5 cD (rowK kD 5)  d 1 1 [[108, 105]] W (ED.out.below hb) g)
  have K7 := hid fun W (hb : Below w4.heap.size w4 W) (d : Option Addr) (g : NamesIn d 1 1 [[117, 108]] W) => (show Calls Try.prog 20 #[.slice aC 4 cC, .slice d 1 1] W fun e w' => e = .returned (.int .i64 2) ∧ Below W.heap.size W w' from pclear_any aC 4 cC (rowK kC 4)  d 1 1 [[117, 108]] W (EC.out.below hb) g)
  have K8 := hid fun W => (show Calls Try.prog 12 #[.int .u8 (0 : Nat), .string ⟨#[112]⟩] W fun e w' => e = .returned (.bool true) ∧ Below W.heap.size W w' from pspec_any 0 [112] W (by omega))
  have K9 := hid fun W => (show Calls Try.prog 14 #[.string ⟨#[98]⟩] W fun e w' => e = .returned (.bool true) ∧ W = w' from pfmt_any [98] W)
  have C4 := hid (Below.refl w4.heap.size w4)
  clear EA EB EC ED
  have HN := hid (names_lit (ns := [[112]]) (n := 1) (C := #[.string ⟨#[112]⟩]) w4 rfl rfl (by omega))
  have HA := hid (C4.out.alloc C4.out.size (.cells #[.string ⟨#[112]⟩] 9))
  go_wp2_with fail
  refine (K0.out _ HA.out _ HN.out).mono ?_
  rintro e w5 ⟨rfl, b2⟩
  have C5 := hid (HA.out.trans (b2.mono HA.out.size))
  clear b2 HN HA
  have HN := hid (names_lit (ns := [[112]]) (n := 1) (C := #[.string ⟨#[112]⟩]) w5 rfl rfl (by omega))
  have HA := hid (C5.out.alloc C5.out.size (.cells #[.string ⟨#[112]⟩] 9))
  go_wp2_with fail
  refine (K1.out _ HA.out _ HN.out).mono ?_
  rintro e w6 ⟨rfl, b2⟩
  have C6 := hid (HA.out.trans (b2.mono HA.out.size))
  clear b2 HN HA
  have HN := hid (names_lit (ns := [[120], [112]]) (n := 2) (C := #[.string ⟨#[120]⟩, .string ⟨#[112]⟩]) w6 rfl rfl (by omega))
  have HA := hid (C6.out.alloc C6.out.size (.cells #[.string ⟨#[120]⟩, .string ⟨#[112]⟩] 9))
  go_wp2_with fail
  refine (K2.out _ HA.out _ HN.out).mono ?_
  rintro e w7 ⟨rfl, b2⟩
  have C7 := hid (HA.out.trans (b2.mono HA.out.size))
  clear b2 HN HA
  go_wp2_with fail
  refine (K3.out _ C7.out).mono ?_
  rintro e w8 ⟨rfl, b2⟩
  have C8 := hid (C7.out.trans (b2.mono C7.out.size))
  clear b2
  go_wp2_with fail
  refine (K4.out _ C8.out).mono ?_
  rintro e w9 ⟨rfl, b2⟩
  have C9 := hid (C8.out.trans (b2.mono C8.out.size))
  clear b2
  have HN := hid (names_lit (ns := [[100, 105, 118]]) (n := 1) (C := #[.string ⟨#[100, 105, 118]⟩]) w9 rfl rfl (by omega))
  have HA := hid (C9.out.alloc C9.out.size (.cells #[.string ⟨#[100, 105, 118]⟩] 9))
  go_wp2_with fail
  refine (K5.out _ HA.out _ HN.out).mono ?_
  rintro e w10 ⟨rfl, b2⟩
  have C10 := hid (HA.out.trans (b2.mono HA.out.size))
  clear b2 HN HA
  have HN := hid (names_lit (ns := [[108, 105]]) (n := 1) (C := #[.string ⟨#[108, 105]⟩]) w10 rfl rfl (by omega))
  have HA := hid (C10.out.alloc C10.out.size (.cells #[.string ⟨#[108, 105]⟩] 9))
  go_wp2_with fail
  refine (K6.out _ HA.out _ HN.out).mono ?_
  rintro e w11 ⟨rfl, b2⟩
  have C11 := hid (HA.out.trans (b2.mono HA.out.size))
  clear b2 HN HA
  have HN := hid (names_lit (ns := [[117, 108]]) (n := 1) (C := #[.string ⟨#[117, 108]⟩]) w11 rfl rfl (by omega))
  have HA := hid (C11.out.alloc C11.out.size (.cells #[.string ⟨#[117, 108]⟩] 9))
  go_wp2_with fail
  refine (K7.out _ HA.out _ HN.out).mono ?_
  rintro e w12 ⟨rfl, b2⟩
  have C12 := hid (HA.out.trans (b2.mono HA.out.size))
  clear b2 HN HA
  go_wp2_with fail
  refine (K8.out _).mono ?_
  rintro e w13 ⟨rfl, b2⟩
  have C13 := hid (C12.out.trans (b2.mono C12.out.size))
  clear b2
  go_wp2_with fail
  refine (K9.out _).mono ?_
  rintro e w14 ⟨rfl, rfl⟩
  go_wp2
  go_ret
  exact ⟨rfl, B4.out.trans (C13.out.mono B4.out.size)⟩
end Go.Proofs.Ytolbohmalgklmaa
