/- Walks over the program's package open: what is special, whose end may be left out, what keeps an item, what bounds a scope. Written by tools/gen_openpc.py. -/
import Derived.Test.YtolbohmalgklmaaOpenCt
import Derived.Test.YtolbohmalgklmaaOpenSw
import Derived.Test.YtolbohmalgklmaaOpenLa
namespace Go.Proofs.Ytolbohmalgklmaa
open Go.RowKit Go.Lib
set_option maxRecDepth 100000
set_option linter.unusedVariables false
theorem con_at {ns : List (List UInt8)} {y n : List UInt8} {R c : Bool} (hR : ns.contains y = R) (h : (y == n) = true) (hm : ns.contains n = c) : c = R := by
  rw [← hR, beq_iff_eq.1 h, hm]
set_option maxHeartbeats 16000000 in
theorem pspec_any (sp : Nat) (nm : List UInt8) (w : World) (hsp : sp < 256) :
    Calls Try.prog 12 #[.int .u8 sp, .string (bs nm)] w fun e w' => e = .returned (.bool (Opn.specialB sp nm)) ∧ Below w.heap.size w w' := by
  have H0 := hid fun W => pspecH_any nm W
  have H1 := hid fun (a : Addr) W (h : IsS W (some a) 3 Opn.specS) => pcontains_any (some a) 3 3 Opn.specS nm W h (by omega) (by omega) (by omega)
  have H2 := hid fun (a : Addr) W (h : IsS W (some a) 6 Opn.specM) => pcontains_any (some a) 6 6 Opn.specM nm W h (by omega) (by omega) (by omega)
  have HR := hid (show Opn.specialB sp nm = if sp = 0 then Opn.specH.contains nm else if sp = 2 then Opn.specM.contains nm else if sp = 1 then Opn.specS.contains nm else false from rfl)
  generalize Opn.specialB sp nm = R at *
  generalize bs nm = X at *
  by_cases h0 : sp = 0
  · subst h0
    generalize Opn.specH.contains nm = c at *
    go_enter Try.func12, Try.ntmps12
    go_wp2_with fail
    refine (H0.out _).mono ?_
    rintro e w2 ⟨rfl, rfl⟩
    go_wp2
    go_ret
    exact ⟨ret_bool' (by rw [HR.out]; simp), Below.refl _ _⟩
  · have d1 : decide (sp = 0) = false := decide_eq_false h0
    by_cases h2 : sp = 2
    · subst h2
      generalize Opn.specM.contains nm = c at *
      go_enter Try.func12, Try.ntmps12
      go_wp2_with fail
      refine (H2.out _ _ (isS_of_block rfl (heap_alloc_new w _) rfl)).mono ?_
      rintro e w2 ⟨rfl, rfl⟩
      go_wp2
      go_ret
      exact ⟨ret_bool' (by rw [HR.out]; simp), (Below.refl _ _).alloc (Nat.le_refl _) _⟩
    · have d2 : decide (sp = 2) = false := decide_eq_false h2
      by_cases h1 : sp = 1
      · subst h1
        generalize Opn.specS.contains nm = c at *
        go_enter Try.func12, Try.ntmps12
        go_wp2_with fail
        refine (H1.out _ _ (isS_of_block rfl (heap_alloc_new w _) rfl)).mono ?_
        rintro e w2 ⟨rfl, rfl⟩
        go_wp2
        go_ret
        exact ⟨ret_bool' (by rw [HR.out]; simp), (Below.refl _ _).alloc (Nat.le_refl _) _⟩
      · have d3 : decide (sp = 1) = false := decide_eq_false h1
        go_enter Try.func12, Try.ntmps12
        go_wp2
        go_ret
        exact ⟨ret_bool' (by rw [HR.out, if_neg h0, if_neg h2, if_neg h1]), Below.refl _ _⟩
set_option maxHeartbeats 8000000 in
theorem pends_any (x : Opn.E) (w : World) :
    Calls Try.prog 35 #[.agg #[.int .i64 x.id, .int .u8 x.space, .string (bs x.name), .int .u8 x.point]] w fun e w' => e = .returned (.bool (Opn.oneB x Opn.impN)) ∧ Below w.heap.size w w' := by
  have HO := hid fun (a : Addr) W (h : IsS W (some a) 10 Opn.impN) => pone_any x.id x.space x.point x.name (some a) 10 10 Opn.impN W h (by omega) (by omega) (by omega)
  obtain ⟨R, hR⟩ : ∃ R, Opn.oneB x Opn.impN = R := ⟨_, rfl⟩
  rw [show Opn.oneB ⟨x.id, x.space, x.name, x.point⟩ Opn.impN = Opn.oneB x Opn.impN from rfl, hR] at HO
  rw [hR]
  generalize bs x.name = X at *
  have h := isS_of_block (ls := Opn.impN) (n := 10) rfl (heap_alloc_new (w.alloc (.cells #[.int .i64 x.id, .int .u8 x.space, .string X, .int .u8 x.point] 37)) (.cells #[.string ⟨#[100, 100]⟩, .string ⟨#[100, 116]⟩, .string ⟨#[108, 105]⟩, .string ⟨#[111, 112, 116, 103, 114, 111, 117, 112]⟩, .string ⟨#[111, 112, 116, 105, 111, 110]⟩, .string ⟨#[112]⟩, .string ⟨#[114, 98]⟩, .string ⟨#[114, 112]⟩, .string ⟨#[114, 116]⟩, .string ⟨#[114, 116, 99]⟩] 9)) rfl
  rw [World.size_alloc] at h
  have HN := hid h
  have al := hid (((Below.refl w.heap.size w).alloc (Nat.le_refl _) (.cells #[.int .i64 x.id, .int .u8 x.space, .string X, .int .u8 x.point] 37)).alloc (by simp) (.cells #[.string ⟨#[100, 100]⟩, .string ⟨#[100, 116]⟩, .string ⟨#[108, 105]⟩, .string ⟨#[111, 112, 116, 103, 114, 111, 117, 112]⟩, .string ⟨#[111, 112, 116, 105, 111, 110]⟩, .string ⟨#[112]⟩, .string ⟨#[114, 98]⟩, .string ⟨#[114, 112]⟩, .string ⟨#[114, 116]⟩, .string ⟨#[114, 116, 99]⟩] 9))
  clear h hR
  go_enter Try.func35, Try.ntmps35
  go_wp2_with fail
  refine (HO.out _ _ HN.out).mono ?_
  rintro e w2 ⟨rfl, b2⟩
  have B2 := hid (al.out.trans (b2.mono al.out.size))
  go_wp2
  go_ret
  exact ⟨rfl, B2.out⟩
set_option maxHeartbeats 8000000 in
theorem pkeep_any (x : Opn.E) (w : World) (hsp : x.space < 256) :
    Calls Try.prog 39 #[.agg #[.int .i64 x.id, .int .u8 x.space, .string (bs x.name), .int .u8 x.point]] w fun e w' => e = .returned (.bool (Opn.keepB x)) ∧ Below w.heap.size w w' := by
  have HS := hid fun W => pspec_any x.space x.name W hsp
  have HO := hid fun (a : Addr) W (h : IsS W (some a) 3 Opn.adpN) => pone_any x.id x.space x.point x.name (some a) 3 3 Opn.adpN W h (by omega) (by omega) (by omega)
  have HR := hid (show Opn.keepB x = (Opn.specialB x.space x.name && !Opn.oneB x Opn.adpN) from rfl)
  generalize Opn.keepB x = R at *
  obtain ⟨s, hs⟩ : ∃ s, Opn.specialB x.space x.name = s := ⟨_, rfl⟩
  obtain ⟨o, ho⟩ : ∃ o, Opn.oneB x Opn.adpN = o := ⟨_, rfl⟩
  rw [show Opn.oneB ⟨x.id, x.space, x.name, x.point⟩ Opn.adpN = Opn.oneB x Opn.adpN from rfl, ho] at HO
  rw [hs] at HS
  rw [hs, ho] at HR
  generalize bs x.name = X at *
  have al := hid ((Below.refl w.heap.size w).alloc (Nat.le_refl _) (.cells #[.int .i64 x.id, .int .u8 x.space, .string X, .int .u8 x.point] 37))
  have c0 := (BlkW.new w #[.int .i64 x.id, .int .u8 x.space, .string X, .int .u8 x.point] 37).cell 0
  have c1 := (BlkW.new w #[.int .i64 x.id, .int .u8 x.space, .string X, .int .u8 x.point] 37).cell 1
  have c2 := (BlkW.new w #[.int .i64 x.id, .int .u8 x.space, .string X, .int .u8 x.point] 37).cell 2
  have c3 := (BlkW.new w #[.int .i64 x.id, .int .u8 x.space, .string X, .int .u8 x.point] 37).cell 3
  simp only [List.getElem?_toArray, List.getElem?_cons_zero, List.getElem?_cons_succ] at c0 c1 c2 c3
  have HC := hid (And.intro c0 (And.intro c1 (And.intro c2 c3)))
  clear hs ho c0 c1 c2 c3
  cases s with
  | false =>
    go_enter Try.func39, Try.ntmps39
    go_wp2_with fail
    refine (HS.out _).mono ?_
    rintro e w2 ⟨rfl, b2⟩
    have B2 := hid (al.out.trans (b2.mono al.out.size))
    clear b2
    go_wp2
    go_ret
    exact ⟨ret_bool' (by rw [HR.out]; rfl), B2.out⟩
  | true =>
    go_enter Try.func39, Try.ntmps39
    go_wp2_with fail
    refine (HS.out _).mono ?_
    rintro e w2 ⟨rfl, b2⟩
    have c0 := cell_up HC.out.1 b2
    have c1 := cell_up HC.out.2.1 b2
    have c2 := cell_up HC.out.2.2.1 b2
    have c3 := cell_up HC.out.2.2.2 b2
    have B2 := hid (al.out.trans (b2.mono al.out.size))
    have HN := hid (isS_of_block (ls := Opn.adpN) (n := 3) rfl (heap_alloc_new w2 (.cells #[.string ⟨#[97, 100, 100, 114, 101, 115, 115]⟩, .string ⟨#[100, 105, 118]⟩, .string ⟨#[112]⟩] 9)) rfl)
    clear b2 HC
    go_wp2_with fail
    refine (HO.out _ _ HN.out).mono ?_
    rintro e w3 ⟨rfl, b3⟩
    have B3 := hid ((B2.out.alloc B2.out.size (.cells #[.string ⟨#[97, 100, 100, 114, 101, 115, 115]⟩, .string ⟨#[100, 105, 118]⟩, .string ⟨#[112]⟩] 9)).trans (b3.mono (B2.out.alloc B2.out.size _).size))
    clear b3 HN c0 c1 c2 c3
    go_wp2
    go_ret
    exact ⟨ret_bool' (by rw [HR.out]; simp), B3.out⟩
set_option maxHeartbeats 64000000 in
theorem pbounds_any (x : Opn.E) (sc : Nat) (w : World) (hsp : x.space < 256) (hsc : sc < 256) :
    Calls Try.prog 28 #[.int .u8 sc, .agg #[.int .i64 x.id, .int .u8 x.space, .string (bs x.name), .int .u8 x.point]] w fun e w' => e = .returned (.bool (Opn.boundB x sc)) ∧ Below w.heap.size w w' := by
  have HS := hid fun W => pspec_any x.space x.name W hsp
  have HO := hid fun (a : Addr) W (h : IsS W (some a) 3 Opn.tabN) => pone_any x.id x.space x.point x.name (some a) 3 3 Opn.tabN W h (by omega) (by omega) (by omega)
  have HR := hid (show Opn.boundB x sc = if sc = 3 then Opn.oneB x Opn.tabN else if x.space ≠ 0 then Opn.specialB x.space x.name else (Opn.boundN sc).contains (bs x.name).toList by rw [bs_list]; rfl)
  generalize Opn.boundB x sc = R at *
  obtain ⟨s, hs⟩ : ∃ s, Opn.specialB x.space x.name = s := ⟨_, rfl⟩
  obtain ⟨o, ho⟩ : ∃ o, Opn.oneB x Opn.tabN = o := ⟨_, rfl⟩
  rw [show Opn.oneB ⟨x.id, x.space, x.name, x.point⟩ Opn.tabN = Opn.oneB x Opn.tabN from rfl, ho] at HO
  rw [hs] at HS
  rw [hs, ho] at HR
  generalize bs x.name = X at *
  have al := hid ((Below.refl w.heap.size w).alloc (Nat.le_refl _) (.cells #[.int .i64 x.id, .int .u8 x.space, .string X, .int .u8 x.point] 37))
  clear hs ho
  obtain ⟨sp, hp⟩ : ∃ sp, x.space = sp := ⟨_, rfl⟩
  rw [hp] at hsp HS HO HR al ⊢
  clear hp
  by_cases h3 : sc = 3
  · subst h3
    have h := isS_of_block (ls := Opn.tabN) (n := 3) rfl (heap_alloc_new (w.alloc (.cells #[.int .i64 x.id, .int .u8 sp, .string X, .int .u8 x.point] 37)) (.cells #[.string ⟨#[104, 116, 109, 108]⟩, .string ⟨#[116, 97, 98, 108, 101]⟩, .string ⟨#[116, 101, 109, 112, 108, 97, 116, 101]⟩] 9)) rfl
    rw [World.size_alloc] at h
    have HN := hid h
    have al2 := hid (al.out.alloc al.out.size (.cells #[.string ⟨#[104, 116, 109, 108]⟩, .string ⟨#[116, 97, 98, 108, 101]⟩, .string ⟨#[116, 101, 109, 112, 108, 97, 116, 101]⟩] 9))
    clear h
    go_enter Try.func28, Try.ntmps28
    go_wp2_with fail
    refine (HO.out _ _ HN.out).mono ?_
    rintro e w2 ⟨rfl, b2⟩
    have B2 := hid (al2.out.trans (b2.mono al2.out.size))
    clear b2
    go_wp2
    go_ret
    exact ⟨ret_bool' (by rw [HR.out]; simp), B2.out⟩
  · have d3 : ((sc : Int) == 3) = false := by simp; omega
    rw [if_neg h3] at HR
    by_cases h0 : sp = 0
    · subst h0
      rw [if_neg (by simp)] at HR
      clear HS HO
      by_cases h1 : sc = 1
      · subst h1
        rw [show Opn.boundN 1 = Opn.listN from rfl] at HR
        go_enter Try.func28, Try.ntmps28
        go_wp2
        all_goals go_ret
        all_goals refine ⟨ret_bool' ?_, al.out⟩
        all_goals first
          | (rename_i h; exact con_at HR.out.symm h rfl)
          | (exfalso; clear HR al; simp_all; done)
          | (rw [HR.out]; simp only [Opn.listN, List.contains_cons, List.contains_nil, Bool.or_self, *])
      · by_cases h2 : sc = 2
        · subst h2
          rw [show Opn.boundN 2 = Opn.butN from rfl] at HR
          go_enter Try.func28, Try.ntmps28
          go_wp2
          all_goals go_ret
          all_goals refine ⟨ret_bool' ?_, al.out⟩
          all_goals first
            | (rename_i h; exact con_at HR.out.symm h rfl)
            | (exfalso; clear HR al; simp_all; done)
            | (rw [HR.out]; simp only [Opn.butN, List.contains_cons, List.contains_nil, Bool.or_self, *])
        · have d1 : ((sc : Int) == 1) = false := by simp; omega
          have d2 : ((sc : Int) == 2) = false := by simp; omega
          rw [show Opn.boundN sc = Opn.allN by unfold Opn.boundN; rw [if_neg h1, if_neg h2]] at HR
          go_enter Try.func28, Try.ntmps28
          go_wp2
          all_goals go_ret
          all_goals refine ⟨ret_bool' ?_, al.out⟩
          all_goals first
            | (rename_i h; exact con_at HR.out.symm h rfl)
            | (exfalso; clear HR al; simp_all; done)
            | (rw [HR.out]; simp only [Opn.allN, List.contains_cons, List.contains_nil, Bool.or_self, *])
    · have d0 : decide (sp = 0) = false := decide_eq_false h0
      rw [if_pos h0] at HR
      clear HO
      go_enter Try.func28, Try.ntmps28
      go_wp2_with fail
      refine (HS.out _).mono ?_
      rintro e w2 ⟨rfl, b2⟩
      have B2 := hid (al.out.trans (b2.mono al.out.size))
      clear b2
      go_wp2
      go_ret
      exact ⟨ret_bool' HR.out.symm, B2.out⟩
end Go.Proofs.Ytolbohmalgklmaa
