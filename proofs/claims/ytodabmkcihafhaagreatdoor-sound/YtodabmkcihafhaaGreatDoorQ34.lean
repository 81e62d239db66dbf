import Derived.BigQuiet
import Derived.Test.YtodabmkcihafhaaGreatDoorQ33

/- The law's digits. -/
namespace Go.Proofs.YtodabmkcihafhaaGreatDoor
open Go.RowKit
set_option linter.unusedVariables false
/-- The outer loop's world. -/
structure DW (N : Nat) (aZ aB : Addr) (K P m T r B : Nat) (names : List (Int × Num)) (w : World) (v1 v2 : Value) (DP : List (Int × Int)) (W : World) : Prop where
  lv : LV N aZ aB K P m T r B names w W
  r1 : W.ownsRow w.heap.size 3 1 v1 DP.length (iC (DP.map (·.1)))
  r2 : W.ownsRow w.heap.size 3 1 v2 DP.length (iC (DP.map (·.2)))
section
variable {N : Nat} {aZ aB : Addr} {K P m T r B : Nat} {names : List (Int × Num)} {w W W' : World} {v1 v2 : Value} {DP : List (Int × Int)}
theorem DW.below (h : DW N aZ aB K P m T r B names w v1 v2 DP W) (g : Below W.heap.size W W') : DW N aZ aB K P m T r B names w v1 v2 DP W' := ⟨h.lv.below g, row_below h.r1 g, row_below h.r2 g⟩
theorem DW.kept (h : DW N aZ aB K P m T r B names w v1 v2 DP W) (g : Kp (· = r) W W') (ht : Tb T r names W') : DW N aZ aB K P m T r B names w v1 v2 DP W' :=
  ⟨h.lv.kept g ht, row_kept h.r1 g h.lv.hr, row_kept h.r2 g h.lv.hr⟩
/-- A store into a block that is new. -/
theorem tb_new2 {X : Nat} {Wo : World} (h : Tb T r names W) (hk : Kp (· = r) Wo W) (hT : T < Wo.heap.size) (hr : r < Wo.heap.size) (hX : Wo.heap.size ≤ X) (i j : Nat) (a b : Value) :
    Tb T r names ((W.setCell ⟨X, i, none⟩ a).setCell ⟨X, j, none⟩ b) ∧ Kp (· = r) Wo ((W.setCell ⟨X, i, none⟩ a).setCell ⟨X, j, none⟩ b) := by
  obtain ⟨es, clock, h1, h2⟩ := h.hr
  refine ⟨⟨?_, es, clock, ?_, h2⟩, (hk.setCell (p := ⟨X, i, none⟩) (Or.inr hX) _).setCell (p := ⟨X, j, none⟩) (Or.inr hX) _⟩
  · rw [Below.heap_setCell _ _ _ _ (by simp; omega), Below.heap_setCell _ _ _ _ (by simp; omega)]; exact h.ht
  · rw [Below.heap_setCell _ _ _ _ (by simp; omega), Below.heap_setCell _ _ _ _ (by simp; omega)]; exact h1
end
theorem dgP_le (a : Ans) (n : Int) : (dgP a n).length ≤ 20 := by
  unfold dgP tellA
  cases a with
  | err q p => simp
  | ok x =>
    by_cases h : n < 0 ∨ n > 20
    · simp [h]
    · simp only [if_neg h, digP_len]
      omega
set_option maxHeartbeats 8000000 in
set_option maxRecDepth 100000 in
theorem ldigits_any (N : Nat) (aZ aB : Addr) (K P m T r B : Nat) (names : List (Int × Num)) (s : ByteArray) (n : Int) (w : World) (h : Pr N aZ aB K P m T r B names w) :
    Calls Tryz.prog 24 #[prV K B, .string s, .int .i64 n] w fun e w' => e = .returned (.bool true) ∧ Tb T r names w' ∧ Kp (· = r) w w' := by
  have h0 := LV.new h
  have CW := hidMk (fun W hW => wanted_any K B names s n W h.nl h.bk.pw.nm hW)
  have CU := hidMk (fun W hW => lunit_any K B names s n W h.nl h.bk.pw.nm hW)
  have CD := hidMk (fun W hW => bdigits_any N aZ aB K P m T r names s n W hW)
  have C0 := hidMk (fun W hW => bdigits_any N aZ aB K P m T r names ⟨#[48]⟩ n W hW)
  have C1 := hidMk (fun W hW => bdigits_any N aZ aB K P m T r names ⟨#[226, 136, 146, 49]⟩ n W hW)
  have C15 := hidMk (fun e W => num_any e W)
  have hD20 := dgP_le (valS names s) n
  clear h
  generalize dgP (valS names s) n = DP at *
  generalize ansE (tellA (valS names s) n) = E at *
  generalize ansP (tellA (valS names s) n) = Q at *
  generalize dgU (valS names s) n = U at *
  go_enter Tryz.func24, Tryz.ntmps24
  go_upto_region 1 with fail
  generalize w.alloc _ = W at *
  obtain ⟨c0, c1, _, _⟩ := two_cells h0.hx
  have H0 := hidMk h0
  clear h0
  go_wp2_with fail
  refine (CW.out _ H0.out.pr.nr).mono ?_
  rintro e w1 ⟨v1, v2, rfl, hr1, hr2, hb1⟩
  have HD : Hid (DW N aZ aB K P m T r B names w v1 v2 DP w1) := ⟨H0.out.below hb1, row_mono hr1 H0.out.hk.size, row_mono hr2 H0.out.hk.size⟩
  clear H0 hr1 hr2 hb1 c0 c1 CW
  obtain ⟨o1, cc1, hv1⟩ := row_len HD.out.r1
  obtain ⟨o2, cc2, hv2⟩ := row_len HD.out.r2
  subst hv1 hv2
  go_wp2_with fail
  go_loopg [11] 2 (fun g s11 wr => ∃ t : Nat, s11 = .int .i64 t ∧ t ≤ 2 ∧ Hid (t + g = 2) ∧ Hid (DW N aZ aB K P m T r B names w (.slice o1 DP.length cc1) (.slice o2 DP.length cc2) DP wr))
  case atStart => exact ⟨0, rfl, by omega, rfl, HD.out⟩
  case round =>
    clear HD
    rename World => Wo
    rename Nat => gO
    obtain ⟨t, rfl, ht2, hg, HW⟩ := hrel
    by_cases htt : t < 2
    · have q0 : (t : Int) < 2 := by omega
      obtain ⟨c0, c1, _, _⟩ := two_cells HW.out.lv.hx
      go_wp2_with fail
      refine (CD.out _ HW.out.lv.pr.bk).mono ?_
      rintro e w2 ⟨v, rfl, hrow, hsl, ht, hk⟩
      have H2 := hidMk (HW.out.kept hk ht)
      have HKO := hidMk hk
      have HRO := hidMk hrow
      clear hk ht hrow c0 c1
      obtain ⟨gg, ll, cp, rfl⟩ := hsl
      obtain ⟨c0, c1, _, _⟩ := two_cells H2.out.lv.hx
      go_wp2_with fail
      refine (C0.out _ H2.out.lv.pr.bk).mono ?_
      rintro e w3 ⟨v', rfl, hrow', hsl', ht', hk'⟩
      have H3 := hidMk (H2.out.kept hk' ht')
      have HK3 := hidMk (HKO.out.trans hk')
      have HR3 := hidMk (row_kept HRO.out hk' (Nat.lt_of_lt_of_le HW.out.lv.hr HW.out.lv.hk.size))
      clear hk' ht' hrow' c0 c1 H2 HKO HRO
      obtain ⟨gg', ll', cp', rfl⟩ := hsl'
      obtain ⟨c0, c1, _, _⟩ := two_cells H3.out.lv.hx
      go_wp2_with fail
      refine (C1.out _ H3.out.lv.pr.bk).mono ?_
      rintro e w4 ⟨v', rfl, hrow', hsl', ht', hk'⟩
      have H4 := hidMk (H3.out.kept hk' ht')
      have HK4 := hidMk (HK3.out.trans hk')
      have HR4 := hidMk (row_kept HR3.out hk' (Nat.lt_of_lt_of_le HW.out.lv.hr HW.out.lv.hk.size))
      clear hk' ht' hrow' c0 c1 H3 HK3 HR3
      obtain ⟨gg', ll', cp', rfl⟩ := hsl'
      obtain ⟨o, cap, hoc, hor⟩ := row_digits HR4.out
      simp only [Value.slice.injEq] at hoc
      obtain ⟨rfl, rfl, rfl⟩ := hoc
      have HOR := hidMk hor
      clear hor
      obtain ⟨c0, c1, _, _⟩ := two_cells H4.out.lv.hx
      have cu := CU.out w4 H4.out.lv.pr.nr
      go_wp2_with (first | (go_at_call 15; refine (C15.out _ _).mono ?_; rintro e w5 ⟨rfl, rfl⟩) | (go_at_call 43; refine cu.mono ?_; clear cu; rintro e w5 ⟨rfl, hb5⟩))
      have HI5 : Hid (Kp (· = r) Wo w5 ∧ Tb T r names w5 ∧ (DP = [] ∨ ∃ g, gg = some ⟨g, 0, none⟩ ∧ Wo.heap.size ≤ g ∧ LDg DP cp g 0 w5)) := by
        refine ⟨HK4.out.below hb5, H4.out.lv.pr.bk.pw.tb.of_below hb5, ?_⟩
        rcases HOR.out with h | ⟨g, h1, h2, h3⟩
        · exact Or.inl h
        · exact Or.inr ⟨g, h1, h2, h3.kept (r := r) (Kp.of_below hb5) (Nat.lt_of_lt_of_le (Nat.lt_of_lt_of_le HW.out.lv.hr HW.out.lv.hk.size) h2)⟩
      clear HOR HR4 HK4 H4 hb5 c0 c1
      go_loopg [16] DP.length (fun gi s16 wi => ∃ i : Nat, s16 = .int .i64 i ∧ i ≤ DP.length ∧ Hid (DP.length - i = gi) ∧ Hid (Kp (· = r) Wo wi ∧ Tb T r names wi ∧ (DP = [] ∨ ∃ g, gg = some ⟨g, 0, none⟩ ∧ Wo.heap.size ≤ g ∧ LDg DP cp g i wi)))
      case atStart => exact ⟨0, rfl, Nat.zero_le _, rfl, HI5.out⟩
      case round =>
        clear HI5
        obtain ⟨i, rfl, hi, hgi, HW6⟩ := hrel
        have HSZ := hidMk (Nat.lt_of_lt_of_le HW.out.lv.hr HW.out.lv.hk.size)
        have HD6 := hidMk (HW.out.kept HW6.out.1 HW6.out.2.1)
        by_cases hil : i < DP.length
        · have q1 : (i : Int) < (DP.length : Int) := by omega
          obtain ⟨p, hp⟩ : ∃ p, DP[i]? = some p := ⟨DP[i], List.getElem?_eq_getElem hil⟩
          obtain ⟨g1, hg1, hb1, k1⟩ := row_int (i := i) (a := p.1) HD6.out.r1 (by simp [hp]) hil
          obtain ⟨g2, hg2, hb2, k2⟩ := row_int (i := i) (a := p.2) HD6.out.r2 (by simp [hp]) hil
          obtain ⟨g3, hg3, hb3, hl3⟩ := HW6.out.2.2.resolve_left (fun e => by subst e; simp at hil)
          obtain ⟨k3, k4, f3, f4⟩ := hl3.cells hp
          have HL3 := hidMk hl3
          subst hg1 hg2 hg3
          obtain ⟨pa, pb⟩ := p
          simp only at k1 k2 k3 k4
          have HTT := hidMk (Array.getElem?_eq_some_iff.1 HW.out.lv.pr.bk.pw.tb.ht).1
          clear hp hl3 HD6
          go_wp2_with fail
          go_quiet (fail)
          go_wp2_with fail
          go_roundg (DP.length - (i + 1))
          case measure => have := hgi.out; omega
          case rel =>
            have hdr : Below wr.heap.size wr (wr.drewN nq) := below_drewN (Below.refl _ _) nq
            have h6 := tb_new2 (HW6.out.2.1.of_below hdr) (HW6.out.1.below hdr) HTT.out HSZ.out hb3 (i * 2) (i * 2 + 1) (.int .i64 5) (.int .i64 5)
            have h7 : LDg DP cp g3 i (wr.drewN nq) := ⟨HL3.out.ex⟩
            exact ⟨i + 1, rfl, by omega, rfl, h6.2, h6.1, Or.inr ⟨g3, rfl, hb3, h7.set _ _⟩⟩
        · have hie : i = DP.length := by omega
          subst hie
          go_wp2_with fail
          go_roundg (1 - t)
          case measure => have := hg.out; omega
          case rel => exact ⟨t + 1, rfl, by omega, by have := hg.out; show _ = _; omega, HD6.out⟩
    · have htt2 : t = 2 := by omega
      subst htt2
      go_wp2_with fail
      go_ret
      exact ⟨rfl, HW.out.lv.pr.bk.pw.tb, HW.out.lv.hk⟩
end Go.Proofs.YtodabmkcihafhaaGreatDoor

/- The law Told. -/
namespace Go.Proofs.YtodabmkcihafhaaGreatDoor
open Go.RowKit
set_option linter.unusedVariables false
set_option maxHeartbeats 4000000 in
set_option maxRecDepth 100000 in
theorem told_law (N : Nat) (aZ aB : Addr) (s : ByteArray) (n : Int) (w : World) (hS : Sen N aZ aB w) (hN : N ≤ w.heap.size) (hn : (Lit.int .i64 n).wf = true) :
    Calls Tryz.prog 8 #[.string s, .int .i64 n] w fun e w' => e = .returned (.bool true) ∧ Below w.heap.size w w' := by
  have C1 := hidMk (pair_any N aZ aB w hS hN)
  clear hS hN hn
  go_enter Tryz.func8, Tryz.ntmps8
  go_wp2_with fail
  refine C1.out.mono ?_
  rintro e w1 ⟨K, P, m, T, r, B, rfl, hbk, hnr, hne, h1, h2, h3, h4, h5, h6, hb⟩
  go_upto_region 2 with fail
  have hp := (Pr.mk hbk hnr (Nat.zero_le _)).below (fr_below w1 (.cells #[.pointer (some ⟨K, 0, none⟩), .pointer (some ⟨B, 0, none⟩)] 34))
  have hb2 := hb.trans ((fr_below w1 (.cells #[.pointer (some ⟨K, 0, none⟩), .pointer (some ⟨B, 0, none⟩)] 34)).mono hb.size)
  have hx := heap_alloc_new w1 (.cells #[.pointer (some ⟨K, 0, none⟩), .pointer (some ⟨B, 0, none⟩)] 34)
  generalize w1.alloc _ = W at *
  generalize w1.heap.size = bx at *
  obtain ⟨c0, c1, _, _⟩ := two_cells hx
  have HP := hidMk hp
  have HB := hidMk hb2
  have HR := hidMk h1
  clear hbk hnr hne h1 h2 h3 h4 h5 h6 hb hp hb2 hx C1
  go_wp2_with fail
  refine (ldigits_any N aZ aB K P m T r B [] s n W HP.out).mono ?_
  rintro e w2 ⟨rfl, ht, hk⟩
  go_wp2_with fail
  go_ret
  refine ⟨rfl, HB.out.trans ⟨hk.os, hk.tape, hk.output, hk.size, fun k hkk => hk.block k ?_ ?_⟩⟩
  · have := HB.out.size; omega
  · have := HR.out; omega
end Go.Proofs.YtodabmkcihafhaaGreatDoor
