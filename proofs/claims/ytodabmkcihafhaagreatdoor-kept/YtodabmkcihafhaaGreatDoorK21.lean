import Derived.Test.YtodabmkcihafhaaGreatDoorK14

/- The document's Number, walked. -/
namespace Go.Proofs.YtodabmkcihafhaaGreatDoor
open Go.RowKit
set_option linter.unusedVariables false

def zeroV : Value := .agg #[.int .i64 0, .int .i64 0, .int .i64 0, .int .i64 0]
def runV (r : Run) : Value := match r with
  | .ok vs => (match vs.getLast? with | some x => .tuple #[nV x, .int .i64 0, .int .i64 0] | none => .tuple #[zeroV, .int .i64 0, .int .i64 0])
  | .err e p => .tuple #[zeroV, .int .i64 e, .int .i64 p]
/-- P5, as the document's package has it: of names and a text. -/
def refV (names : List (Int × Num)) (s : ByteArray) : Value :=
  if refE s ≠ 0 then .tuple #[zeroV, .int .i64 (refE s), .int .i64 (refP s)]
  else if 0 ≤ missL (envOf names) (top s).L (-1) then .tuple #[zeroV, .int .i64 3, .int .i64 (missL (envOf names) (top s).L (-1))]
  else runV (runL (envOf names) [] (top s).L)

set_option maxHeartbeats 8000000 in
set_option maxRecDepth 100000 in
theorem rnumber_any (B : Nat) (names : List (Int × Num)) (s : ByteArray) (w : World) (hl : names.length ≤ 1000) (hok : ∀ p ∈ names, p.2.Ok) (h : NmRow B names w) :
    Calls Tryz.prog 36 #[.pointer (some ⟨B, 0, none⟩), .string s] w fun e w' => e = .returned (refV names s) ∧ Below w.heap.size w w' := by
  have c1 := refPrint_any s (w.alloc (.cells #[.int .i64 0, .int .i64 0, .int .i64 0, .int .i64 0] 92))
  have hz0 : (w.alloc (.cells #[.int .i64 0, .int .i64 0, .int .i64 0, .int .i64 0] 92)).heap[w.heap.size]? = some (.cells #[.int .i64 0, .int .i64 0, .int .i64 0, .int .i64 0] 92 (0, 0)) := heap_alloc_new w _
  have hb0 := fr_below w (.cells #[.int .i64 0, .int .i64 0, .int .i64 0, .int .i64 0] 92)
  by_cases he : refE s = 0
  · have hs : s.size ≤ 120 := by
      apply Nat.le_of_not_lt
      intro hlt
      unfold refE at he
      rw [if_pos hlt] at he
      cases he
    have hg : good s = true := by
      unfold refE at he
      rw [if_neg (by omega)] at he
      by_cases hg : good s = true
      · exact hg
      · rw [if_neg hg] at he; cases he
    obtain ⟨t1, t2, t3, t4⟩ := top_size s hs hg
    obtain ⟨u1, u2, u3, hi, u4⟩ := top_tree s hg
    have hnd : ∀ n ∈ (top s).L, NdOk n := by rw [u1]; exact flat_ok _ 0 u3
    have hp0 : refP s = 0 := by unfold refP; rw [if_neg (by omega), if_pos hg]
    have HV : Hid (refV names s = if 0 ≤ missL (envOf names) (top s).L (-1) then .tuple #[zeroV, .int .i64 3, .int .i64 (missL (envOf names) (top s).L (-1))] else runV (runL (envOf names) [] (top s).L)) := by
      show _ = _
      unfold refV
      rw [if_neg (by rw [he]; decide)]
    have cr := fun W => read_good s W hs hg
    rw [he, hp0] at c1
    have HND := hidMk hnd
    have HWF := hidMk t1
    have hLpos : 0 < (top s).L.length := by omega
    clear hg u1 u2 u3 u4 t1 t2 t3 hp0 he hnd
    generalize refV names s = V at *
    generalize refT s = T at *
    generalize (top s).L = L at *
    have CR : Hid (∀ W, Calls Tryz.prog 59 #[.string s] W fun e w' => ∃ g cap, e = .returned (.tuple #[.slice (some ⟨g, 0, none⟩) L.length cap, .int .i64 (-1)]) ∧ NRow w' g cap L ∧ Below W.heap.size W w') := cr
    have HZ := hidMk hz0
    have HNM := hidMk h
    clear hz0 cr h
    go_enter Tryz.func36, Tryz.ntmps36
    go_wp2_with fail
    refine c1.mono ?_
    rintro e w1 ⟨rfl, hb1⟩
    have hb01 : Below w.heap.size w w1 := hb0.trans (hb1.mono (by simp))
    have HZ1 := hidMk ((hb1.block w.heap.size (by simp)).trans HZ.out)
    clear hb1 hb0 c1 HZ
    go_wp2_with fail
    refine (CR.out _).mono ?_
    rintro e w2 ⟨g, cap, rfl, hN, hb2⟩
    have hb02 : Below w.heap.size w w2 := hb01.trans (hb2.mono hb01.size)
    have hlt1 : w.heap.size < w1.heap.size := (Array.getElem?_eq_some_iff.1 HZ1.out).1
    have HZ2 := hidMk ((hb2.block w.heap.size hlt1).trans HZ1.out)
    have HN := hidMk hN
    have cm := missing_any B names L g cap w2 hl (by omega) (HNM.out.below hb02) hN
    clear hb2 hb01 hN CR HZ1
    go_wp2_with fail
    refine cm.mono ?_
    rintro e w3 ⟨rfl, hw3⟩
    have hw3 := hw3.symm
    subst hw3
    clear cm
    by_cases hm : 0 ≤ missL (envOf names) L (-1)
    · have HV2 : Hid (V = .tuple #[zeroV, .int .i64 3, .int .i64 (missL (envOf names) L (-1))]) := by
        have := HV.out
        rw [if_pos hm] at this
        exact this
      generalize missL (envOf names) L (-1) = M at *
      obtain ⟨z0, z1, z2, z3⟩ := four_cells HZ2.out
      obtain ⟨f0, f1, f2, f3⟩ := four_frozen HZ2.out
      go_wp2_with fail
      refine bp_gen (fun W' => W'.heap[w.heap.size]? = some (.cells #[.int .i64 0, .int .i64 0, .int .i64 0, .int .i64 0] 92 (0, 0)) ∧ Below w.heap.size w W') ⟨four_set HZ2.out _ _ _ _, below_four hb02 (Nat.le_refl _) _ _ _ _⟩ ?_
      rintro W ⟨hz, hb⟩
      obtain ⟨z0, z1, z2, z3⟩ := four_cells hz
      rw [HV2.out]
      exact bodyPost_ret (v := .tuple #[.agg #[.int .i64 0, .int .i64 0, .int .i64 0, .int .i64 0], .int .i64 3, .int .i64 M]) (by simp [results, Tryz.results36, go_sem, z0, z1, z2, z3]) rfl ⟨rfl, hb⟩
    · have HV2 : Hid (V = runV (runL (envOf names) [] L)) := by
        have := HV.out
        rw [if_neg hm] at this
        exact this
      have HM := hidMk hm
      have HEN := hidMk (miss_env (envOf names) L (-1) (by omega)).2
      have HNM2 := hidMk (HNM.out.below hb02)
      have hm' : decide (0 ≤ missL (envOf names) L (-1)) = false := by simpa using hm
      have hm2 : ¬ 0 ≤ missL (envOf names) L (-1) := hm
      obtain ⟨i0, hi0, hzz0, hzz1, hzz2⟩ := info_parts Tryz.infoRNum
      go_wp2_with (at_make; refine wpList_make_full _ rfl _ _ 135 rfl 0 92 i0 _ 4 Tryz.underlying135 hi0 hzz0 hzz1 _ _ _ _ L.length rfl rfl rfl rfl (by rw [hzz2]; omega) (by unfold maxLen; omega) (Nat.zero_le _) ?_; intro w4 hown4 hgr4)
      have hV4 := VRow.made hown4
      have hb24 : Below w2.heap.size w2 w4 := (Below.refl _ w2).grown hgr4 (Nat.le_refl _) (fun k e => by cases e)
      have hb04 : Below w.heap.size w w4 := hb02.trans (hb24.mono hb02.size)
      clear hown4 hgr4 hm' hm hi0 hzz0 hzz1 hzz2 HV
      obtain ⟨RR, hRR⟩ : ∃ R, runL (envOf names) [] L = R := ⟨_, rfl⟩
      rw [hRR] at HV2
      have HRR := hidMk hRR
      clear hRR
      go_loopg [14] L.length (fun gm s14 wr => ∃ vs : List Num, s14 = .int .i64 (vs.length : Nat) ∧ vs.length ≤ L.length ∧ Hid (∀ x ∈ vs, x.Ok) ∧ Hid (runL (envOf names) vs (L.drop vs.length) = RR) ∧ VRow w2.heap.size L.length vs wr ∧ Below w2.heap.size w2 wr ∧ Hid (L.length - vs.length = gm))
      case atStart => exact ⟨[], rfl, Nat.zero_le _, fun x hx => (by cases hx), HRR.out, hV4, hb24, rfl⟩
      case round =>
        clear hV4 hb24 hb04 HRR
        obtain ⟨vs, rfl, hk, HO, HI, hV, hb, hg⟩ := hrel
        have HN1 := hidMk (HN.out.below hb)
        by_cases hkn : vs.length < L.length
        · obtain ⟨n, hn⟩ : ∃ n, L[vs.length]? = some n := ⟨L[vs.length], List.getElem?_eq_getElem hkn⟩
          have hd : L.drop vs.length = n :: L.drop (vs.length + 1) := by
            rw [List.drop_eq_getElem_cons hkn]
            congr 1
            have := List.getElem?_eq_getElem hkn
            rw [hn] at this
            exact (Option.some.inj this).symm
          have q1 : (vs.length : Int) < (L.length : Int) := by omega
          obtain ⟨a0, a1, a2, a3, a4, a5, a6⟩ := HN1.out.cells7 hn
          have HS : Hid (RR = match stepN (envOf names) vs n with | .ok x => runL (envOf names) (vs ++ [x]) (L.drop (vs.length + 1)) | .err e => .err e n.pl) := by
            have := HI.out
            rw [hd] at this
            exact this.symm
          have HMEM := hidMk (List.mem_of_getElem? hn)
          have hnd := HND.out n HMEM.out
          have hwf := HWF.out vs.length n hn
          obtain ⟨l1, l2⟩ := HN1.out.le
          obtain ⟨r0, r1, r2, r3, k0, k1, k2, k3, kf0, kf1, kf2, kf3⟩ := hV.room hkn
          have hlt := hV.lt
          have k0' := cellA k0
          have k1' := cellA k1
          have k2' := cellA k2
          have k3' := cellA k3
          have kf0' := frozA k0 kf0
          have kf1' := frozA k1 kf1
          have kf2' := frozA k2 kf2
          have kf3' := frozA k3 kf3
          generalize hkk : vs.length = k at *
          have HVV := hidMk hV
          clear HI hd hn hV
          go_upto_region 14 with fail
          have HW : Hid (Rnd w2 L.length vs wr.heap.size n (((((wr.setCell ⟨w2.heap.size, k * 4, none⟩ (.int .i64 n.num)).setCell ⟨w2.heap.size, k * 4 + 1, none⟩ (.int .i64 1)).setCell ⟨w2.heap.size, k * 4 + 2, none⟩ (.int .i64 0)).setCell ⟨w2.heap.size, k * 4 + 3, none⟩ (.int .i64 1)).alloc (.cells #[.int .i64 n.op, .int .i64 n.a, .int .i64 n.b, .int .i64 n.num, .int .i64 n.den, .string n.text, .int .i64 n.pl] 137))) := Rnd.new hkk HVV.out hb n _ _ _ _
          clear k0 k1 k2 k3 kf0 kf1 kf2 kf3 k0' k1' k2' k3' kf0' kf1' kf2' kf3' a0 a1 a2 a3 a4 a5 a6 HVV hb HN1 q1 l1 l2 hlt
          generalize (World.alloc _ _) = W at *
          generalize wr.heap.size = nb at *
          obtain ⟨a0, a1, a2, a3, a4, a5, a6⟩ := seven_cells HW.out.hn
          obtain ⟨r0, r1, r2, r3, k0, k1, k2, k3, kf0, kf1, kf2, kf3⟩ := HW.out.hv.room hkn
          by_cases c1 : n.op = 105
          · have d1 : (n.op == 48) = false := by simp [c1]
            have d2 : (n.op == 105) = true := by simp [c1]
            have HR : Hid (runL (envOf names) (vs ++ [⟨⟨0, 1⟩, ⟨1, 1⟩⟩]) (L.drop (k + 1)) = RR) := by
              have := HS.out
              unfold stepN at this
              rw [if_neg (by omega), if_pos (Or.inl c1)] at this
              rw [show leafN (envOf names) n.op = ⟨⟨0, 1⟩, ⟨1, 1⟩⟩ by unfold leafN; rw [if_pos c1]] at this
              exact this.symm
            have HNP := hidMk (Nxt.new hkk hkn HO.out HR.out ⟨fr_zero_ok, fr_one_ok⟩ HW.out.hv HW.out.hb)
            clear c1 HS hnd HR
            go_wp2_with fail
            go_roundg (L.length - (k + 1))
            case measure => have := hg.out; omega
            case rel => exact HNP.out
          · by_cases c2 : n.op = 48
            · have d1 : (n.op == 48) = true := by simp [c2]
              obtain ⟨m1, m2, m3, m4⟩ : 0 ≤ n.num ∧ n.num ≤ 4000 ∧ 1 ≤ n.den ∧ n.den ≤ 4 := by
                rcases hnd with h | h | h | h | h
                · exact h.2
                · omega
                · unfold isNm at h; simp at h; omega
                · have h := h.1; unfold isUn at h; simp at h; omega
                · unfold isBin at h; simp at h; omega
              have HR : Hid (runL (envOf names) (vs ++ [⟨lowP n.num n.den, ⟨0, 1⟩⟩]) (L.drop (k + 1)) = RR) := by
                have := HS.out
                unfold stepN at this
                rw [if_pos c2] at this
                exact this.symm
              have hlo : (lowP n.num n.den).Ok := by
                have h1 := low_abs (n := n.num) (show 0 < n.den by omega)
                have h2 := low_d_pos (n := n.num) (show 0 < n.den by omega)
                exact ⟨h2, by omega, by omega, by omega, low_gcd (by omega)⟩
              have cl := fun W => rlow_any n.num n.den W (by omega) (by omega) (by omega) (by omega)
              unfold rlowV at cl
              generalize lowP n.num n.den = lo at *
              generalize (!mkB n.num n.den) = NB at *
              have CL := hidMk cl
              have HLO := hidMk hlo
              clear c1 c2 HS hnd cl hlo k0 k1 k2 k3 kf0 kf1 kf2 kf3
              go_wp2_with fail
              refine (CL.out _).mono ?_
              rintro e w5 ⟨rfl, hb5⟩
              have HW5 := hidMk (HW.out.below hb5)
              clear HW hb5 CL m1 m2 m3 m4
              obtain ⟨r0, r1, r2, r3, k0, k1, k2, k3, kf0, kf1, kf2, kf3⟩ := HW5.out.hv.room hkn
              have k0' := cellA k0
              have k1' := cellA k1
              have k2' := cellA k2
              have k3' := cellA k3
              have kf0' := frozA k0 kf0
              have kf1' := frozA k1 kf1
              have kf2' := frozA k2 kf2
              have kf3' := frozA k3 kf3
              go_upto_region 16 with fail
              have HW6 : Hid (Rnd w2 L.length vs nb n (w5.alloc (.cells #[.int .i64 lo.n, .int .i64 lo.d] 90)) ∧ (w5.alloc (.cells #[.int .i64 lo.n, .int .i64 lo.d] 90)).heap[w5.heap.size]? = some (.cells #[.int .i64 lo.n, .int .i64 lo.d] 90 (0, 0))) := ⟨HW5.out.below (fr_below _ _), heap_alloc_new _ _⟩
              clear k0 k1 k2 k3 kf0 kf1 kf2 kf3 k0' k1' k2' k3' kf0' kf1' kf2' kf3' HW5
              generalize (World.alloc _ _) = W6 at *
              generalize w5.heap.size = lb at *
              obtain ⟨r0, r1, r2, r3, k0, k1, k2, k3, kf0, kf1, kf2, kf3⟩ := HW6.out.1.hv.room hkn
              obtain ⟨x0, x1, _, _⟩ := two_cells HW6.out.2
              have HNP := hidMk (Nxt.new hkk hkn HO.out HR.out ⟨HLO.out, fr_zero_ok⟩ HW6.out.1.hv HW6.out.1.hb)
              go_wp2_with fail
              go_roundg (L.length - (k + 1))
              case measure => have := hg.out; omega
              case rel => exact HNP.out
            · have d1 : (n.op == 48) = false := by simp [c2]
              have d2 : (n.op == 105) = false := by simp [c1]
              by_cases c3 : isNm n.op = true
              · have g1 : 945 ≤ n.op ∧ n.op ≤ 969 := by unfold isNm at c3; simpa using c3
                have g2 := g1.1
                have g3 := g1.2
                clear g1
                obtain ⟨x, hx⟩ := HEN.out n HMEM.out c3
                obtain ⟨fi, hf1, hf2⟩ := findF_some names n.op 0 x hx
                have HR : Hid (runL (envOf names) (vs ++ [x]) (L.drop (k + 1)) = RR) := by
                  have := HS.out
                  unfold stepN at this
                  rw [if_neg c2, if_pos (Or.inr c3)] at this
                  rw [show leafN (envOf names) n.op = x by unfold leafN; rw [if_neg c1, hx]; rfl] at this
                  exact this.symm
                have HXO : Hid x.Ok := by
                  obtain ⟨p, hp, rfl⟩ := env_mem hx
                  exact hok p hp
                have hfl : fi < names.length := (List.getElem?_eq_some_iff.1 hf2).1
                obtain ⟨gn, ncap, HNC, hc1, hc2⟩ : ∃ gn ncap, Hid (∀ w', Below w2.heap.size w2 w' → w'.cell? ⟨B, 0, none⟩ = some (.slice (some ⟨gn, 0, none⟩) names.length ncap) ∧ w'.cell? ⟨gn, fi * 5 + 1, none⟩ = some (.int .i64 x.re.n) ∧ w'.cell? ⟨gn, fi * 5 + 2, none⟩ = some (.int .i64 x.re.d) ∧ w'.cell? ⟨gn, fi * 5 + 3, none⟩ = some (.int .i64 x.im.n) ∧ w'.cell? ⟨gn, fi * 5 + 4, none⟩ = some (.int .i64 x.im.d)) ∧ names.length ≤ ncap ∧ ncap ≤ maxLen := by
                  obtain ⟨v, hv, hc⟩ := HNM2.out
                  rcases hc with ⟨he, _⟩ | ⟨gn, ncap, rfl, l1, l2, hc⟩
                  · rw [he] at hfl; simp at hfl
                  · obtain ⟨n0, n1, n2, n3, n4⟩ := hc fi n.op x hf2
                    refine ⟨gn, ncap, fun w' hb => ?_, l1, l2⟩
                    have kk : ∀ a v, w2.cell? a = some v → w'.cell? a = some v := fun a v hc => by
                      rw [hb.cell (World.block_lt_of_cell? _ _ hc)]; exact hc
                    exact ⟨kk _ _ hv, kk _ _ n1, kk _ _ n2, kk _ _ n3, kk _ _ n4⟩
                have CF : Hid (∀ W, NmRow B names W → Calls Tryz.prog 62 #[.pointer (some ⟨B, 0, none⟩), .int .i64 n.op] W fun e w' => e = .returned (.int .i64 (fi : Nat)) ∧ w' = W) := fun W hW => by
                  have := find_any B names n.op W hl hW
                  rw [hf1, Nat.zero_add] at this
                  exact this
                go_upto_region 20 with fail
                clear c1 c2 c3 d1 d2 g2 g3 HS hnd hx hf1 hf2 k0 k1 k2 k3 kf0 kf1 kf2 kf3 a0 a1 a2 a3 a4 a5 a6
                refine region_inv (nt := 144) _
                  (fun j v => match j with
                    | 0 => v = .slice (some ⟨w2.heap.size, 0, none⟩) L.length L.length
                    | 1 => v = .int .i64 (k : Nat)
                    | 2 => v = .pointer (some ⟨B, 0, none⟩)
                    | 3 => v = .pointer (some ⟨B, 0, none⟩)
                    | 4 => v = .pointer (some ⟨B, 0, none⟩)
                    | 5 => v = .slice (some ⟨gn, 0, none⟩) names.length ncap
                    | 6 => v = .pointer (some ⟨B, 0, none⟩)
                    | 7 => v = .pointer (some ⟨nb, 0, none⟩)
                    | 8 => v = .int .i64 n.op
                    | 9 => v = .int .i64 (fi : Nat)
                    | 10 => v = .pointer (some ⟨gn, fi * 5, none⟩)
                    | 11 => v = .pointer (some ⟨gn, (fi * 5 + 1), none⟩)
                    | 12 => v = .agg #[.int .i64 x.re.n, .int .i64 x.re.d, .int .i64 x.im.n, .int .i64 x.im.d]
                    | 13 => v = .pointer (some ⟨w2.heap.size, k * 4, none⟩)
                    | _ => True)
                  (fun b u w' => Hid (Rnd w2 L.length vs nb n w' ∧ NmRow B names w' ∧ (b 14 = true → VRow w2.heap.size L.length (vs ++ [x]) w')))
                  (act_of rfl rfl) (by kernel_rfl) (by kernel_rfl) (by kernel_rfl) ⟨HW.out.drew, HNM2.out.below HW.out.drew.hb, fun h => by cases h⟩ ?_ ?_
                · intro i o b u w' ho hbi hall hU hW K hK
                  have hA : actOf 144 u = ⟨#[u 0, u 1, u 2, u 3, u 4, u 5, u 6, u 7, u 8, u 9, u 10, u 11, u 12, u 13, u 14, u 15, u 16, u 17, u 18, u 19, u 20, u 21, u 22, u 23, u 24, u 25, u 26, u 27, u 28, u 29, u 30, u 31, u 32, u 33, u 34, u 35, u 36, u 37, u 38, u 39, u 40, u 41, u 42, u 43, u 44, u 45, u 46, u 47, u 48, u 49, u 50, u 51, u 52, u 53, u 54, u 55, u 56, u 57, u 58, u 59, u 60, u 61, u 62, u 63, u 64, u 65, u 66, u 67, u 68, u 69, u 70, u 71, u 72, u 73, u 74, u 75, u 76, u 77, u 78, u 79, u 80, u 81, u 82, u 83, u 84, u 85, u 86, u 87, u 88, u 89, u 90, u 91, u 92, u 93, u 94, u 95, u 96, u 97, u 98, u 99, u 100, u 101, u 102, u 103, u 104, u 105, u 106, u 107, u 108, u 109, u 110, u 111, u 112, u 113, u 114, u 115, u 116, u 117, u 118, u 119, u 120, u 121, u 122, u 123, u 124, u 125, u 126, u 127, u 128, u 129, u 130, u 131, u 132, u 133, u 134, u 135, u 136, u 137, u 138, u 139, u 140, u 141, u 142, u 143], []⟩ := rfl
                  rw [hA] at hK ⊢
                  have c0 : u 0 = .pointer (some ⟨B, 0, none⟩) := hU.oldB 0 (by kernel_rfl)
                  have c13 : u 13 = .slice (some ⟨w2.heap.size, 0, none⟩) L.length L.length := hU.oldB 13 (by kernel_rfl)
                  have c14 : u 14 = .int .i64 (k : Nat) := hU.oldB 14 (by kernel_rfl)
                  have c15 : u 15 = .pointer (some ⟨nb, 0, none⟩) := hU.oldB 15 (by kernel_rfl)
                  have got := hU.got
                  have HW := hW
                  have HKK := hidMk hK
                  clear hU hA hK hW
                  obtain ⟨a0, a1, a2, a3, a4, a5, a6⟩ := seven_cells HW.out.1.hn
                  obtain ⟨r0, r1, r2, r3, k0, k1, k2, k3, kf0, kf1, kf2, kf3⟩ := HW.out.1.hv.room hkn
                  obtain ⟨b0, b1, b2, b3, b4⟩ := HNC.out w' HW.out.1.hb
                  rcases i with _ | _ | _ | _ | _ | _ | _ | _ | _ | _ | _ | _ | _ | _ | _ | i
                  · cases ho
                    go_simp
                    exact HKK.out _ _ _ (by rw [c0, c13, c14, c15]; rfl) (fun _ => rfl) ⟨HW.out.1, HW.out.2.1, HW.out.2.2⟩
                  · cases ho
                    go_simp
                    exact HKK.out _ _ _ (by rw [c0, c13, c14, c15]; rfl) (fun _ => rfl) ⟨HW.out.1, HW.out.2.1, HW.out.2.2⟩
                  · cases ho
                    go_simp
                    exact HKK.out _ _ _ (by rw [c0, c13, c14, c15]; rfl) (fun _ => rfl) ⟨HW.out.1, HW.out.2.1, HW.out.2.2⟩
                  · cases ho
                    have g100 : u 100 = .pointer (some ⟨B, 0, none⟩) := got 2 100 rfl (hall ⟨2, .data⟩ (by simp) rfl)
                    go_simp
                    exact HKK.out _ _ _ (by rw [c0, c13, c14, c15, g100]; rfl) (fun _ => rfl) ⟨HW.out.1, HW.out.2.1, HW.out.2.2⟩
                  · cases ho
                    have g101 : u 101 = .pointer (some ⟨B, 0, none⟩) := got 3 101 rfl (hall ⟨3, .data⟩ (by simp) rfl)
                    go_simp
                    exact HKK.out _ _ _ (by rw [c0, c13, c14, c15, g101]; rfl) (fun _ => rfl) ⟨HW.out.1, HW.out.2.1, HW.out.2.2⟩
                  · cases ho
                    have g102 : u 102 = .pointer (some ⟨B, 0, none⟩) := got 4 102 rfl (hall ⟨4, .data⟩ (by simp) rfl)
                    go_simp
                    exact HKK.out _ _ _ (by rw [c0, c13, c14, c15, g102]; rfl) (fun _ => rfl) ⟨HW.out.1, HW.out.2.1, HW.out.2.2⟩
                  · cases ho
                    go_simp
                    exact HKK.out _ _ _ (by rw [c0, c13, c14, c15]; rfl) (fun _ => rfl) ⟨HW.out.1, HW.out.2.1, HW.out.2.2⟩
                  · cases ho
                    go_simp
                    exact HKK.out _ _ _ (by rw [c0, c13, c14, c15]; rfl) (fun _ => rfl) ⟨HW.out.1, HW.out.2.1, HW.out.2.2⟩
                  · cases ho
                    have g105 : u 105 = .pointer (some ⟨nb, 0, none⟩) := got 7 105 rfl (hall ⟨7, .data⟩ (by simp) rfl)
                    go_simp
                    exact HKK.out _ _ _ (by rw [c0, c13, c14, c15, g105]; rfl) (fun _ => rfl) ⟨HW.out.1, HW.out.2.1, HW.out.2.2⟩
                  · cases ho
                    have g104 : u 104 = .pointer (some ⟨B, 0, none⟩) := got 6 104 rfl (hall ⟨6, .data⟩ (by simp) rfl)
                    have g106 : u 106 = .int .i64 n.op := got 8 106 rfl (hall ⟨8, .data⟩ (by simp) rfl)
                    go_simp
                    refine (CF.out _ HW.out.2.1).mono ?_
                    rintro e w9 ⟨rfl, hw9⟩
                    subst hw9
                    exact HKK.out _ _ _ (by rw [c0, c13, c14, c15, g104, g106]; rfl) (fun _ => rfl) ⟨HW.out.1, HW.out.2.1, HW.out.2.2⟩
                  · cases ho
                    have g103 : u 103 = .slice (some ⟨gn, 0, none⟩) names.length ncap := got 5 103 rfl (hall ⟨5, .data⟩ (by simp) rfl)
                    have g107 : u 107 = .int .i64 (fi : Nat) := got 9 107 rfl (hall ⟨9, .data⟩ (by simp) rfl)
                    go_simp
                    exact HKK.out _ _ _ (by rw [c0, c13, c14, c15, g103, g107]; rfl) (fun _ => rfl) ⟨HW.out.1, HW.out.2.1, HW.out.2.2⟩
                  · cases ho
                    have g108 : u 108 = .pointer (some ⟨gn, fi * 5, none⟩) := got 10 108 rfl (hall ⟨10, .data⟩ (by simp) rfl)
                    go_simp
                    exact HKK.out _ _ _ (by rw [c0, c13, c14, c15, g108]; rfl) (fun _ => rfl) ⟨HW.out.1, HW.out.2.1, HW.out.2.2⟩
                  · cases ho
                    have g109 : u 109 = .pointer (some ⟨gn, (fi * 5 + 1), none⟩) := got 11 109 rfl (hall ⟨11, .data⟩ (by simp) rfl)
                    go_simp
                    exact HKK.out _ _ _ (by rw [c0, c13, c14, c15, g109]; rfl) (fun _ => rfl) ⟨HW.out.1, HW.out.2.1, HW.out.2.2⟩
                  · cases ho
                    have g98 : u 98 = .slice (some ⟨w2.heap.size, 0, none⟩) L.length L.length := got 0 98 rfl (hall ⟨0, .data⟩ (by simp) rfl)
                    have g99 : u 99 = .int .i64 (k : Nat) := got 1 99 rfl (hall ⟨1, .data⟩ (by simp) rfl)
                    go_simp
                    exact HKK.out _ _ _ (by rw [c0, c13, c14, c15, g98, g99]; rfl) (fun _ => rfl) ⟨HW.out.1, HW.out.2.1, HW.out.2.2⟩
                  · cases ho
                    have g111 : u 111 = .pointer (some ⟨w2.heap.size, k * 4, none⟩) := got 13 111 rfl (hall ⟨13, .data⟩ (by simp) rfl)
                    have g110 : u 110 = .agg #[.int .i64 x.re.n, .int .i64 x.re.d, .int .i64 x.im.n, .int .i64 x.im.d] := got 12 110 rfl (hall ⟨12, .data⟩ (by simp) rfl)
                    go_simp
                    refine HKK.out undef _ _ (by rw [c0, c13, c14, c15, g111, g110]; rfl) (fun h => by cases h) ⟨HW.out.1.set4 hkk _ _ _ _, ?_, fun _ => ?_⟩
                    · exact HNM2.out.below (below_row HW.out.1.hb _ _ _ _ _ (Nat.le_refl _) _ _ _ _)
                    · subst hkk; exact HW.out.1.hv.put hkn x
                  · simp at ho
                · intro b u w' hall hU hW
                  have hA : actOf 144 u = ⟨#[u 0, u 1, u 2, u 3, u 4, u 5, u 6, u 7, u 8, u 9, u 10, u 11, u 12, u 13, u 14, u 15, u 16, u 17, u 18, u 19, u 20, u 21, u 22, u 23, u 24, u 25, u 26, u 27, u 28, u 29, u 30, u 31, u 32, u 33, u 34, u 35, u 36, u 37, u 38, u 39, u 40, u 41, u 42, u 43, u 44, u 45, u 46, u 47, u 48, u 49, u 50, u 51, u 52, u 53, u 54, u 55, u 56, u 57, u 58, u 59, u 60, u 61, u 62, u 63, u 64, u 65, u 66, u 67, u 68, u 69, u 70, u 71, u 72, u 73, u 74, u 75, u 76, u 77, u 78, u 79, u 80, u 81, u 82, u 83, u 84, u 85, u 86, u 87, u 88, u 89, u 90, u 91, u 92, u 93, u 94, u 95, u 96, u 97, u 98, u 99, u 100, u 101, u 102, u 103, u 104, u 105, u 106, u 107, u 108, u 109, u 110, u 111, u 112, u 113, u 114, u 115, u 116, u 117, u 118, u 119, u 120, u 121, u 122, u 123, u 124, u 125, u 126, u 127, u 128, u 129, u 130, u 131, u 132, u 133, u 134, u 135, u 136, u 137, u 138, u 139, u 140, u 141, u 142, u 143], []⟩ := rfl
                  have e0 : u 0 = .pointer (some ⟨B, 0, none⟩) := hU.oldB 0 (by kernel_rfl)
                  have e1 : u 1 = .string s := hU.oldB 1 (by kernel_rfl)
                  have e2 : u 2 = undef := hU.oldB 2 (by kernel_rfl)
                  have e3 : u 3 = undef := hU.oldB 3 (by kernel_rfl)
                  have e4 : u 4 = .pointer (some ⟨w.heap.size, 0, none⟩) := hU.oldB 4 (by kernel_rfl)
                  have e7 : u 7 = .string T := hU.oldB 7 (by kernel_rfl)
                  have e8 : u 8 = .int .i64 0 := hU.oldB 8 (by kernel_rfl)
                  have e9 : u 9 = .int .i64 0 := hU.oldB 9 (by kernel_rfl)
                  have e10 : u 10 = .slice (some ⟨g, 0, none⟩) L.length cap := hU.oldB 10 (by kernel_rfl)
                  have e11 : u 11 = .int .i64 (-1) := hU.oldB 11 (by kernel_rfl)
                  have e12 : u 12 = .int .i64 (missL (envOf names) L (-1)) := hU.oldB 12 (by kernel_rfl)
                  have e13 : u 13 = .slice (some ⟨w2.heap.size, 0, none⟩) L.length L.length := hU.oldB 13 (by kernel_rfl)
                  have e14 : u 14 = .int .i64 (k : Nat) := hU.oldB 14 (by kernel_rfl)
                  have e15 : u 15 = .pointer (some ⟨nb, 0, none⟩) := hU.oldB 15 (by kernel_rfl)
                  have e20 : u 20 = .tuple #[.string T, .int .i64 0, .int .i64 0] := hU.oldB 20 (by kernel_rfl)
                  have e21 : u 21 = .string s := hU.oldB 21 (by kernel_rfl)
                  have e22 : u 22 = .tuple #[.string T, .int .i64 0, .int .i64 0] := hU.oldB 22 (by kernel_rfl)
                  have e23 : u 23 = .string T := hU.oldB 23 (by kernel_rfl)
                  have e24 : u 24 = .int .i64 0 := hU.oldB 24 (by kernel_rfl)
                  have e25 : u 25 = .int .i64 0 := hU.oldB 25 (by kernel_rfl)
                  have e26 : u 26 = .int .i64 0 := hU.oldB 26 (by kernel_rfl)
                  have e27 : u 27 = .bool false := hU.oldB 27 (by kernel_rfl)
                  have e28 : u 28 = undef := hU.oldB 28 (by kernel_rfl)
                  have e29 : u 29 = undef := hU.oldB 29 (by kernel_rfl)
                  have e30 : u 30 = undef := hU.oldB 30 (by kernel_rfl)
                  have e31 : u 31 = .tuple #[.slice (some ⟨g, 0, none⟩) L.length cap, .int .i64 (-1)] := hU.oldB 31 (by kernel_rfl)
                  have e32 : u 32 = .string s := hU.oldB 32 (by kernel_rfl)
                  have e33 : u 33 = .tuple #[.slice (some ⟨g, 0, none⟩) L.length cap, .int .i64 (-1)] := hU.oldB 33 (by kernel_rfl)
                  have e34 : u 34 = .slice (some ⟨g, 0, none⟩) L.length cap := hU.oldB 34 (by kernel_rfl)
                  have e35 : u 35 = .int .i64 (-1) := hU.oldB 35 (by kernel_rfl)
                  have e36 : u 36 = .pointer (some ⟨B, 0, none⟩) := hU.oldB 36 (by kernel_rfl)
                  have e37 : u 37 = .slice (some ⟨g, 0, none⟩) L.length cap := hU.oldB 37 (by kernel_rfl)
                  have e38 : u 38 = .int .i64 (missL (envOf names) L (-1)) := hU.oldB 38 (by kernel_rfl)
                  have e39 : u 39 = .int .i64 (missL (envOf names) L (-1)) := hU.oldB 39 (by kernel_rfl)
                  have e40 : u 40 = .bool false := hU.oldB 40 (by kernel_rfl)
                  have e41 : u 41 = undef := hU.oldB 41 (by kernel_rfl)
                  have e42 : u 42 = undef := hU.oldB 42 (by kernel_rfl)
                  have e43 : u 43 = .slice (some ⟨g, 0, none⟩) L.length cap := hU.oldB 43 (by kernel_rfl)
                  have e44 : u 44 = .int .i64 (L.length : Nat) := hU.oldB 44 (by kernel_rfl)
                  have e45 : u 45 = .slice (some ⟨w2.heap.size, 0, none⟩) L.length L.length := hU.oldB 45 (by kernel_rfl)
                  have e138 : u 138 = undef := hU.oldB 138 (by kernel_rfl)
                  have e139 : u 139 = undef := hU.oldB 139 (by kernel_rfl)
                  have e140 : u 140 = undef := hU.oldB 140 (by kernel_rfl)
                  have e141 : u 141 = undef := hU.oldB 141 (by kernel_rfl)
                  have e142 : u 142 = undef := hU.oldB 142 (by kernel_rfl)
                  have e143 : u 143 = undef := hU.oldB 143 (by kernel_rfl)
                  rw [hA, e0, e1, e2, e3, e4, e7, e8, e9, e10, e11, e12, e13, e14, e15, e20, e21, e22, e23, e24, e25, e26, e27, e28, e29, e30, e31, e32, e33, e34, e35, e36, e37, e38, e39, e40, e41, e42, e43, e44, e45, e138, e139, e140, e141, e142, e143]
                  clear hA e0 e1 e2 e3 e4 e7 e8 e9 e10 e11 e12 e13 e14 e15 e20 e21 e22 e23 e24 e25 e26 e27 e28 e29 e30 e31 e32 e33 e34 e35 e36 e37 e38 e39 e40 e41 e42 e43 e44 e45 e138 e139 e140 e141 e142 e143
                  have HNP := hidMk (Nxt.at hkk hkn HO.out HR.out HXO.out (hW.out.2.2 (hall 14 (by decide))) hW.out.1.hb)
                  clear hall hU hW
                  go_wp2_with fail
                  go_roundg (L.length - (k + 1))
                  case measure => have := hg.out; omega
                  case rel => exact HNP.out
              · have hub : isUn n.op = true ∨ isBin n.op = true := by
                  rcases hnd with h | h | h | h | h
                  · exact absurd h.1 c2
                  · exact absurd h c1
                  · exact absurd h c3
                  · exact Or.inl h.1
                  · exact Or.inr h
                obtain ⟨ha, hb⟩ : n.a < k ∧ n.b < k := by
                  rcases hnd with h | h | h | h | h
                  · exact absurd h.1 c2
                  · exact absurd h c1
                  · exact absurd h c3
                  · have := hwf.2.2.2 h.1
                    have := h.2
                    omega
                  · exact hwf.2.2.1 h
                obtain ⟨x, hx⟩ : ∃ x, vs[n.a]? = some x := ⟨vs[n.a]'(by omega), List.getElem?_eq_getElem _⟩
                obtain ⟨y, hy⟩ : ∃ y, vs[n.b]? = some y := ⟨vs[n.b]'(by omega), List.getElem?_eq_getElem _⟩
                have hxo := HO.out x (List.mem_of_getElem? hx)
                have hyo := HO.out y (List.mem_of_getElem? hy)
                have HSS : Hid (RR = match opP n.op x y with | .ok x => runL (envOf names) (vs ++ [x]) (L.drop (k + 1)) | .err e => .err e n.pl) := by
                  have := HS.out
                  unfold stepN at this
                  rw [if_neg c2, if_neg (by rintro (h | h); exact c1 h; exact c3 h)] at this
                  rw [show vs.getD n.a ⟨⟨0, 1⟩, ⟨0, 1⟩⟩ = x by rw [List.getD_eq_getElem?_getD, hx]; rfl, show vs.getD n.b ⟨⟨0, 1⟩, ⟨0, 1⟩⟩ = y by rw [List.getD_eq_getElem?_getD, hy]; rfl] at this
                  exact this
                obtain ⟨z, q, hz, hq0, hq1⟩ := wk_parts n.op x y
                have CW : Hid (∀ W, Calls Tryz.prog 63 #[.int .i64 n.op, .agg #[.int .i64 x.re.n, .int .i64 x.re.d, .int .i64 x.im.n, .int .i64 x.im.d], .agg #[.int .i64 y.re.n, .int .i64 y.re.d, .int .i64 y.im.n, .int .i64 y.im.d]] W fun e w' => e = .returned (.tuple #[.agg #[.int .i64 z.re.n, .int .i64 z.re.d, .int .i64 z.im.n, .int .i64 z.im.d], .int .i64 q]) ∧ Below W.heap.size W w') := fun W => by
                  have := wk_any n.op x y W hub hxo hyo
                  rw [hz] at this
                  exact this
                have HQ0 : Hid (q = 0 → z.Ok ∧ runL (envOf names) (vs ++ [z]) (L.drop (k + 1)) = RR) := fun h => by
                  have e := hq0 h
                  refine ⟨opP_ok hxo hyo e, ?_⟩
                  have := HSS.out
                  rw [e] at this
                  exact this.symm
                have HQ1 : Hid (q ≠ 0 → RR = .err q n.pl) := fun h => by
                  have := HSS.out
                  rw [hq1 h] at this
                  exact this
                have HX := hidMk hx
                have HY := hidMk hy
                have hal : n.a < L.length := by omega
                have hbl : n.b < L.length := by omega
                have g2 : ¬ (945 ≤ n.op ∧ n.op ≤ 969) := by
                  intro h
                  apply c3
                  unfold isNm
                  simpa using h
                have hgg : (decide (945 ≤ n.op) && decide (n.op ≤ 969)) = false := by
                  rw [← Bool.decide_and]
                  exact decide_eq_false g2
                have HG := hidMk hgg
                clear hub hx hy hxo hyo hz hq0 hq1 hgg HS HSS hnd HND HMEM HEN c1 c2 c3 k0 k1 k2 k3 kf0 kf1 kf2 kf3 a1 a2 a3 a4 a5 a6
                go_upto_region 19 with fail
                go_cut [97] (fun s97 wc => s97 = .bool false ∧ Rnd w2 L.length vs nb n wc)
                case first =>
                  by_cases g : 945 ≤ n.op
                  · have g4 : ¬ n.op ≤ 969 := fun h => g2 ⟨g, h⟩
                    clear g2
                    go_wp2_with fail
                    go_meet
                    case rel => exact ⟨rfl, HW.out⟩
                  · clear g2
                    go_wp2_with fail
                    go_meet
                    case rel => exact ⟨rfl, HW.out⟩
                case rest =>
                obtain ⟨rfl, hRc⟩ := hcut
                have HW := hidMk hRc
                clear hRc g2 a0
                go_upto_region 21 with fail
                refine region_inv (nt := 144) _
                  (fun j v => match j with
                    | 0 => v = .pointer (some ⟨nb, 0, none⟩)
                    | 1 => v = .int .i64 n.op
                    | 2 => v = .slice (some ⟨w2.heap.size, 0, none⟩) L.length L.length
                    | 3 => v = .pointer (some ⟨nb, 1, none⟩)
                    | 4 => v = .int .i64 (n.a : Nat)
                    | 5 => v = .pointer (some ⟨w2.heap.size, n.a * 4, none⟩)
                    | 6 => v = .agg #[.int .i64 x.re.n, .int .i64 x.re.d, .int .i64 x.im.n, .int .i64 x.im.d]
                    | 7 => v = .slice (some ⟨w2.heap.size, 0, none⟩) L.length L.length
                    | 8 => v = .pointer (some ⟨nb, 2, none⟩)
                    | 9 => v = .int .i64 (n.b : Nat)
                    | 10 => v = .pointer (some ⟨w2.heap.size, n.b * 4, none⟩)
                    | 11 => v = .agg #[.int .i64 y.re.n, .int .i64 y.re.d, .int .i64 y.im.n, .int .i64 y.im.d]
                    | 12 => v = .tuple #[.agg #[.int .i64 z.re.n, .int .i64 z.re.d, .int .i64 z.im.n, .int .i64 z.im.d], .int .i64 q]
                    | 13 => v = .tuple #[.agg #[.int .i64 z.re.n, .int .i64 z.re.d, .int .i64 z.im.n, .int .i64 z.im.d], .int .i64 q]
                    | 14 => v = .agg #[.int .i64 z.re.n, .int .i64 z.re.d, .int .i64 z.im.n, .int .i64 z.im.d]
                    | 15 => v = .int .i64 q
                    | 18 => v = .int .i64 q
                    | _ => True)
                  (fun b u w' => Hid (Rnd w2 L.length vs nb n w' ∧ (b 17 = true → b 16 = true) ∧ (b 16 = true → ∃ X, u 18 = .pointer (some ⟨X, 0, none⟩) ∧ nb < X ∧ w'.heap[X]? = some (.cells (if b 17 = true then #[.int .i64 z.re.n, .int .i64 z.re.d, .int .i64 z.im.n, .int .i64 z.im.d] else #[.int .i64 0, .int .i64 0, .int .i64 0, .int .i64 0]) 92 (0, 0)))))
                  (act_of rfl rfl) (by kernel_rfl) (by kernel_rfl) (by kernel_rfl) ⟨HW.out.drew, fun h => h, fun h => by cases h⟩ ?_ ?_
                · intro i o b u w' ho hbi hall hU hW K hK
                  have hA : actOf 144 u = ⟨#[u 0, u 1, u 2, u 3, u 4, u 5, u 6, u 7, u 8, u 9, u 10, u 11, u 12, u 13, u 14, u 15, u 16, u 17, u 18, u 19, u 20, u 21, u 22, u 23, u 24, u 25, u 26, u 27, u 28, u 29, u 30, u 31, u 32, u 33, u 34, u 35, u 36, u 37, u 38, u 39, u 40, u 41, u 42, u 43, u 44, u 45, u 46, u 47, u 48, u 49, u 50, u 51, u 52, u 53, u 54, u 55, u 56, u 57, u 58, u 59, u 60, u 61, u 62, u 63, u 64, u 65, u 66, u 67, u 68, u 69, u 70, u 71, u 72, u 73, u 74, u 75, u 76, u 77, u 78, u 79, u 80, u 81, u 82, u 83, u 84, u 85, u 86, u 87, u 88, u 89, u 90, u 91, u 92, u 93, u 94, u 95, u 96, u 97, u 98, u 99, u 100, u 101, u 102, u 103, u 104, u 105, u 106, u 107, u 108, u 109, u 110, u 111, u 112, u 113, u 114, u 115, u 116, u 117, u 118, u 119, u 120, u 121, u 122, u 123, u 124, u 125, u 126, u 127, u 128, u 129, u 130, u 131, u 132, u 133, u 134, u 135, u 136, u 137, u 138, u 139, u 140, u 141, u 142, u 143], []⟩ := rfl
                  rw [hA] at hK ⊢
                  have c13 : u 13 = .slice (some ⟨w2.heap.size, 0, none⟩) L.length L.length := hU.oldB 13 (by kernel_rfl)
                  have c15 : u 15 = .pointer (some ⟨nb, 0, none⟩) := hU.oldB 15 (by kernel_rfl)
                  have got := hU.got
                  have HW := hW
                  have HKK := hidMk hK
                  clear hU hA hK hW
                  obtain ⟨a0, a1, a2, a3, a4, a5, a6⟩ := seven_cells HW.out.1.hn
                  obtain ⟨p0, p1, p2, p3⟩ := HW.out.1.hv.cells HX.out
                  obtain ⟨t0, t1, t2, t3⟩ := HW.out.1.hv.cells HY.out
                  rcases i with _ | _ | _ | _ | _ | _ | _ | _ | _ | _ | _ | _ | _ | _ | _ | _ | _ | _ | _ | i
                  · cases ho
                    go_simp
                    exact HKK.out _ _ _ (by rw [c13, c15]; rfl) (fun _ => rfl) ⟨HW.out.1, HW.out.2.1, HW.out.2.2⟩
                  · cases ho
                    have g113 : u 113 = .pointer (some ⟨nb, 0, none⟩) := got 0 113 rfl (hall ⟨0, .data⟩ (by simp) rfl)
                    go_simp
                    exact HKK.out _ _ _ (by rw [c13, c15, g113]; rfl) (fun _ => rfl) ⟨HW.out.1, HW.out.2.1, HW.out.2.2⟩
                  · cases ho
                    go_simp
                    exact HKK.out _ _ _ (by rw [c13, c15]; rfl) (fun _ => rfl) ⟨HW.out.1, HW.out.2.1, HW.out.2.2⟩
                  · cases ho
                    go_simp
                    exact HKK.out _ _ _ (by rw [c13, c15]; rfl) (fun _ => rfl) ⟨HW.out.1, HW.out.2.1, HW.out.2.2⟩
                  · cases ho
                    have g116 : u 116 = .pointer (some ⟨nb, 1, none⟩) := got 3 116 rfl (hall ⟨3, .data⟩ (by simp) rfl)
                    go_simp
                    exact HKK.out _ _ _ (by rw [c13, c15, g116]; rfl) (fun _ => rfl) ⟨HW.out.1, HW.out.2.1, HW.out.2.2⟩
                  · cases ho
                    have g115 : u 115 = .slice (some ⟨w2.heap.size, 0, none⟩) L.length L.length := got 2 115 rfl (hall ⟨2, .data⟩ (by simp) rfl)
                    have g117 : u 117 = .int .i64 (n.a : Nat) := got 4 117 rfl (hall ⟨4, .data⟩ (by simp) rfl)
                    go_simp
                    exact HKK.out _ _ _ (by rw [c13, c15, g115, g117]; rfl) (fun _ => rfl) ⟨HW.out.1, HW.out.2.1, HW.out.2.2⟩
                  · cases ho
                    have g118 : u 118 = .pointer (some ⟨w2.heap.size, n.a * 4, none⟩) := got 5 118 rfl (hall ⟨5, .data⟩ (by simp) rfl)
                    go_simp
                    exact HKK.out _ _ _ (by rw [c13, c15, g118]; rfl) (fun _ => rfl) ⟨HW.out.1, HW.out.2.1, HW.out.2.2⟩
                  · cases ho
                    go_simp
                    exact HKK.out _ _ _ (by rw [c13, c15]; rfl) (fun _ => rfl) ⟨HW.out.1, HW.out.2.1, HW.out.2.2⟩
                  · cases ho
                    go_simp
                    exact HKK.out _ _ _ (by rw [c13, c15]; rfl) (fun _ => rfl) ⟨HW.out.1, HW.out.2.1, HW.out.2.2⟩
                  · cases ho
                    have g121 : u 121 = .pointer (some ⟨nb, 2, none⟩) := got 8 121 rfl (hall ⟨8, .data⟩ (by simp) rfl)
                    go_simp
                    exact HKK.out _ _ _ (by rw [c13, c15, g121]; rfl) (fun _ => rfl) ⟨HW.out.1, HW.out.2.1, HW.out.2.2⟩
                  · cases ho
                    have g120 : u 120 = .slice (some ⟨w2.heap.size, 0, none⟩) L.length L.length := got 7 120 rfl (hall ⟨7, .data⟩ (by simp) rfl)
                    have g122 : u 122 = .int .i64 (n.b : Nat) := got 9 122 rfl (hall ⟨9, .data⟩ (by simp) rfl)
                    go_simp
                    exact HKK.out _ _ _ (by rw [c13, c15, g120, g122]; rfl) (fun _ => rfl) ⟨HW.out.1, HW.out.2.1, HW.out.2.2⟩
                  · cases ho
                    have g123 : u 123 = .pointer (some ⟨w2.heap.size, n.b * 4, none⟩) := got 10 123 rfl (hall ⟨10, .data⟩ (by simp) rfl)
                    go_simp
                    exact HKK.out _ _ _ (by rw [c13, c15, g123]; rfl) (fun _ => rfl) ⟨HW.out.1, HW.out.2.1, HW.out.2.2⟩
                  · cases ho
                    have g114 : u 114 = .int .i64 n.op := got 1 114 rfl (hall ⟨1, .data⟩ (by simp) rfl)
                    have g119 : u 119 = .agg #[.int .i64 x.re.n, .int .i64 x.re.d, .int .i64 x.im.n, .int .i64 x.im.d] := got 6 119 rfl (hall ⟨6, .data⟩ (by simp) rfl)
                    have g124 : u 124 = .agg #[.int .i64 y.re.n, .int .i64 y.re.d, .int .i64 y.im.n, .int .i64 y.im.d] := got 11 124 rfl (hall ⟨11, .data⟩ (by simp) rfl)
                    go_simp
                    refine (CW.out _).mono ?_
                    rintro e w9 ⟨rfl, hb9⟩
                    refine HKK.out _ _ _ (by rw [c13, c15, g114, g119, g124]; rfl) (fun _ => rfl) ⟨HW.out.1.below hb9, HW.out.2.1, fun h => ?_⟩
                    obtain ⟨X, q1, q2, q3⟩ := HW.out.2.2 h
                    exact ⟨X, q1, q2, (hb9.block X (Array.getElem?_eq_some_iff.1 q3).1).trans q3⟩
                  · cases ho
                    have g125 : u 125 = .tuple #[.agg #[.int .i64 z.re.n, .int .i64 z.re.d, .int .i64 z.im.n, .int .i64 z.im.d], .int .i64 q] := got 12 125 rfl (hall ⟨12, .data⟩ (by simp) rfl)
                    go_simp
                    exact HKK.out _ _ _ (by rw [c13, c15, g125]; rfl) (fun _ => rfl) ⟨HW.out.1, HW.out.2.1, HW.out.2.2⟩
                  · cases ho
                    have g112 : u 112 = .tuple #[.agg #[.int .i64 z.re.n, .int .i64 z.re.d, .int .i64 z.im.n, .int .i64 z.im.d], .int .i64 q] := got 13 112 rfl (hall ⟨13, .data⟩ (by simp) rfl)
                    go_simp
                    exact HKK.out _ _ _ (by rw [c13, c15, g112]; rfl) (fun _ => rfl) ⟨HW.out.1, HW.out.2.1, HW.out.2.2⟩
                  · cases ho
                    have g112 : u 112 = .tuple #[.agg #[.int .i64 z.re.n, .int .i64 z.re.d, .int .i64 z.im.n, .int .i64 z.im.d], .int .i64 q] := got 13 112 rfl (hall ⟨13, .data⟩ (by simp) rfl)
                    go_simp
                    exact HKK.out _ _ _ (by rw [c13, c15, g112]; rfl) (fun _ => rfl) ⟨HW.out.1, HW.out.2.1, HW.out.2.2⟩
                  · cases ho
                    have ns : b 17 = false := by
                      cases h : b 17 with
                      | false => rfl
                      | true => rw [HW.out.2.1 h] at hbi; cases hbi
                    have NS := hidMk ns
                    clear ns
                    go_simp
                    refine HKK.out _ _ _ (by rw [c13, c15]; rfl) (fun _ => trivial) ⟨HW.out.1.below (fr_below w' _), fun _ => rfl, fun _ => ⟨w'.heap.size, rfl, (Array.getElem?_eq_some_iff.1 HW.out.1.hn).1, ?_⟩⟩
                    have e : (if upB b 16 17 = true then (#[.int .i64 z.re.n, .int .i64 z.re.d, .int .i64 z.im.n, .int .i64 z.im.d] : Array Value) else #[.int .i64 0, .int .i64 0, .int .i64 0, .int .i64 0]) = #[.int .i64 0, .int .i64 0, .int .i64 0, .int .i64 0] := by simp [upB, NS.out]
                    rw [e]
                    exact heap_alloc_new w' _
                  · cases ho
                    have g126 : u 126 = .agg #[.int .i64 z.re.n, .int .i64 z.re.d, .int .i64 z.im.n, .int .i64 z.im.d] := got 14 126 rfl (hall ⟨14, .data⟩ (by simp) rfl)
                    obtain ⟨X, q1, q2, q3⟩ := HW.out.2.2 (hall ⟨16, .data⟩ (by simp) rfl)
                    rw [if_neg (by rw [hbi]; decide)] at q3
                    obtain ⟨s0, s1, s2, s3⟩ := four_cells q3
                    obtain ⟨f0, f1, f2, f3⟩ := four_frozen q3
                    have Q3 := hidMk q3
                    have YA : Hid (b 16 = true) := hall ⟨16, .data⟩ (by simp) rfl
                    clear q3
                    go_simp
                    refine HKK.out undef _ _ (by rw [c13, c15, g126, q1]; rfl) (fun h => by cases h) ⟨HW.out.1.set4B q2 _ _ _ _ _ _ _ _, fun _ => YA.out, fun _ => ⟨X, q1, q2, ?_⟩⟩
                    exact four_set Q3.out _ _ _ _
                  · cases ho
                    have g127 : u 127 = .int .i64 q := got 15 127 rfl (hall ⟨15, .data⟩ (by simp) rfl)
                    go_simp
                    exact HKK.out _ _ _ (by rw [c13, c15, g127]; rfl) (fun _ => rfl) ⟨HW.out.1, HW.out.2.1, HW.out.2.2⟩
                  · simp at ho
                · intro b u w' hall hU hW
                  obtain ⟨X, q1, q2, q3⟩ := hW.out.2.2 (hall 16 (by decide))
                  rw [if_pos (hall 17 (by decide))] at q3
                  have e19' : u 19 = .int .i64 q := hU.got 18 19 rfl (hall 18 (by decide))
                  have hA : actOf 144 u = ⟨#[u 0, u 1, u 2, u 3, u 4, u 5, u 6, u 7, u 8, u 9, u 10, u 11, u 12, u 13, u 14, u 15, u 16, u 17, u 18, u 19, u 20, u 21, u 22, u 23, u 24, u 25, u 26, u 27, u 28, u 29, u 30, u 31, u 32, u 33, u 34, u 35, u 36, u 37, u 38, u 39, u 40, u 41, u 42, u 43, u 44, u 45, u 46, u 47, u 48, u 49, u 50, u 51, u 52, u 53, u 54, u 55, u 56, u 57, u 58, u 59, u 60, u 61, u 62, u 63, u 64, u 65, u 66, u 67, u 68, u 69, u 70, u 71, u 72, u 73, u 74, u 75, u 76, u 77, u 78, u 79, u 80, u 81, u 82, u 83, u 84, u 85, u 86, u 87, u 88, u 89, u 90, u 91, u 92, u 93, u 94, u 95, u 96, u 97, u 98, u 99, u 100, u 101, u 102, u 103, u 104, u 105, u 106, u 107, u 108, u 109, u 110, u 111, u 112, u 113, u 114, u 115, u 116, u 117, u 118, u 119, u 120, u 121, u 122, u 123, u 124, u 125, u 126, u 127, u 128, u 129, u 130, u 131, u 132, u 133, u 134, u 135, u 136, u 137, u 138, u 139, u 140, u 141, u 142, u 143], []⟩ := rfl
                  have e0 : u 0 = .pointer (some ⟨B, 0, none⟩) := hU.oldB 0 (by kernel_rfl)
                  have e1 : u 1 = .string s := hU.oldB 1 (by kernel_rfl)
                  have e2 : u 2 = undef := hU.oldB 2 (by kernel_rfl)
                  have e3 : u 3 = undef := hU.oldB 3 (by kernel_rfl)
                  have e4 : u 4 = .pointer (some ⟨w.heap.size, 0, none⟩) := hU.oldB 4 (by kernel_rfl)
                  have e7 : u 7 = .string T := hU.oldB 7 (by kernel_rfl)
                  have e8 : u 8 = .int .i64 0 := hU.oldB 8 (by kernel_rfl)
                  have e9 : u 9 = .int .i64 0 := hU.oldB 9 (by kernel_rfl)
                  have e10 : u 10 = .slice (some ⟨g, 0, none⟩) L.length cap := hU.oldB 10 (by kernel_rfl)
                  have e11 : u 11 = .int .i64 (-1) := hU.oldB 11 (by kernel_rfl)
                  have e12 : u 12 = .int .i64 (missL (envOf names) L (-1)) := hU.oldB 12 (by kernel_rfl)
                  have e13 : u 13 = .slice (some ⟨w2.heap.size, 0, none⟩) L.length L.length := hU.oldB 13 (by kernel_rfl)
                  have e14 : u 14 = .int .i64 (k : Nat) := hU.oldB 14 (by kernel_rfl)
                  have e15 : u 15 = .pointer (some ⟨nb, 0, none⟩) := hU.oldB 15 (by kernel_rfl)
                  have e20 : u 20 = .tuple #[.string T, .int .i64 0, .int .i64 0] := hU.oldB 20 (by kernel_rfl)
                  have e21 : u 21 = .string s := hU.oldB 21 (by kernel_rfl)
                  have e22 : u 22 = .tuple #[.string T, .int .i64 0, .int .i64 0] := hU.oldB 22 (by kernel_rfl)
                  have e23 : u 23 = .string T := hU.oldB 23 (by kernel_rfl)
                  have e24 : u 24 = .int .i64 0 := hU.oldB 24 (by kernel_rfl)
                  have e25 : u 25 = .int .i64 0 := hU.oldB 25 (by kernel_rfl)
                  have e26 : u 26 = .int .i64 0 := hU.oldB 26 (by kernel_rfl)
                  have e27 : u 27 = .bool false := hU.oldB 27 (by kernel_rfl)
                  have e28 : u 28 = undef := hU.oldB 28 (by kernel_rfl)
                  have e29 : u 29 = undef := hU.oldB 29 (by kernel_rfl)
                  have e30 : u 30 = undef := hU.oldB 30 (by kernel_rfl)
                  have e31 : u 31 = .tuple #[.slice (some ⟨g, 0, none⟩) L.length cap, .int .i64 (-1)] := hU.oldB 31 (by kernel_rfl)
                  have e32 : u 32 = .string s := hU.oldB 32 (by kernel_rfl)
                  have e33 : u 33 = .tuple #[.slice (some ⟨g, 0, none⟩) L.length cap, .int .i64 (-1)] := hU.oldB 33 (by kernel_rfl)
                  have e34 : u 34 = .slice (some ⟨g, 0, none⟩) L.length cap := hU.oldB 34 (by kernel_rfl)
                  have e35 : u 35 = .int .i64 (-1) := hU.oldB 35 (by kernel_rfl)
                  have e36 : u 36 = .pointer (some ⟨B, 0, none⟩) := hU.oldB 36 (by kernel_rfl)
                  have e37 : u 37 = .slice (some ⟨g, 0, none⟩) L.length cap := hU.oldB 37 (by kernel_rfl)
                  have e38 : u 38 = .int .i64 (missL (envOf names) L (-1)) := hU.oldB 38 (by kernel_rfl)
                  have e39 : u 39 = .int .i64 (missL (envOf names) L (-1)) := hU.oldB 39 (by kernel_rfl)
                  have e40 : u 40 = .bool false := hU.oldB 40 (by kernel_rfl)
                  have e41 : u 41 = undef := hU.oldB 41 (by kernel_rfl)
                  have e42 : u 42 = undef := hU.oldB 42 (by kernel_rfl)
                  have e43 : u 43 = .slice (some ⟨g, 0, none⟩) L.length cap := hU.oldB 43 (by kernel_rfl)
                  have e44 : u 44 = .int .i64 (L.length : Nat) := hU.oldB 44 (by kernel_rfl)
                  have e45 : u 45 = .slice (some ⟨w2.heap.size, 0, none⟩) L.length L.length := hU.oldB 45 (by kernel_rfl)
                  have e138 : u 138 = undef := hU.oldB 138 (by kernel_rfl)
                  have e139 : u 139 = undef := hU.oldB 139 (by kernel_rfl)
                  have e140 : u 140 = undef := hU.oldB 140 (by kernel_rfl)
                  have e141 : u 141 = undef := hU.oldB 141 (by kernel_rfl)
                  have e142 : u 142 = undef := hU.oldB 142 (by kernel_rfl)
                  have e143 : u 143 = undef := hU.oldB 143 (by kernel_rfl)
                  rw [hA, e0, e1, e2, e3, e4, e7, e8, e9, e10, e11, e12, e13, e14, e15, e20, e21, e22, e23, e24, e25, e26, e27, e28, e29, e30, e31, e32, e33, e34, e35, e36, e37, e38, e39, e40, e41, e42, e43, e44, e45, e138, e139, e140, e141, e142, e143]
                  clear hA e0 e1 e2 e3 e4 e7 e8 e9 e10 e11 e12 e13 e14 e15 e20 e21 e22 e23 e24 e25 e26 e27 e28 e29 e30 e31 e32 e33 e34 e35 e36 e37 e38 e39 e40 e41 e42 e43 e44 e45 e138 e139 e140 e141 e142 e143
                  rw [q1, e19']
                  have HR2 := hidMk hW.out.1
                  have HX2 := hidMk q3
                  clear hU hW hall q1 q3 e19' HX HY CW HW
                  by_cases hq : q = 0
                  · obtain ⟨hzo, hr⟩ := HQ0.out hq
                    have HNP := hidMk (Nxt.new hkk hkn HO.out hr hzo HR2.out.hv HR2.out.hb)
                    obtain ⟨r0, r1, r2, r3, k0, k1, k2, k3, kf0, kf1, kf2, kf3⟩ := HR2.out.hv.room hkn
                    obtain ⟨x0, x1, x2, x3⟩ := four_cells HX2.out
                    clear hzo hr
                    subst hq
                    go_wp2_with fail
                    go_roundg (L.length - (k + 1))
                    case measure => have := hg.out; omega
                    case rel => exact HNP.out
                  · have hq' : (q != 0) = true := by simpa using hq
                    have hlt0 : w.heap.size < w2.heap.size := (Array.getElem?_eq_some_iff.1 HZ2.out).1
                    have hzz := (HR2.out.hb.block w.heap.size hlt0).trans HZ2.out
                    obtain ⟨a0, a1, a2, a3, a4, a5, a6⟩ := seven_cells HR2.out.hn
                    obtain ⟨z0, z1, z2, z3⟩ := four_cells hzz
                    obtain ⟨f0, f1, f2, f3⟩ := four_frozen hzz
                    have HZ4 := hidMk hzz
                    have HB4 := hidMk (hb02.trans (HR2.out.hb.mono hb02.size))
                    have HVX : Hid (V = .tuple #[zeroV, .int .i64 q, .int .i64 (n.pl : Nat)]) := by
                      have := HV2.out
                      rw [HQ1.out hq] at this
                      exact this
                    clear hq hlt0 hzz
                    go_wp2_with fail
                    go_region
                    go_wp2_with fail
                    refine bp_gen (fun W' => W'.heap[w.heap.size]? = some (.cells #[.int .i64 0, .int .i64 0, .int .i64 0, .int .i64 0] 92 (0, 0)) ∧ Below w.heap.size w W') ⟨four_set (w := w'.drew) HZ4.out _ _ _ _, below_four HB4.out.drew (Nat.le_refl _) _ _ _ _⟩ ?_
                    rintro W ⟨hz, hb⟩
                    obtain ⟨z0, z1, z2, z3⟩ := four_cells hz
                    rw [HVX.out]
                    exact bodyPost_ret (v := .tuple #[.agg #[.int .i64 0, .int .i64 0, .int .i64 0, .int .i64 0], .int .i64 q, .int .i64 (n.pl : Nat)]) (by simp [results, Tryz.results36, go_sem, z0, z1, z2, z3]) rfl ⟨rfl, hb⟩
        · have hkl : vs.length = L.length := by omega
          have hRR : RR = .ok vs := by
            have := HI.out
            rw [hkl, List.drop_length] at this
            exact this.symm
          obtain ⟨m, hm⟩ : ∃ m, L.length = m + 1 := ⟨L.length - 1, by omega⟩
          obtain ⟨x, hx⟩ : ∃ x, vs[m]? = some x := ⟨vs[m]'(by omega), List.getElem?_eq_getElem _⟩
          have hv : V = .tuple #[nV x, .int .i64 0, .int .i64 0] := by
            have e : vs.getLast? = some x := by rw [List.getLast?_eq_getElem?, hkl, hm]; exact hx
            have e1 := HV2.out
            rw [hRR] at e1
            simp only [runV, e] at e1
            exact e1
          have HVX := hidMk hv
          have hlt0 : w.heap.size < w2.heap.size := (Array.getElem?_eq_some_iff.1 HZ2.out).1
          have hz := (hb.block w.heap.size hlt0).trans HZ2.out
          obtain ⟨k0, k1, k2, k3⟩ := hV.cells hx
          obtain ⟨z0, z1, z2, z3⟩ := four_cells hz
          obtain ⟨f0, f1, f2, f3⟩ := four_frozen hz
          have qm : (L.length : Int) - 1 = (m : Int) := by omega
          have q1 : ¬ (L.length : Int) < (L.length : Int) := by omega
          have qm2 : m < L.length := by omega
          have HZ4 := hidMk hz
          have HB4 := hidMk (hb02.trans (hb.mono hb02.size))
          rw [hkl]
          clear HI HN1 hV hb hkl hRR hv hz hx hkn hlt0
          go_wp2_with fail
          refine bp_gen (fun W' => W'.heap[w.heap.size]? = some (.cells #[.int .i64 x.re.n, .int .i64 x.re.d, .int .i64 x.im.n, .int .i64 x.im.d] 92 (0, 0)) ∧ Below w.heap.size w W') ⟨four_set HZ4.out _ _ _ _, below_four HB4.out (Nat.le_refl _) _ _ _ _⟩ ?_
          rintro W ⟨hz, hb⟩
          obtain ⟨z0, z1, z2, z3⟩ := four_cells hz
          rw [HVX.out]
          exact bodyPost_ret (v := .tuple #[.agg #[.int .i64 x.re.n, .int .i64 x.re.d, .int .i64 x.im.n, .int .i64 x.im.d], .int .i64 0, .int .i64 0]) (by simp [results, Tryz.results36, go_sem, z0, z1, z2, z3]) rfl ⟨rfl, hb⟩
  · have HV : Hid (refV names s = .tuple #[zeroV, .int .i64 (refE s), .int .i64 (refP s)]) := by
      show _ = _
      unfold refV
      rw [if_pos he]
    have hne : (refE s != 0) = true := by simpa using he
    generalize refV names s = V at *
    generalize refE s = E at *
    generalize refP s = P at *
    generalize refT s = T at *
    have HZ := hidMk hz0
    clear hz0 he h
    go_enter Tryz.func36, Tryz.ntmps36
    go_wp2_with fail
    refine c1.mono ?_
    rintro e w1 ⟨rfl, hb1⟩
    have hz1 := (hb1.block w.heap.size (by simp)).trans HZ.out
    obtain ⟨z0, z1, z2, z3⟩ := four_cells hz1
    obtain ⟨f0, f1, f2, f3⟩ := four_frozen hz1
    have hb01 : Below w.heap.size w w1 := hb0.trans (hb1.mono (by simp))
    have HZ1 := hidMk hz1
    clear hz1 hb1 hb0 c1 HZ
    go_wp2_with fail
    refine bp_gen (fun W' => W'.heap[w.heap.size]? = some (.cells #[.int .i64 0, .int .i64 0, .int .i64 0, .int .i64 0] 92 (0, 0)) ∧ Below w.heap.size w W') ⟨four_set HZ1.out _ _ _ _, below_four hb01 (Nat.le_refl _) _ _ _ _⟩ ?_
    rintro W ⟨hz, hb⟩
    obtain ⟨z0, z1, z2, z3⟩ := four_cells hz
    rw [HV.out]
    exact bodyPost_ret (v := .tuple #[.agg #[.int .i64 0, .int .i64 0, .int .i64 0, .int .i64 0], .int .i64 E, .int .i64 P]) (by simp [results, Tryz.results36, go_sem, z0, z1, z2, z3]) rfl ⟨rfl, hb⟩
end Go.Proofs.YtodabmkcihafhaaGreatDoor
