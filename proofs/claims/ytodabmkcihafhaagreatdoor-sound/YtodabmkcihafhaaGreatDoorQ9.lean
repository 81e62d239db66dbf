import Derived.Test.YtodabmkcihafhaaGreatDoorRows
import Derived.WalkKit
import Derived.WalkSpells
import Derived.WalkLawsBesides
import Derived.WalkMore
import Derived.ScopeJumps
import Derived.Deep.LoopGhost
import Derived.Deep.QuietTactic
import Derived.BigQuiet
import Derived.Lib.IndexLaws
import Derived.Lib.IndexBytes
import Derived.Deep.AppendLies
import Derived.Lib.OthersKept
import Derived.WalkSmall
import Derived.Test.YtodabmkcihafhaaGreatDoorQ8
import Derived.Test.YtodabmkcihafhaaGreatDoorQ0
import Derived.Test.YtodabmkcihafhaaGreatDoorQ2

/- strings.IndexRune at a rune of several bytes, in a short text. -/
namespace Go.Proofs.YtodabmkcihafhaaGreatDoor
open Go.RowKit
set_option linter.unusedVariables false

theorem wp_scope_fwd {P : Program} {a : Act} {w : World} {Q : Exit → Act → World → Prop} {c rest : Code} (l : Nat) (hf : findLabel c l = some rest)
    (first : c.wp P (Exit.jump l (fun a w => rest.wp P (Exit.noGoto Q) a w) Q) a w) : (Code.scope c).wp P Q a w :=
  wp_scope_jumps l (fun a w => rest.wp P (Exit.noGoto Q) a w) (fun _ _ => 0) hf first (fun a w h => wp_mono h (fun e a' w' hq => by
    cases e with
    | goto l' => exact hq.elim
    | normal => exact hq
    | exit id => exact hq
    | ret => exact hq
    | panic ch => exact hq
    | outgrown => exact hq))

def Occ (s t : ByteArray) : Prop := ∃ p, p + t.size ≤ s.size ∧ ∀ j, j < t.size → bt s (p + j) = bt t j

/-- No place of the text ahead of i has the bytes. -/
def NoOcc (s t : ByteArray) (m i : Nat) : Prop := ∀ p, p + m < i → p + t.size ≤ s.size → ¬ ∀ j, j < t.size → bt s (p + j) = bt t j
def Fails (s : ByteArray) (x i fails : Nat) : Prop := fails ≤ 2 ∧ (1 ≤ fails → ∃ a, a < i ∧ bt s a = x) ∧ (2 ≤ fails → ∃ a b, a < b ∧ b < i ∧ bt s a = x ∧ bt s b = x)
theorem Fails.next {s : ByteArray} {x i fails : Nat} (h : Fails s x i fails) (hi : bt s i = x) (his : i < s.size) (no3 : ∀ a b c, a < b → b < c → c < s.size → bt s a = x → bt s b = x → bt s c = x → False) : Fails s x (i + 1) (fails + 1) := by
  obtain ⟨h1, h2, h3⟩ := h
  refine ⟨?_, fun _ => ⟨i, by omega, hi⟩, fun hf => ?_⟩
  · apply Nat.le_of_not_lt
    intro hlt
    obtain ⟨a, b, q1, q2, q3, q4⟩ := h3 (by omega)
    exact no3 a b i q1 q2 his q3 q4 hi
  · obtain ⟨a, q1, q2⟩ := h2 (by omega)
    exact ⟨a, i, q1, by omega, q2, hi⟩
theorem Fails.mono {s : ByteArray} {x i i' fails : Nat} (h : Fails s x i fails) (hi : i ≤ i') : Fails s x i' fails := by
  obtain ⟨h1, h2, h3⟩ := h
  exact ⟨h1, fun hf => (by obtain ⟨a, q⟩ := h2 hf; exact ⟨a, by omega, q.2⟩), fun hf => (by obtain ⟨a, b, q1, q2, q3⟩ := h3 hf; exact ⟨a, b, q1, by omega, q3⟩)⟩

theorem NoOcc.miss {s t : ByteArray} {m i j : Nat} (h : NoOcc s t m i) (hm : t.size = m + 1) (hj : 1 ≤ j) (hj2 : j < m + 1) (hmi : m ≤ i) (hne : ¬ bt s (i - j) = bt t (m - j)) : NoOcc s t m (i + 1) := by
  intro p hp hps hall
  by_cases hlt : p + m < i
  · exact h p hlt hps hall
  · apply hne
    have := hall (m - j) (by omega)
    rw [show p + (m - j) = i - j by omega] at this
    exact this
theorem NoOcc.hit {s t : ByteArray} {m i : Nat} (hm : t.size = m + 1) (hmi : m ≤ i) (his : i < s.size) (hx : bt s i = bt t m) (hall : ∀ k, 1 ≤ k → k < m + 1 → bt s (i - k) = bt t (m - k)) : Occ s t := by
  refine ⟨i - m, by omega, ?_⟩
  intro j hj
  by_cases hjm : j = m
  · subst hjm; rw [show i - j + j = i by omega]; exact hx
  · have := hall (m - j) (by omega) (by omega)
    rw [show i - (m - j) = i - m + j by omega, show m - (m - j) = j by omega] at this
    exact this
theorem NoOcc.done {s t : ByteArray} {m i : Nat} (h : NoOcc s t m i) (hm : t.size = m + 1) (his : s.size ≤ i) : ¬ Occ s t := by
  rintro ⟨p, hp, hall⟩
  exact h p (by omega) hp hall
theorem ext_at (s : ByteArray) (i k : Nat) (h : i + k < s.size) : (s.extract i s.size).data.toList[k]? = some (UInt8.ofNat (bt s (i + k))) := by
  rw [extract_list, List.getElem?_take_of_lt (by omega), List.getElem?_drop]
  have hl : i + k < s.data.toList.length := by simpa using h
  rw [List.getElem?_eq_getElem hl]
  have g := get_bt s (i + k) h
  have g2 : s.data.toList[i + k] = s[i + k]'h := by simp; rfl
  rw [g2, g]
theorem u8_inj {a b : Nat} (ha : a < 256) (hb : b < 256) (h : UInt8.ofNat a = UInt8.ofNat b) : a = b := by
  have := congrArg UInt8.toNat h
  simp at this
  omega
theorem arg_u8 (x : Nat) : ((x : Int).toNat.toUInt8) = UInt8.ofNat x := by simp
/-- What IndexByte finds behind a place. -/
theorem byte_found (s t : ByteArray) (m i : Nat) (h : NoOcc s t m i) (hm : t.size = m + 1) (hx : ¬ bt s i = bt t m) (hi : i < s.size) :
    (Lib.indexByte (s.extract (i + 1) s.size).data.toList ((bt t m : Nat) : Int).toNat.toUInt8 = -1 ∧ ¬ Occ s t) ∨
    ∃ o : Nat, Lib.indexByte (s.extract (i + 1) s.size).data.toList ((bt t m : Nat) : Int).toNat.toUInt8 = o ∧ i + 1 + o < s.size ∧ bt s (i + 1 + o) = bt t m ∧ NoOcc s t m (i + 1 + o) := by
  rw [arg_u8]
  rcases Lib.indexByte_piece s (i + 1) s.size (UInt8.ofNat (bt t m)) with h1 | ⟨o, h1, h2⟩
  · left
    refine ⟨h1, ?_⟩
    rintro ⟨p, hp, hall⟩
    have hnone := Lib.indexByte_none h1
    by_cases hlt : p + m < i
    · exact h p hlt hp hall
    · have hpm := hall m (by omega)
      by_cases he : p + m = i
      · rw [he] at hpm; exact hx hpm
      · have := ext_at s (i + 1) (p + m - (i + 1)) (by omega)
        rw [show i + 1 + (p + m - (i + 1)) = p + m by omega, hpm] at this
        exact hnone _ this
  · right
    obtain ⟨s1, s2⟩ := Lib.indexByte_some h1
    refine ⟨o, h1, h2, ?_, ?_⟩
    · have := ext_at s (i + 1) o h2
      rw [s1] at this
      exact (u8_inj (bt_lt _ _) (bt_lt _ _) (Option.some.inj this)).symm
    · intro p hp hps hall
      by_cases hlt : p + m < i
      · exact h p hlt hps hall
      · have hpm := hall m (by omega)
        by_cases he : p + m = i
        · rw [he] at hpm; exact hx hpm
        · have := ext_at s (i + 1) (p + m - (i + 1)) (by omega)
          rw [show i + 1 + (p + m - (i + 1)) = p + m by omega, hpm] at this
          exact s2 (p + m - (i + 1)) (by omega) this

theorem slice_from (s : ByteArray) (i : Nat) (h : i ≤ s.size) (W : World) : (Instr.slice 9 (.string s) (some (.int .i64 ((i : Nat) : Int))) none none).run Tryz.prog W = .ok (.string (s.extract i s.size)) W := by
  rw [run_slice_string_from_if _ _ _ _ _ Tryz.underlying9]
  rw [if_pos (by omega)]
  simp

set_option maxHeartbeats 2000000 in
set_option maxRecDepth 1000000 in
theorem index_rune (s t : ByteArray) (r : Int) (w : World) (m : Nat) (hs : s.size ≤ 8) (ht : Utf8.encode r = t) (ht1 : 1 ≤ m) (ht2 : m ≤ 3) (hm : t.size = m + 1) (hr : 128 ≤ r) (hr2 : r ≠ 65533) (hv : Lib.validRune r = true)
    (no3 : ∀ a b c, a < b → b < c → c < s.size → bt s a = bt t m → bt s b = bt t m → bt s c = bt t m → False) :
    Calls Tryz.prog 152 #[.string s, .int .i32 r] w fun e w' => (∃ v : Int, e = .returned (.int .i64 v) ∧ (0 ≤ v ↔ Occ s t)) ∧ ∃ n, w' = w.drewN n := by
  have q1 : (0 : Int) ≤ r := by omega
  have q2 : decide (r < 128) = false := by simp; omega
  have q3 : (r == 65533) = false := by simp [hr2]
  have N3 : Hid (∀ a b c, a < b → b < c → c < s.size → bt s a = bt t m → bt s b = bt t m → bt s c = bt t m → False) := no3
  have HM : Hid (t.size = m + 1) := hm
  have gm := bt_get t m
  clear no3
  go_enter Tryz.func152, Tryz.ntmps152
  go_wp2_with fail
  refine (validRune_any r _).mono ?_
  rintro e w1 ⟨rfl, hw1⟩
  have hw1 := hw1.symm
  subst hw1
  rw [hv]
  clear hv
  go_wp2_with fail
  go_step3
  go_wp2_with fail
  go_loopg [9, 10] (22 - m) (fun g s9 s10 wr => ∃ i fails : Nat, s9 = .int .i64 i ∧ s10 = .int .i64 fails ∧ m ≤ i ∧ i ≤ 9 ∧ fails ≤ 2 ∧ NoOcc s t m i ∧ Fails s (bt t m) i fails ∧ g + i = 22 ∧ ∃ n, wr = w.drewN n)
  case atStart =>
    refine ⟨m, 0, rfl, rfl, Nat.le_refl _, by omega, by omega, fun p hp => by omega, ⟨by omega, fun h => by omega, fun h => by omega⟩, by omega, 0, rfl⟩
  case round =>
    obtain ⟨i, fails, rfl, rfl, hmi, hi9, hf2, hNo, hFa, hgi, n0, rfl⟩ := hrel
    by_cases hlt : i < s.size
    · have gi := bt_get s i
      go_wp2_with fail
      refine wp_scope_fwd 0 rfl ?_
      go_wp2_with fail
      by_cases hx : bt s i = bt t m
      · have bx : (((bt s i : Nat) : Int) != ((bt t m : Nat) : Int)) = false := by simp; omega
        go_quiet (fail)
        go_wp2_with fail
        rw [World.drewN_drewN]
        obtain ⟨n1, hn1⟩ : ∃ n1, n0 + nq = n1 := ⟨_, rfl⟩
        rw [hn1]
        obtain ⟨i2, hi2⟩ : ∃ i2, i2 = i := ⟨_, rfl⟩
        subst hi2
        have HX : Hid (bt s i2 = bt t m) := hx
        have hmi2 := hmi
        have hlt2 := hlt
        have hNo2 := hNo
        have hFai := hFa
        clear hn1 hx bx gi hNo hFa
        go_loopg [12] 4 (fun g2 s12 wr2 => ∃ j : Nat, s12 = .int .i64 j ∧ 1 ≤ j ∧ j ≤ m + 1 ∧ Hid (∀ k, 1 ≤ k → k < j → bt s (i2 - k) = bt t (m - k)) ∧ g2 + j = 5 ∧ ∃ n, wr2 = w.drewN n)
        case atStart => exact ⟨1, rfl, by omega, by omega, fun k h1 h2 => by omega, rfl, n1, rfl⟩
        case round =>
          obtain ⟨j, rfl, hj1, hj2, HJ, hg2, n2, rfl⟩ := hrel
          by_cases hjl : j < m + 1
          · have e1 : (i2 : Int) - (j : Int) = ((i2 - j : Nat) : Int) := by omega
            have e2 : (m : Int) - (j : Int) = ((m - j : Nat) : Int) := by omega
            have gij := bt_get s (i2 - j)
            have gmj := bt_get t (m - j)
            have lij : i2 - j < s.size := by omega
            have lmj : m - j < t.size := by omega
            go_wp2_with fail
            by_cases hne : bt s (i2 - j) = bt t (m - j)
            · have bj : (((bt s (i2 - j) : Nat) : Int) != ((bt t (m - j) : Nat) : Int)) = false := by simp; omega
              have HN : Hid (bt s (i2 - j) = bt t (m - j)) := hne
              clear hne
              go_quiet (fail)
              go_wp2_with fail
              go_roundg (4 - j)
              case measure => omega
              case rel =>
                refine ⟨j + 1, by go_num, by omega, by omega, ?_, by omega, _, rfl⟩
                intro k h1 h2
                by_cases hk : k = j
                · subst hk; exact HN.out
                · exact HJ.out k h1 (by omega)
            · have bj : (((bt s (i2 - j) : Nat) : Int) != ((bt t (m - j) : Nat) : Int)) = true := by simp; omega
              have hne2 : NoOcc s t m (i2 + 1) := hNo2.miss HM.out hj1 hjl hmi2 hne
              have hFa2 : Fails s (bt t m) (i2 + 1) (fails + 1) := hFai.next HX.out hlt2 N3.out
              have hff := hFa2.1
              clear hne hNo2 hFai
              go_quiet (fail)
              go_wp2_with fail
              go_step3
              simp only [Exit.inBlock, Exit.then]
              refine ⟨rfl, ?_⟩
              show Code.wp Tryz.prog _ _ _ _
              rw [World.drewN_drewN]
              go_wp2_with fail
              refine (cutover_any _ (by omega) (by omega) _).mono ?_
              rintro e w5 ⟨rfl, hw5⟩
              have hw5 := hw5.symm
              subst hw5
              have bc : decide (((i2 : Int) + 1 + 16) / 8 < (fails : Int) + 1) = false := by simp; omega
              go_wp2_with fail
              rw [Exit.noGoto_normal]
              simp only [Exit.inBlock, Exit.then]
              go_wp2_with fail
              go_roundg (21 - i2)
              case measure => omega
              case rel => exact ⟨i2 + 1, fails + 1, by go_num, by go_num, by omega, by omega, hff, hne2, hFa2, by omega, _, rfl⟩
          · go_wp2_with fail
            simp only [Exit.jump, Exit.inBlock, Exit.then, Exit.noGoto]
            go_ret
            obtain rfl : j = m + 1 := by omega
            have occ := NoOcc.hit HM.out hmi2 hlt2 HX.out HJ.out
            exact ⟨⟨(i2 : Int) - m, rfl, ⟨fun _ => occ, fun _ => by omega⟩⟩, n2, rfl⟩
      · have bx : (((bt s i : Nat) : Int) != ((bt t m : Nat) : Int)) = true := by simp; omega
        have bf := byte_found s t m i hNo HM.out hx hlt
        have li1 : i + 1 ≤ s.size := by omega
        have li0 : (0 : Int) ≤ (i : Int) + 1 := by omega
        have li2 : (i : Int) + 1 ≤ (s.size : Int) := by omega
        go_quiet (fail)
        go_wp2_with fail
        rw [World.drewN_drewN]
        obtain ⟨n1, hn1⟩ : ∃ n1, n0 + nq = n1 := ⟨_, rfl⟩
        rw [hn1]
        clear hn1
        obtain ⟨W, hW⟩ : ∃ W, w.drewN n1 = W := ⟨_, rfl⟩
        rw [hW]
        have HW : Hid (w.drewN n1 = W) := hW
        have hwr : IntKind.i64.wrap ((i : Int) + 1) = (i : Int) + 1 := wrap_small _ (by omega) (by omega)
        clear hW
        have BF : Hid ((Lib.indexByte (s.extract (i + 1) s.size).data.toList ((bt t m : Nat) : Int).toNat.toUInt8 = -1 ∧ ¬ Occ s t) ∨ ∃ o : Nat, Lib.indexByte (s.extract (i + 1) s.size).data.toList ((bt t m : Nat) : Int).toNat.toUInt8 = o ∧ i + 1 + o < s.size ∧ bt s (i + 1 + o) = bt t m ∧ NoOcc s t m (i + 1 + o)) := bf
        clear bf
        go_quiet ((go_at_call 160; exact Calls.quiet_of_same (indexByte_any _ _ _)))
        rw [← HW.out, World.drewN_drewN]
        obtain ⟨n3, hn3⟩ : ∃ n3, n1 + nq = n3 := ⟨_, rfl⟩
        rw [hn3]
        clear hn3 HW hwr
        rcases BF.out with ⟨b1, b2⟩ | ⟨o, b1, b2, b3, b4⟩
        · rw [b1]
          have B2 : Hid (¬ Occ s t) := b2
          clear b1 b2 BF
          go_wp2_with fail
          simp only [Exit.jump, Exit.inBlock, Exit.then, Exit.noGoto]
          go_ret
          exact ⟨⟨-1, rfl, ⟨fun h => by omega, fun h => absurd h B2.out⟩⟩, n3, rfl⟩
        · rw [b1]
          have o0 : (0 : Int) ≤ (o : Int) := by omega
          have ob : o ≤ 8 := by omega
          clear BF b1
          go_wp2_with fail
          obtain ⟨i2, hi2⟩ : ∃ i2, i + 1 + o = i2 := ⟨_, rfl⟩
          have e9 : (i : Int) + ((o : Int) + 1) = ((i2 : Nat) : Int) := by omega
          rw [e9]
          rw [hi2] at b2 b3 b4
          have HX : Hid (bt s i2 = bt t m) := b3
          have hmi2 : m ≤ i2 := by omega
          have hlt2 : i2 < s.size := b2
          have hNo2 := b4
          have hFai := hFa.mono (i' := i2) (by omega)
          have hii : i ≤ i2 := by omega
          clear e9 hi2 b2 b3 b4 bx gi hNo hFa hx li1 li0 li2
          go_loopg [12] 4 (fun g2 s12 wr2 => ∃ j : Nat, s12 = .int .i64 j ∧ 1 ≤ j ∧ j ≤ m + 1 ∧ Hid (∀ k, 1 ≤ k → k < j → bt s (i2 - k) = bt t (m - k)) ∧ g2 + j = 5 ∧ ∃ n, wr2 = w.drewN n)
          case atStart => exact ⟨1, rfl, by omega, by omega, fun k h1 h2 => by omega, rfl, n3, rfl⟩
          case round =>
            obtain ⟨j, rfl, hj1, hj2, HJ, hg2, n2, rfl⟩ := hrel
            by_cases hjl : j < m + 1
            · have e1 : (i2 : Int) - (j : Int) = ((i2 - j : Nat) : Int) := by omega
              have e2 : (m : Int) - (j : Int) = ((m - j : Nat) : Int) := by omega
              have gij := bt_get s (i2 - j)
              have gmj := bt_get t (m - j)
              have lij : i2 - j < s.size := by omega
              have lmj : m - j < t.size := by omega
              go_wp2_with fail
              by_cases hne : bt s (i2 - j) = bt t (m - j)
              · have bj : (((bt s (i2 - j) : Nat) : Int) != ((bt t (m - j) : Nat) : Int)) = false := by simp; omega
                have HN : Hid (bt s (i2 - j) = bt t (m - j)) := hne
                clear hne
                go_quiet (fail)
                go_wp2_with fail
                go_roundg (4 - j)
                case measure => omega
                case rel =>
                  refine ⟨j + 1, by go_num, by omega, by omega, ?_, by omega, _, rfl⟩
                  intro k h1 h2
                  by_cases hk : k = j
                  · subst hk; exact HN.out
                  · exact HJ.out k h1 (by omega)
              · have bj : (((bt s (i2 - j) : Nat) : Int) != ((bt t (m - j) : Nat) : Int)) = true := by simp; omega
                have hne2 : NoOcc s t m (i2 + 1) := hNo2.miss HM.out hj1 hjl hmi2 hne
                have hFa2 : Fails s (bt t m) (i2 + 1) (fails + 1) := hFai.next HX.out hlt2 N3.out
                have hff := hFa2.1
                clear hne hNo2 hFai
                go_quiet (fail)
                go_wp2_with fail
                go_step3
                simp only [Exit.inBlock, Exit.then]
                refine ⟨rfl, ?_⟩
                show Code.wp Tryz.prog _ _ _ _
                rw [World.drewN_drewN]
                go_wp2_with fail
                refine (cutover_any _ (by omega) (by omega) _).mono ?_
                rintro e w5 ⟨rfl, hw5⟩
                have hw5 := hw5.symm
                subst hw5
                have bc : decide (((i2 : Int) + 1 + 16) / 8 < (fails : Int) + 1) = false := by simp; omega
                go_wp2_with fail
                rw [Exit.noGoto_normal]
                simp only [Exit.inBlock, Exit.then]
                go_wp2_with fail
                go_roundg (21 - i2)
                case measure => omega
                case rel => exact ⟨i2 + 1, fails + 1, by go_num, by go_num, by omega, by omega, hff, hne2, hFa2, by omega, _, rfl⟩
            · go_wp2_with fail
              simp only [Exit.jump, Exit.inBlock, Exit.then, Exit.noGoto]
              go_ret
              obtain rfl : j = m + 1 := by omega
              have occ := NoOcc.hit HM.out hmi2 hlt2 HX.out HJ.out
              exact ⟨⟨(i2 : Int) - m, rfl, ⟨fun _ => occ, fun _ => by omega⟩⟩, n2, rfl⟩
    · go_wp2_with fail
      simp only [Exit.inBlock, Exit.noGoto]
      go_ret
      have nocc := hNo.done HM.out (by omega)
      exact ⟨⟨-1, rfl, ⟨fun h => by omega, fun h => absurd h nocc⟩⟩, n0, rfl⟩
end Go.Proofs.YtodabmkcihafhaaGreatDoor

/- strings.ContainsRune at every rune, in four texts of the program. -/
namespace Go.Proofs.YtodabmkcihafhaaGreatDoor
open Go.RowKit
set_option linter.unusedVariables false

set_option maxHeartbeats 2000000 in
set_option maxRecDepth 1000000 in
theorem index_none (s : ByteArray) (r : Int) (w : World) (h1 : r < 0 ∨ 128 ≤ r) (hr2 : r ≠ 65533) (hv : Lib.validRune r = false) :
    Calls Tryz.prog 152 #[.string s, .int .i32 r] w fun e w' => e = .returned (.int .i64 (-1)) ∧ w' = w := by
  have q3 : (r == 65533) = false := beq_false_of_ne hr2
  by_cases h : 0 ≤ r
  · have q2 : decide (r < 128) = false := by simp; omega
    go_enter Tryz.func152, Tryz.ntmps152
    go_wp2_with fail
    refine (validRune_any r _).mono ?_
    rintro e w1 ⟨rfl, hw1⟩
    have hw1 := hw1.symm
    subst hw1
    rw [hv]
    clear hv
    go_wp2_with fail
    go_ret
    exact ⟨rfl, rfl⟩
  · have q2 : decide (0 ≤ r) = false := by simp; omega
    go_enter Tryz.func152, Tryz.ntmps152
    go_wp2_with fail
    refine (validRune_any r _).mono ?_
    rintro e w1 ⟨rfl, hw1⟩
    have hw1 := hw1.symm
    subst hw1
    rw [hv]
    clear hv
    go_wp2_with fail
    go_ret
    exact ⟨rfl, rfl⟩

set_option maxHeartbeats 2000000 in
set_option maxRecDepth 1000000 in
theorem index_error (s : ByteArray) (w : World) (L : List Nat) (h0 : 0 ∈ L) (hL : ∀ p ∈ L, p < s.size → (Utf8.decode s p).1 ≠ 65533 ∧ p + (Utf8.decode s p).2 ∈ L) :
    Calls Tryz.prog 152 #[.string s, .int .i32 65533] w fun e w' => e = .returned (.int .i64 (-1)) ∧ Below w.heap.size w w' := by
  have HL : Hid (∀ p ∈ L, p < s.size → (Utf8.decode s p).1 ≠ 65533 ∧ p + (Utf8.decode s p).2 ∈ L) := hL
  have H0 : Hid (0 ∈ L) := h0
  clear hL h0
  go_enter Tryz.func152, Tryz.ntmps152
  go_wp2_with fail
  go_loopw [] (fun wr => ∃ (pos : Nat), Hid (pos ∈ L) ∧ wr.heap[w.heap.size]? = some (.stringIter s pos) ∧ Below w.heap.size w wr) (fun wr => s.size - wr.iterPos w.heap.size)
  case atStart =>
    refine ⟨0, H0, ?_, ?_⟩
    · exact World.iter_heap w s 0
    · exact (Below.refl _ w).alloc (Nat.le_refl _) _
  case round =>
    obtain ⟨pos, HP, hit, hbw⟩ := hrel
    by_cases hp : pos < s.size
    · have hnx : ∀ ty, (Instr.next (.pointer (some ⟨w.heap.size, 0, none⟩)) true ty).run Tryz.prog wr = _ := fun ty => Lib.run_next_any_at wr w.heap.size s pos ty hit hp
      have hwd := dec_pos s pos hp
      have hit2 := Lib.iterAt_heap wr w.heap.size s pos (pos + (Utf8.decode s pos).2) hit
      have hbw2 := Lib.below_iterAt hbw (k := w.heap.size) (by omega) s (pos + (Utf8.decode s pos).2)
      have hc := HL.out pos HP.out hp
      have b1 : (((Utf8.decode s pos).1 : Int) == 65533) = false := by simp; have := hc.1; omega
      have HC : Hid (pos + (Utf8.decode s pos).2 ∈ L) := hc.2
      have HI0 : Hid (wr.heap[w.heap.size]? = some (.stringIter s pos)) := hit
      clear hit hbw hc
      generalize wr.iterAt w.heap.size s (pos + (Utf8.decode s pos).2) = W1 at *
      have HI2 : Hid (W1.heap[w.heap.size]? = some (.stringIter s (pos + (Utf8.decode s pos).2))) := hit2
      clear hit2
      go_wp2_with fail
      refine ⟨⟨pos + (Utf8.decode s pos).2, HC, HI2.out, hbw2⟩, ?_⟩
      simp only [World.iterPos, HI2.out, HI0.out]
      omega
    · have hnx : ∀ ty, (Instr.next (.pointer (some ⟨w.heap.size, 0, none⟩)) true ty).run Tryz.prog wr = _ := fun ty => Lib.run_next_end_at wr w.heap.size s pos ty hit hp
      clear hit
      go_wp2_with fail
      go_ret
      exact ⟨rfl, hbw⟩

set_option maxHeartbeats 400000 in
theorem contains_of (s : ByteArray) (r : Int) (w : World) (b : Bool) (h : Calls Tryz.prog 152 #[.string s, .int .i32 r] w fun e w' => (∃ v : Int, e = .returned (.int .i64 v) ∧ decide (0 ≤ v) = b) ∧ Below w.heap.size w w') :
    Calls Tryz.prog 141 #[.string s, .int .i32 r] w fun e w' => e = .returned (.bool b) ∧ Below w.heap.size w w' := by
  go_enter Tryz.func141, Tryz.ntmps141
  go_wp2_with fail
  refine h.mono ?_
  rintro e w' ⟨⟨v, rfl, hv⟩, hb⟩
  go_wp2_with fail
  go_ret
  exact ⟨by rw [← hv]; rfl, hb⟩

theorem rn_u8 (n : Nat) (h : n < 256) : (UInt8.ofNat n).toNat = n := by simp; omega
theorem rn_enc2 (n : Nat) (h0 : 128 ≤ n) (h1 : n < 2048) : Utf8.encode (n : Int) = ⟨#[UInt8.ofNat (192 + n / 64), UInt8.ofNat (128 + n % 64)]⟩ := by
  have hv : Utf8.valid (n : Int) = true := by rw [validRune_eq, validRune, decide_eq_true]; left; omega
  have g1 : ¬ n < 128 := by omega
  unfold Utf8.encode
  simp only [hv, if_true, Int.toNat_natCast, g1, h1, if_false]
theorem rn_enc3 (n : Nat) (h0 : 2048 ≤ n) (h1 : n < 65536) (hv : Utf8.valid (n : Int) = true) : Utf8.encode (n : Int) = ⟨#[UInt8.ofNat (224 + n / 4096), UInt8.ofNat (128 + n / 64 % 64), UInt8.ofNat (128 + n % 64)]⟩ := by
  have g1 : ¬ n < 128 := by omega
  have g2 : ¬ n < 2048 := by omega
  unfold Utf8.encode
  simp only [hv, if_true, Int.toNat_natCast, g1, g2, h1, if_false]
theorem rn_enc4 (n : Nat) (h0 : 65536 ≤ n) (hv : Utf8.valid (n : Int) = true) : Utf8.encode (n : Int) = ⟨#[UInt8.ofNat (240 + n / 262144), UInt8.ofNat (128 + n / 4096 % 64), UInt8.ofNat (128 + n / 64 % 64), UInt8.ofNat (128 + n % 64)]⟩ := by
  have g1 : ¬ n < 128 := by omega
  have g2 : ¬ n < 2048 := by omega
  have g3 : ¬ n < 65536 := by omega
  unfold Utf8.encode
  simp only [hv, if_true, Int.toNat_natCast, g1, g2, g3, if_false]

/-- What is to be looked up in a short text, byte by byte. -/
structure Looks (s : ByteArray) (f : Int → Bool) (L : List Nat) : Prop where
  size : s.size ≤ 8
  asc : ∀ n, n < 128 → decide (0 ≤ Lib.indexByte s.data.toList (UInt8.ofNat n)) = f n
  two : ∀ p, p < s.size → p + 2 ≤ s.size → 192 ≤ bt s p → 128 ≤ bt s (p + 1) → (bt s p - 192) * 64 + (bt s (p + 1) - 128) < 2048 → f (((bt s p - 192) * 64 + (bt s (p + 1) - 128) : Nat) : Int) = true
  three : ∀ p, p < s.size → p + 3 ≤ s.size → 224 ≤ bt s p → 128 ≤ bt s (p + 1) → 128 ≤ bt s (p + 2) → f (((bt s p - 224) * 4096 + (bt s (p + 1) - 128) * 64 + (bt s (p + 2) - 128) : Nat) : Int) = true
  four : ∀ p, p < s.size → bt s p < 240
  back : ∀ r, 128 ≤ r → f r = true → Occ s (Utf8.encode r)
  bad : ∀ r, f r = true → r ≠ 65533 ∧ Lib.validRune r = true
  no3 : ∀ c, c < s.size → ∀ b, b < c → ∀ a, a < b → ¬ (bt s a = bt s b ∧ bt s b = bt s c ∧ bt s a < 192)
  in0 : 0 ∈ L
  inL : ∀ p ∈ L, p < s.size → (Utf8.decode s p).1 ≠ 65533 ∧ p + (Utf8.decode s p).2 ∈ L

theorem Looks.occ {s : ByteArray} {f : Int → Bool} {L : List Nat} (h : Looks s f L) (n : Nat) (h0 : 128 ≤ n) (hv : Utf8.valid (n : Int) = true) (hn : n < 1114112) : Occ s (Utf8.encode (n : Int)) ↔ f (n : Int) = true := by
  constructor
  · rintro ⟨p, hp, hall⟩
    by_cases h2 : n < 2048
    · rw [rn_enc2 n h0 h2] at hp hall
      have hp : p + 2 ≤ s.size := hp
      have e0 : bt s (p + 0) = 192 + n / 64 := (hall 0 (by show 0 < 2; decide)).trans (rn_u8 _ (by omega))
      have e1 : bt s (p + 1) = 128 + n % 64 := (hall 1 (by show 1 < 2; decide)).trans (rn_u8 _ (by omega))
      rw [Nat.add_zero] at e0
      have e : (bt s p - 192) * 64 + (bt s (p + 1) - 128) = n := by omega
      have := h.two p (by omega) hp (by omega) (by omega) (by omega)
      rw [e] at this; exact this
    · by_cases h3 : n < 65536
      · rw [rn_enc3 n (by omega) h3 hv] at hp hall
        have hp : p + 3 ≤ s.size := hp
        have e0 : bt s (p + 0) = 224 + n / 4096 := (hall 0 (by show 0 < 3; decide)).trans (rn_u8 _ (by omega))
        have e1 : bt s (p + 1) = 128 + n / 64 % 64 := (hall 1 (by show 1 < 3; decide)).trans (rn_u8 _ (by omega))
        have e2 : bt s (p + 2) = 128 + n % 64 := (hall 2 (by show 2 < 3; decide)).trans (rn_u8 _ (by omega))
        rw [Nat.add_zero] at e0
        have e : (bt s p - 224) * 4096 + (bt s (p + 1) - 128) * 64 + (bt s (p + 2) - 128) = n := by omega
        have := h.three p (by omega) hp (by omega) (by omega) (by omega)
        rw [e] at this; exact this
      · rw [rn_enc4 n (by omega) hv] at hp hall
        have hp : p + 4 ≤ s.size := hp
        have e0 : bt s (p + 0) = 240 + n / 262144 := (hall 0 (by show 0 < 4; decide)).trans (rn_u8 _ (by omega))
        have := h.four p (by omega)
        rw [Nat.add_zero] at e0
        omega
  · exact h.back n (by omega)

theorem rn_last (n : Nat) (h0 : 128 ≤ n) (hn : n < 1114112) (hv : Utf8.valid (n : Int) = true) : ∃ m, 1 ≤ m ∧ m ≤ 3 ∧ (Utf8.encode (n : Int)).size = m + 1 ∧ bt (Utf8.encode (n : Int)) m < 192 := by
  by_cases h2 : n < 2048
  · rw [rn_enc2 n h0 h2]
    refine ⟨1, by omega, by omega, rfl, ?_⟩
    have : bt ⟨#[UInt8.ofNat (192 + n / 64), UInt8.ofNat (128 + n % 64)]⟩ 1 = 128 + n % 64 := rn_u8 _ (by omega)
    omega
  · by_cases h3 : n < 65536
    · rw [rn_enc3 n (by omega) h3 hv]
      refine ⟨2, by omega, by omega, rfl, ?_⟩
      have : bt ⟨#[UInt8.ofNat (224 + n / 4096), UInt8.ofNat (128 + n / 64 % 64), UInt8.ofNat (128 + n % 64)]⟩ 2 = 128 + n % 64 := rn_u8 _ (by omega)
      omega
    · rw [rn_enc4 n (by omega) hv]
      refine ⟨3, by omega, by omega, rfl, ?_⟩
      have : bt ⟨#[UInt8.ofNat (240 + n / 262144), UInt8.ofNat (128 + n / 4096 % 64), UInt8.ofNat (128 + n / 64 % 64), UInt8.ofNat (128 + n % 64)]⟩ 3 = 128 + n % 64 := rn_u8 _ (by omega)
      omega

theorem Looks.contains {s : ByteArray} {f : Int → Bool} {L : List Nat} (h : Looks s f L) (r : Int) (w : World) (h0 : -1 ≤ r) (h1 : r ≤ 1114111) :
    Calls Tryz.prog 141 #[.string s, .int .i32 r] w fun e w' => e = .returned (.bool (f r)) ∧ Below w.heap.size w w' := by
  by_cases ha : 0 ≤ r ∧ r < 128
  · obtain ⟨n, rfl⟩ : ∃ n : Nat, r = n := ⟨r.toNat, by omega⟩
    refine (contains_ascii s n w (by omega) (by omega)).mono ?_
    rintro e w' ⟨rfl, rfl⟩
    refine ⟨?_, Below.refl _ _⟩
    rw [arg_u8, h.asc n (by omega)]
  · apply contains_of
    by_cases he : r = 65533
    · subst he
      have hf : f 65533 = false := by
        cases hb : f 65533 with
        | false => rfl
        | true => exact absurd rfl (h.bad _ hb).1
      refine (index_error s w L h.in0 h.inL).mono ?_
      rintro e w' ⟨rfl, hb⟩
      exact ⟨⟨-1, rfl, by rw [hf]; rfl⟩, hb⟩
    · cases hv : Lib.validRune r with
      | false =>
        have hf : f r = false := by
          cases hb : f r with
          | false => rfl
          | true => exact absurd (h.bad _ hb).2 (by rw [hv]; decide)
        refine (index_none s r w (by omega) he hv).mono ?_
        rintro e w' ⟨rfl, rfl⟩
        exact ⟨⟨-1, rfl, by rw [hf]; rfl⟩, Below.refl _ _⟩
      | true =>
        have hr : 128 ≤ r := by
          have := hv
          unfold Lib.validRune at this
          rw [decide_eq_true_eq] at this
          omega
        obtain ⟨n, rfl⟩ : ∃ n : Nat, r = n := ⟨r.toNat, by omega⟩
        have hv' : Utf8.valid (n : Int) = true := by rw [validRune_eq]; exact hv
        obtain ⟨m, m1, m2, m3, m4⟩ := rn_last n (by omega) (by omega) hv'
        refine (index_rune s _ n w m h.size rfl m1 m2 m3 hr he hv ?_).mono ?_
        · intro a b c hab hbc hcs q1 q2 q3
          exact h.no3 c hcs b hbc a hab ⟨by omega, by omega, by omega⟩
        · rintro e w' ⟨⟨v, rfl, hiff⟩, k, rfl⟩
          refine ⟨⟨v, rfl, ?_⟩, ⟨rfl, rfl, rfl, Nat.le_refl _, fun _ _ => rfl⟩⟩
          rw [Bool.eq_iff_iff, decide_eq_true_iff, hiff]
          exact h.occ n (by omega) hv' (by omega)

theorem looks_frac : Looks ⟨#[194, 189, 194, 188, 194, 190]⟩ isFrac [0, 2, 4, 6] where
  size := by decide
  asc := by decide +kernel
  two := by decide +kernel
  three := by decide +kernel
  four := by decide +kernel
  back := by
    intro r h0 hf
    have : r = 189 ∨ r = 188 ∨ r = 190 := by simpa [isFrac, or_assoc] using hf
    rcases this with rfl | rfl | rfl
    · exact ⟨0, by decide +kernel, by decide +kernel⟩
    · exact ⟨2, by decide +kernel, by decide +kernel⟩
    · exact ⟨4, by decide +kernel, by decide +kernel⟩
  bad := by
    intro r hf
    have : r = 189 ∨ r = 188 ∨ r = 190 := by simpa [isFrac, or_assoc] using hf
    rcases this with rfl | rfl | rfl <;> decide
  no3 := by decide +kernel
  in0 := by decide
  inL := by decide +kernel
theorem looks_mark : Looks ⟨#[194, 178, 226, 128, 178]⟩ isMk [0, 2, 5] where
  size := by decide
  asc := by decide +kernel
  two := by decide +kernel
  three := by decide +kernel
  four := by decide +kernel
  back := by
    intro r h0 hf
    have : r = 178 ∨ r = 8242 := by simpa [isMk] using hf
    rcases this with rfl | rfl
    · exact ⟨0, by decide +kernel, by decide +kernel⟩
    · exact ⟨2, by decide +kernel, by decide +kernel⟩
  bad := by
    intro r hf
    have : r = 178 ∨ r = 8242 := by simpa [isMk] using hf
    rcases this with rfl | rfl <;> decide
  no3 := by decide +kernel
  in0 := by decide
  inL := by decide +kernel
theorem looks_sum : Looks ⟨#[43, 226, 136, 146]⟩ (inRow 0) [0, 1, 4] where
  size := by decide
  asc := by decide +kernel
  two := by decide +kernel
  three := by decide +kernel
  four := by decide +kernel
  back := by
    intro r h0 hf
    have : r = 43 ∨ r = 8722 := by simpa [inRow] using hf
    rcases this with rfl | rfl
    · omega
    · exact ⟨1, by decide +kernel, by decide +kernel⟩
  bad := by
    intro r hf
    have : r = 43 ∨ r = 8722 := by simpa [inRow] using hf
    rcases this with rfl | rfl <;> decide
  no3 := by decide +kernel
  in0 := by decide
  inL := by decide +kernel
theorem looks_prod : Looks ⟨#[195, 151, 195, 183]⟩ (inRow 1) [0, 2, 4] where
  size := by decide
  asc := by decide +kernel
  two := by decide +kernel
  three := by decide +kernel
  four := by decide +kernel
  back := by
    intro r h0 hf
    have : r = 215 ∨ r = 247 := by simpa [inRow] using hf
    rcases this with rfl | rfl
    · exact ⟨0, by decide +kernel, by decide +kernel⟩
    · exact ⟨2, by decide +kernel, by decide +kernel⟩
  bad := by
    intro r hf
    have : r = 215 ∨ r = 247 := by simpa [inRow] using hf
    rcases this with rfl | rfl <;> decide
  no3 := by decide +kernel
  in0 := by decide
  inL := by decide +kernel
end Go.Proofs.YtodabmkcihafhaaGreatDoor

/- Plain: signs written, and read again. -/
namespace Go.Proofs.YtodabmkcihafhaaGreatDoor

theorem bt_list (s : ByteArray) (i : Nat) (h : i < s.size) : bt s i = (s.data.toList[i]'(by simpa using h)).toNat := by
  rw [← bt_get s i h]
  rfl
theorem bt_right (a b : ByteArray) (i : Nat) (h : i < b.size) : bt (a ++ b) (a.size + i) = bt b i := by
  have h1 : a.size + i < (a ++ b).size := by rw [ByteArray.size_append]; omega
  rw [bt_list _ _ h1, bt_list _ _ h]
  congr 1
  have : (a ++ b).data.toList = a.data.toList ++ b.data.toList := by simp
  have h2 : a.data.toList.length = a.size := by simp
  simp [h2]
theorem bt_left (a b : ByteArray) (i : Nat) (h : i < a.size) : bt (a ++ b) i = bt a i := by
  have h1 : i < (a ++ b).size := by rw [ByteArray.size_append]; omega
  rw [bt_list _ _ h1, bt_list _ _ h]
  congr 1
  have : (a ++ b).data.toList = a.data.toList ++ b.data.toList := by simp
  have h2 : a.data.toList.length = a.size := by simp
  simp [h2, h]
theorem enc_one (n : Nat) (h : n < 128) : Utf8.encode (n : Int) = ⟨#[UInt8.ofNat n]⟩ := by
  have hv : Utf8.valid (n : Int) = true := by rw [validRune_eq, validRune, decide_eq_true]; left; omega
  unfold Utf8.encode
  simp only [hv, if_true, Int.toNat_natCast, h]
theorem dec_enc (pre post : ByteArray) (n : Nat) (hk : known n = true) : Utf8.decode (pre ++ Utf8.encode (n : Int) ++ post) pre.size = (n, (Utf8.encode (n : Int)).size) ∧ 1 ≤ (Utf8.encode (n : Int)).size := by
  have key : ∀ k, 1 ≤ k → pre.size < (pre ++ Utf8.encode (n : Int) ++ post).size → atP (pre ++ Utf8.encode (n : Int) ++ post) pre.size = (n, k) → Utf8.decode (pre ++ Utf8.encode (n : Int) ++ post) pre.size = (n, k) := by
    intro k hk1 hlt ha
    have := at_dec _ _ hlt
    rw [ha] at this
    split at this
    · exact this.symm
    · injection this with _ h2; omega
  have hb : ∀ i, i < (Utf8.encode (n : Int)).size → bt (pre ++ Utf8.encode (n : Int) ++ post) (pre.size + i) = bt (Utf8.encode (n : Int)) i := by
    intro i hi
    rw [bt_left _ _ _ (by rw [ByteArray.size_append]; omega), bt_right _ _ _ hi]
  have hsz : (pre ++ Utf8.encode (n : Int) ++ post).size = pre.size + (Utf8.encode (n : Int)).size + post.size := by
    rw [ByteArray.size_append, ByteArray.size_append]
  unfold known at hk
  simp only [Bool.or_eq_true, Bool.and_eq_true, decide_eq_true_eq] at hk
  by_cases h1 : n < 128
  · have e := enc_one n h1
    have es : (Utf8.encode (n : Int)).size = 1 := by rw [e]; rfl
    have b0 := hb 0 (by omega)
    rw [show bt (Utf8.encode (n : Int)) 0 = n by rw [e]; exact rn_u8 n (by omega), Nat.add_zero] at b0
    rw [es]
    refine ⟨key 1 (Nat.le_refl _) (by omega) ?_, Nat.le_refl _⟩
    unfold atP
    rw [if_neg (by omega), if_pos (by omega), b0]
  by_cases h2 : n < 2048
  · have e := rn_enc2 n (by omega) h2
    have es : (Utf8.encode (n : Int)).size = 2 := by rw [e]; rfl
    have b0 := hb 0 (by omega)
    have b1 := hb 1 (by omega)
    rw [show bt (Utf8.encode (n : Int)) 0 = 192 + n / 64 by rw [e]; exact rn_u8 _ (by omega), Nat.add_zero] at b0
    rw [show bt (Utf8.encode (n : Int)) 1 = 128 + n % 64 by rw [e]; exact rn_u8 _ (by omega)] at b1
    rw [es]
    refine ⟨key 2 (by decide) (by omega) ?_, by decide⟩
    unfold atP
    rw [if_neg (by omega), if_neg (by omega), if_pos (by omega), b0, b1]
    refine Prod.ext ?_ rfl
    show (192 + n / 64) % 32 * 64 + (128 + n % 64) % 64 = n
    omega
  · have hv : Utf8.valid (n : Int) = true := by rw [validRune_eq, validRune, decide_eq_true]; left; omega
    have e := rn_enc3 n (by omega) (by omega) hv
    have es : (Utf8.encode (n : Int)).size = 3 := by rw [e]; rfl
    have b0 := hb 0 (by omega)
    have b1 := hb 1 (by omega)
    have b2 := hb 2 (by omega)
    rw [show bt (Utf8.encode (n : Int)) 0 = 224 + n / 4096 by rw [e]; exact rn_u8 _ (by omega), Nat.add_zero] at b0
    rw [show bt (Utf8.encode (n : Int)) 1 = 128 + n / 64 % 64 by rw [e]; exact rn_u8 _ (by omega)] at b1
    rw [show bt (Utf8.encode (n : Int)) 2 = 128 + n % 64 by rw [e]; exact rn_u8 _ (by omega)] at b2
    rw [es]
    refine ⟨key 3 (by decide) (by omega) ?_, by decide⟩
    unfold atP
    rw [if_neg (by omega), if_neg (by omega), if_neg (by omega), if_pos (by omega), b1, b2]
    refine Prod.ext ?_ rfl
    show 8192 + (128 + n / 64 % 64) % 64 * 64 + (128 + n % 64) % 64 = n
    omega
theorem enc_wid (n : Nat) (hk : known n = true) : (Utf8.encode (n : Int)).size = if n < 128 then 1 else if n < 2048 then 2 else 3 := by
  unfold known at hk
  simp only [Bool.or_eq_true, Bool.and_eq_true, decide_eq_true_eq] at hk
  by_cases h1 : n < 128
  · rw [if_pos h1, enc_one n h1]; rfl
  · rw [if_neg h1]
    by_cases h2 : n < 2048
    · rw [if_pos h2, rn_enc2 n (by omega) h2]; rfl
    · have hv : Utf8.valid (n : Int) = true := by rw [validRune_eq, validRune, decide_eq_true]; left; omega
      rw [if_neg h2, rn_enc3 n (by omega) (by omega) hv]; rfl
theorem encAll_cons (c : Int) (l : List Int) : encAll (c :: l) = Utf8.encode c ++ encAll l := by
  have : ∀ (l : List Int) (a : ByteArray), l.foldl (fun acc c => acc ++ Utf8.encode c) a = a ++ encAll l := by
    intro l
    induction l with
    | nil => intro a; simp [encAll]
    | cons d r ih =>
      intro a
      rw [List.foldl_cons, ih]
      unfold encAll
      rw [List.foldl_cons, ih (ByteArray.empty ++ Utf8.encode d)]
      simp [ByteArray.append_assoc, encAll]
  show List.foldl _ _ (c :: l) = _
  rw [List.foldl_cons, this]
  simp
theorem encAll_append (l m : List Int) : encAll (l ++ m) = encAll l ++ encAll m := by
  induction l with
  | nil => simp [encAll]
  | cons c r ih => rw [List.cons_append, encAll_cons, encAll_cons, ih, ByteArray.append_assoc]
end Go.Proofs.YtodabmkcihafhaaGreatDoor

/- Plain: a numeral in quarters. -/
namespace Go.Proofs.YtodabmkcihafhaaGreatDoor

def quS (a : Int × Int) (c : Int) : Int × Int := if c = 188 then (a.1, 1) else if c = 189 then (a.1, 2) else if c = 190 then (a.1, 3) else (10 * a.1 + (c - 48), a.2)
def quF (l : List Int) : Int × Int := l.foldl quS (0, 0)
def quP (l : List Int) : Int := 4 * (quF l).1 + (quF l).2
theorem quF_snoc (l : List Int) (c : Int) : quF (l ++ [c]) = quS (quF l) c := by simp [quF]
theorem qu_digs : ∀ (m : List Int) (a : Int × Int), (∀ c ∈ m, isDig c = true) → m.foldl quS a = (m.foldl (fun n c => 10 * n + (c - 48)) a.1, a.2) := by
  intro m
  induction m with
  | nil => intro a _; rfl
  | cons c r ih =>
    intro a h
    have hc := h c (by simp)
    unfold isDig at hc
    simp at hc
    rw [List.foldl_cons, ih _ (fun d hd => h d (by simp [hd])), List.foldl_cons]
    unfold quS
    rw [if_neg (by omega), if_neg (by omega), if_neg (by omega)]
theorem qu_bound (m : List Int) (h : ∀ c ∈ m, isDig c = true) (hl : m.length ≤ 3) : 0 ≤ m.foldl (fun n c => 10 * n + (c - 48)) (0 : Int) ∧ m.foldl (fun n c => 10 * n + (c - 48)) (0 : Int) ≤ 999 := by
  have := dig_fold m 0 3 h hl (by omega)
  have h2 : (10 : Int) ^ m.length ≤ 1000 := by
    have : m.length = 0 ∨ m.length = 1 ∨ m.length = 2 ∨ m.length = 3 := by omega
    rcases this with e | e | e | e <;> rw [e] <;> decide
  omega
/-- Of each beginning of a numeral. -/
theorem qu_part {l : List Int} (h : NumeOk l) (pre post : List Int) (e : l = pre ++ post) : 0 ≤ (quF pre).1 ∧ (quF pre).1 ≤ 999 ∧ 0 ≤ (quF pre).2 ∧ (quF pre).2 ≤ 3 := by
  have key : ∀ m, (∀ c ∈ m, isDig c = true) → m.length ≤ 3 → 0 ≤ (quF m).1 ∧ (quF m).1 ≤ 999 ∧ (quF m).2 = 0 := by
    intro m hm hl
    have := qu_bound m hm hl
    unfold quF
    rw [qu_digs m _ hm]
    exact ⟨this.1, this.2, rfl⟩
  have last : ∀ m c, (∀ c ∈ m, isDig c = true) → m.length ≤ 3 → isFrac c = true → 0 ≤ (quF (m ++ [c])).1 ∧ (quF (m ++ [c])).1 ≤ 999 ∧ 0 ≤ (quF (m ++ [c])).2 ∧ (quF (m ++ [c])).2 ≤ 3 := by
    intro m c hm hl hc
    have := key m hm hl
    unfold isFrac at hc
    simp at hc
    rw [quF_snoc]
    unfold quS
    split
    · exact ⟨this.1, this.2.1, by simp, by simp⟩
    split
    · exact ⟨this.1, this.2.1, by simp, by simp⟩
    split
    · exact ⟨this.1, this.2.1, by simp, by simp⟩
    · omega
  have two : ∀ m fr, l = m ++ fr → (∀ c ∈ m, isDig c = true) → m.length ≤ 3 → (fr = [] ∨ ∃ c, fr = [c] ∧ isFrac c = true) → 0 ≤ (quF pre).1 ∧ (quF pre).1 ≤ 999 ∧ 0 ≤ (quF pre).2 ∧ (quF pre).2 ≤ 3 := by
    intro m fr hm h1 h2 h3
    rw [hm] at e
    rcases List.append_eq_append_iff.1 e with ⟨a, e1, e2⟩ | ⟨a, e1, e2⟩
    · rcases h3 with rfl | ⟨c, rfl, hc⟩
      · have : a = [] := by
          cases a with
          | nil => rfl
          | cons x y => simp at e2
        subst this
        rw [e1, List.append_nil]
        have := key m h1 h2
        omega
      · cases a with
        | nil =>
          rw [e1, List.append_nil]
          have := key m h1 h2
          omega
        | cons x y =>
          simp at e2
          obtain ⟨rfl, h4, _⟩ := e2
          subst h4
          rw [e1]
          exact last m c h1 h2 hc
    · have h4 := key pre (fun c hc => h1 c (by rw [e1]; simp [hc])) (by rw [e1] at h2; simp at h2; omega)
      omega
  rcases h with ⟨c, rfl, hc⟩ | ⟨d, ds, fr, rfl, hd, _, hds, hdd, hfr⟩
  · exact two [] [c] rfl (fun c hc => by cases hc) (by simp) (Or.inr ⟨c, rfl, hc⟩)
  · exact two (d :: ds) fr rfl (fun c hc => by
      rcases List.mem_cons.1 hc with rfl | hc
      · exact hd
      · exact hdd c hc) (by simp; omega) hfr
theorem low_scale (k a b : Int) (hk : 0 < k) (hb : 0 < b) : lowP (k * a) (k * b) = lowP a b := by
  have e : gcdP (k * a) (k * b) = k * gcdP a b := by
    unfold gcdP
    rw [Int.natAbs_mul, Int.natAbs_mul, Nat.gcd_mul_left, Int.natCast_mul]
    congr 1
    omega
  have hg := gcdP_pos (n := a) hb
  unfold lowP
  rw [e, Int.mul_ediv_mul_of_pos _ _ hk, Int.mul_ediv_mul_of_pos _ _ hk]
/-- The quarters, in lowest terms, are the document's fraction. -/
theorem qu_num {l : List Int} (h : NumeOk l) : mkF (quP l) 4 = lowP (numVal l).1 (numVal l).2 ∧ 0 ≤ quP l ∧ quP l ≤ 4000 := by
  have hp := qu_part h l [] (by simp)
  have hq : 0 ≤ quP l ∧ quP l ≤ 4000 := by unfold quP; omega
  refine ⟨?_, hq⟩
  have hmk : mkF (quP l) 4 = lowP (quP l) 4 := by
    apply mkF_of_not
    have h1 := low_abs (n := quP l) (show (0 : Int) < 4 by decide)
    have h2 := low_d_pos (n := quP l) (show (0 : Int) < 4 by decide)
    unfold mkB Fr.big
    simp
    omega
  rw [hmk]
  have dg : ∀ m, (∀ c ∈ m, isDig c = true) → m ≠ [] → quP m = 4 * (numVal m).1 ∧ (numVal m).2 = 1 := by
    intro m hm hne
    rw [numVal_plain m hm hne]
    unfold quP quF
    rw [qu_digs m _ hm]
    exact ⟨by simp, rfl⟩
  have fc : ∀ m c, (∀ c ∈ m, isDig c = true) → isFrac c = true → lowP (quP (m ++ [c])) 4 = lowP (numVal (m ++ [c])).1 (numVal (m ++ [c])).2 := by
    intro m c hm hc
    have hcd : isDig c = false := by
      unfold isFrac at hc
      unfold isDig
      simp at hc ⊢
      omega
    have hq : quF m = (m.foldl (fun n c => 10 * n + (c - 48)) 0, 0) := by unfold quF; rw [qu_digs m _ hm]
    have hv : numVal (m ++ [c]) = if c = 189 then (2 * m.foldl (fun n c => 10 * n + (c - 48)) 0 + 1, 2) else if c = 188 then (4 * m.foldl (fun n c => 10 * n + (c - 48)) 0 + 1, 4) else if c = 190 then (4 * m.foldl (fun n c => 10 * n + (c - 48)) 0 + 3, 4) else (m.foldl (fun n c => 10 * n + (c - 48)) 0, 1) := by
      unfold numVal
      simp only [List.filter_append, filter_all m hm, List.filter_cons, hcd, List.filter_nil, List.append_nil, List.getLast?_concat, Bool.false_eq_true, if_false]
    rw [hv]
    unfold quP
    rw [quF_snoc, hq]
    generalize m.foldl (fun n c => 10 * n + (c - 48)) (0 : Int) = n
    unfold quS
    unfold isFrac at hc
    simp at hc
    rcases hc with (rfl | rfl) | rfl
    · show lowP (4 * n + 2) 4 = lowP (2 * n + 1) 2
      have := low_scale 2 (2 * n + 1) 2 (by decide) (by decide)
      rw [show (2 : Int) * (2 * n + 1) = 4 * n + 2 by omega] at this
      exact this
    · rfl
    · rfl
  rcases h with ⟨c, rfl, hc⟩ | ⟨d, ds, fr, rfl, hd, _, hds, hdd, hfr⟩
  · exact fc [] c (fun c hc => by cases hc) hc
  · have hm : ∀ c ∈ d :: ds, isDig c = true := fun c hc => by
      rcases List.mem_cons.1 hc with rfl | hc
      · exact hd
      · exact hdd c hc
    rcases hfr with rfl | ⟨c, rfl, hc⟩
    · rw [List.append_nil]
      obtain ⟨e1, e2⟩ := dg (d :: ds) hm (by simp)
      rw [e1, e2]
      have := low_scale 4 (numVal (d :: ds)).1 1 (by decide) (by decide)
      exact this
    · exact fc (d :: ds) c hm hc
end Go.Proofs.YtodabmkcihafhaaGreatDoor

/- The program's piecesOf: the signs of a text. -/
namespace Go.Proofs.YtodabmkcihafhaaGreatDoor
open Go.RowKit
set_option linter.unusedVariables false

def Tok.cells (t : Tok) : List Value := [.int .i32 t.c, .int .i64 t.p, .bool t.a]
def tkCells (ts : List Tok) : List Value := ts.flatMap Tok.cells
theorem tkCells_snoc (L : List Tok) (n : Tok) : tkCells L ++ n.cells = tkCells (L ++ [n]) := by simp [tkCells]
theorem Tryz.infoSign : (Tryz.prog.info? 176).map (fun i => (i.zero, i.size, i.bytes)) = some (some (.agg #[.int .i32 0, .int .i64 0, .bool false]), 3, 24) := by kernel_rfl
theorem tk_one (n : Tok) : ∀ u ∈ n.cells, u.oneCell' = true := by
  intro u hu
  simp [Tok.cells] at hu
  rcases hu with rfl | rfl | rfl <;> rfl
theorem tk_new (w : World) (n : Tok) : ∀ j u, n.cells[j]? = some u → (w.alloc (.cells #[.int .i32 n.c, .int .i64 n.p, .bool n.a] 176)).cell? ((⟨w.heap.size, 0, none⟩ : Addr).add j) = some u := by
  refine World.news_of_block (cs := #[.int .i32 n.c, .int .i64 n.p, .bool n.a]) (t := 176) (fr := (0, 0)) ?_
  exact heap_alloc_new w _

set_option maxHeartbeats 2000000 in
set_option maxRecDepth 1000000 in
theorem piecesOf_any (s : ByteArray) (w : World) (hs : s.size ≤ 120) :
    Calls Tryz.prog 76 #[.string s] w fun e w' => ∃ v, e = .returned v ∧ w'.ownsRow (w.heap.size + 1) 176 3 v (toks s 0 false).length (tkCells (toks s 0 false)) ∧ Below w.heap.size w w' := by
  obtain ⟨i0, hi, hz0, hz1, hz2⟩ := info_parts Tryz.infoSign
  have Hi : Hid (Tryz.prog.info? 176 = some i0) := hi
  have Hz : Hid (i0.zero = some (.agg #[.int .i32 0, .int .i64 0, .bool false])) := hz0
  have Hz1 : Hid (i0.size = 3) := hz1
  have Hz2 : Hid (i0.bytes = 24) := hz2
  clear hi hz0 hz1 hz2
  have hl : (toks s 0 false).length ≤ 121 := by
    have := toks_length s (s.size - 0) 0 false
    unfold toks; omega
  go_enter Tryz.func76, Tryz.ntmps76
  go_wp2_with fail
  go_loopw [3, 4] (fun s3 s4 wr => ∃ (pos : Nat) (acc : List Tok) (ap : Bool), wr.ownsRow (w.heap.size + 1) 176 3 s3 acc.length (tkCells acc) ∧ s4 = .bool ap ∧ wr.heap[w.heap.size]? = some (.stringIter s pos) ∧ Below w.heap.size w wr ∧ Hid (acc ++ toks s pos ap = toks s 0 false)) (fun _ _ wr => s.size - wr.iterPos w.heap.size)
  case atStart =>
    refine ⟨0, [], false, World.ownsRow_nil _ _ _ _, rfl, ?_, ?_, rfl⟩
    · exact World.iter_heap w s 0
    · exact (Below.refl _ w).alloc (Nat.le_refl _) _
  case round =>
    obtain ⟨pos, acc, ap, hown, rfl, hit, hbw, HD⟩ := hrel
    have hsz : w.heap.size < wr.heap.size := (Array.getElem?_eq_some_iff.1 hit).1
    have hlen : acc.length ≤ 121 := by
      have := congrArg List.length HD.out
      simp at this; omega
    by_cases hp : pos < s.size
    · have hnx : ∀ ty, (Instr.next (.pointer (some ⟨w.heap.size, 0, none⟩)) true ty).run Tryz.prog wr = _ := fun ty => Lib.run_next_any_at wr w.heap.size s pos ty hit hp
      have hwd := dec_pos s pos hp
      have hd1 := decode_le s pos
      have hit2 := Lib.iterAt_heap wr w.heap.size s pos (pos + (Utf8.decode s pos).2) hit
      have hbw2 := Lib.below_iterAt hbw (k := w.heap.size) (by omega) s (pos + (Utf8.decode s pos).2)
      have hstep := toks_step s pos ap hp
      have hown2 := ownsRow_iterAt hown (Nat.lt_succ_self _) s (pos + (Utf8.decode s pos).2)
      have hsz2 : w.heap.size < (wr.iterAt w.heap.size s (pos + (Utf8.decode s pos).2)).heap.size := by rw [Lib.iterAt_size]; omega
      have HS : Hid (toks s pos ap = if (Utf8.decode s pos).1 = 32 then toks s (pos + (Utf8.decode s pos).2) true else ⟨(Utf8.decode s pos).1, pos, ap⟩ :: toks s (pos + (Utf8.decode s pos).2) false) := hstep
      have HI0 : Hid (wr.heap[w.heap.size]? = some (.stringIter s pos)) := hit
      clear hstep hit hown hbw
      generalize wr.iterAt w.heap.size s (pos + (Utf8.decode s pos).2) = W1 at *
      have HI2 : Hid (W1.heap[w.heap.size]? = some (.stringIter s (pos + (Utf8.decode s pos).2))) := hit2
      clear hit2
      by_cases h32 : (Utf8.decode s pos).1 = 32
      · have b32 : (((Utf8.decode s pos).1 : Int) == 32) = true := by simp; omega
        have H32 : Hid ((Utf8.decode s pos).1 = 32) := h32
        clear h32
        go_wp2_with fail
        refine ⟨⟨pos + (Utf8.decode s pos).2, acc, true, hown2, rfl, HI2.out, hbw2, ?_⟩, ?_⟩
        · have := HD.out
          rw [HS.out, if_pos H32.out] at this
          exact this
        · simp only [World.iterPos, HI2.out, HI0.out]
          omega
      · have b32 : (((Utf8.decode s pos).1 : Int) == 32) = false := by simp; omega
        have H32 : Hid (¬ (Utf8.decode s pos).1 = 32) := h32
        clear h32
        go_wp2_with (at_builtin; refine wpList_append_own _ rfl _ _ 166 rfl (w.heap.size + 1) 176 i0 _ 3 24 Tryz.underlying166 Hi.out Hz.out Hz1.out Hz2.out rfl (by decide) _ _ _ rfl (hown2.alloc _) ⟨W1.heap.size, 0, none⟩ 1 1 (Tok.cells ⟨(Utf8.decode s pos).1, pos, ap⟩) rfl rfl (tk_new W1 ⟨(Utf8.decode s pos).1, pos, ap⟩) (tk_one _) (by unfold maxLen; omega) (by omega) (by simp; omega) ?_; intro v' w3 hown' hgrow3 hnil3)
        have hit3 : w3.heap[w.heap.size]? = some (.stringIter s (pos + (Utf8.decode s pos).2)) := by
          rw [hgrow3.block w.heap.size (by simp; omega) (fun h => by have := (hown2.lt _ h.symm).1; omega), Below.heap_alloc _ _ _ hsz2]; exact HI2.out
        have hbw3 : Below w.heap.size w w3 := Below.grown (hbw2.alloc (by omega) _) hgrow3 (by simp; omega) (fun j hj => by have := (hown2.lt _ hj).1; omega)
        have F1 : acc ++ [⟨(Utf8.decode s pos).1, pos, ap⟩] ++ toks s (pos + (Utf8.decode s pos).2) false = toks s 0 false := by
          have := HD.out
          rw [HS.out, if_neg H32.out] at this
          rw [← this]; simp
        have F2 : w3.ownsRow (w.heap.size + 1) 176 3 v' (acc ++ [(⟨(Utf8.decode s pos).1, pos, ap⟩ : Tok)]).length (tkCells (acc ++ [(⟨(Utf8.decode s pos).1, pos, ap⟩ : Tok)])) := by
          rw [← tkCells_snoc]
          simpa using hown'
        have F3 : s.size - w3.iterPos w.heap.size < s.size - wr.iterPos w.heap.size := by
          simp only [World.iterPos, hit3, HI0.out]
          omega
        have G1 : Hid (acc ++ [⟨(Utf8.decode s pos).1, pos, ap⟩] ++ toks s (pos + (Utf8.decode s pos).2) false = toks s 0 false) := F1
        have G3 : Hid (s.size - w3.iterPos w.heap.size < s.size - wr.iterPos w.heap.size) := F3
        have G4 : Hid (w3.heap[w.heap.size]? = some (.stringIter s (pos + (Utf8.decode s pos).2))) := hit3
        clear F1 F3 hit3 hgrow3 hnil3 hown'
        go_wp2_with fail
        exact ⟨⟨_, _, false, F2, rfl, G4.out, hbw3, G1.out⟩, G3.out⟩
    · have hnx : ∀ ty, (Instr.next (.pointer (some ⟨w.heap.size, 0, none⟩)) true ty).run Tryz.prog wr = _ := fun ty => Lib.run_next_end_at wr w.heap.size s pos ty hit hp
      have hend := toks_end s pos ap (by omega)
      have HE : Hid (toks s pos ap = [⟨-1, s.size, ap⟩]) := hend
      clear hend hit
      go_wp2_with (at_builtin; refine wpList_append_own _ rfl _ _ 166 rfl (w.heap.size + 1) 176 i0 _ 3 24 Tryz.underlying166 Hi.out Hz.out Hz1.out Hz2.out rfl (by decide) _ _ _ rfl (hown.alloc _) ⟨wr.heap.size, 0, none⟩ 1 1 (Tok.cells ⟨-1, s.size, ap⟩) rfl rfl (tk_new wr ⟨-1, s.size, ap⟩) (tk_one _) (by unfold maxLen; omega) (by omega) (by simp; omega) ?_; intro v' w3 hown' hgrow3 hnil3)
      go_ret
      refine ⟨v', rfl, ?_, ?_⟩
      · have := HD.out
        rw [HE.out] at this
        rw [← this, ← tkCells_snoc]
        simpa using hown'
      · exact Below.grown (hbw.alloc (by omega) _) hgrow3 (by simp; omega) (fun j hj => by have := (hown.lt _ hj).1; omega)
end Go.Proofs.YtodabmkcihafhaaGreatDoor
