/- strings.IndexRune at a rune of several bytes, in a short text. -/
import Derived.Test.YtodabmkcihafhaaShelf2
import Derived.Test.YtodabmkcihafhaaPure
import Derived.Test.YtodabmkcihafhaaPos
import Derived.Test.YtodabmkcihafhaaRows
import Derived.WalkKit
import Derived.WalkSpells
import Derived.WalkLawsBesides
import Derived.WalkMore
import Derived.ScopeJumps
import Derived.Deep.LoopGhost
import Derived.Deep.QuietTactic
import Derived.BigQuiet
import Derived.Lib.IndexLaws
import Derived.Lib.IndexBytes
namespace Go.Proofs.Ytodabmkcihafhaa
open Go.RowKit
set_option linter.unusedVariables false

theorem wp_scope_fwd {P : Program} {a : Act} {w : World} {Q : Exit → Act → World → Prop} {c rest : Code} (l : Nat) (hf : findLabel c l = some rest)
    (first : c.wp P (Exit.jump l (fun a w => rest.wp P (Exit.noGoto Q) a w) Q) a w) : (Code.scope c).wp P Q a w :=
  wp_scope_jumps l (fun a w => rest.wp P (Exit.noGoto Q) a w) (fun _ _ => 0) hf first (fun a w h => wp_mono h (fun e a' w' hq => by
    cases e with
    | goto l' => exact hq.elim
    | normal => exact hq
    | exit id => exact hq
    | ret => exact hq
    | panic ch => exact hq
    | outgrown => exact hq))

def Occ (s t : ByteArray) : Prop := ∃ p, p + t.size ≤ s.size ∧ ∀ j, j < t.size → bt s (p + j) = bt t j

/-- No place of the text ahead of i has the bytes. -/
def NoOcc (s t : ByteArray) (m i : Nat) : Prop := ∀ p, p + m < i → p + t.size ≤ s.size → ¬ ∀ j, j < t.size → bt s (p + j) = bt t j
def Fails (s : ByteArray) (x i fails : Nat) : Prop := fails ≤ 2 ∧ (1 ≤ fails → ∃ a, a < i ∧ bt s a = x) ∧ (2 ≤ fails → ∃ a b, a < b ∧ b < i ∧ bt s a = x ∧ bt s b = x)
theorem Fails.next {s : ByteArray} {x i fails : Nat} (h : Fails s x i fails) (hi : bt s i = x) (his : i < s.size) (no3 : ∀ a b c, a < b → b < c → c < s.size → bt s a = x → bt s b = x → bt s c = x → False) : Fails s x (i + 1) (fails + 1) := by
  obtain ⟨h1, h2, h3⟩ := h
  refine ⟨?_, fun _ => ⟨i, by omega, hi⟩, fun hf => ?_⟩
  · apply Nat.le_of_not_lt
    intro hlt
    obtain ⟨a, b, q1, q2, q3, q4⟩ := h3 (by omega)
    exact no3 a b i q1 q2 his q3 q4 hi
  · obtain ⟨a, q1, q2⟩ := h2 (by omega)
    exact ⟨a, i, q1, by omega, q2, hi⟩
theorem Fails.mono {s : ByteArray} {x i i' fails : Nat} (h : Fails s x i fails) (hi : i ≤ i') : Fails s x i' fails := by
  obtain ⟨h1, h2, h3⟩ := h
  exact ⟨h1, fun hf => (by obtain ⟨a, q⟩ := h2 hf; exact ⟨a, by omega, q.2⟩), fun hf => (by obtain ⟨a, b, q1, q2, q3⟩ := h3 hf; exact ⟨a, b, q1, by omega, q3⟩)⟩

theorem NoOcc.miss {s t : ByteArray} {m i j : Nat} (h : NoOcc s t m i) (hm : t.size = m + 1) (hj : 1 ≤ j) (hj2 : j < m + 1) (hmi : m ≤ i) (hne : ¬ bt s (i - j) = bt t (m - j)) : NoOcc s t m (i + 1) := by
  intro p hp hps hall
  by_cases hlt : p + m < i
  · exact h p hlt hps hall
  · apply hne
    have := hall (m - j) (by omega)
    rw [show p + (m - j) = i - j by omega] at this
    exact this
theorem NoOcc.hit {s t : ByteArray} {m i : Nat} (hm : t.size = m + 1) (hmi : m ≤ i) (his : i < s.size) (hx : bt s i = bt t m) (hall : ∀ k, 1 ≤ k → k < m + 1 → bt s (i - k) = bt t (m - k)) : Occ s t := by
  refine ⟨i - m, by omega, ?_⟩
  intro j hj
  by_cases hjm : j = m
  · subst hjm; rw [show i - j + j = i by omega]; exact hx
  · have := hall (m - j) (by omega) (by omega)
    rw [show i - (m - j) = i - m + j by omega, show m - (m - j) = j by omega] at this
    exact this
theorem NoOcc.done {s t : ByteArray} {m i : Nat} (h : NoOcc s t m i) (hm : t.size = m + 1) (his : s.size ≤ i) : ¬ Occ s t := by
  rintro ⟨p, hp, hall⟩
  exact h p (by omega) hp hall
theorem ext_at (s : ByteArray) (i k : Nat) (h : i + k < s.size) : (s.extract i s.size).data.toList[k]? = some (UInt8.ofNat (bt s (i + k))) := by
  rw [extract_list, List.getElem?_take_of_lt (by omega), List.getElem?_drop]
  have hl : i + k < s.data.toList.length := by simpa using h
  rw [List.getElem?_eq_getElem hl]
  have g := get_bt s (i + k) h
  have g2 : s.data.toList[i + k] = s[i + k]'h := by simp; rfl
  rw [g2, g]
theorem u8_inj {a b : Nat} (ha : a < 256) (hb : b < 256) (h : UInt8.ofNat a = UInt8.ofNat b) : a = b := by
  have := congrArg UInt8.toNat h
  simp at this
  omega
theorem arg_u8 (x : Nat) : ((x : Int).toNat.toUInt8) = UInt8.ofNat x := by simp
/-- What IndexByte finds behind a place. -/
theorem byte_found (s t : ByteArray) (m i : Nat) (h : NoOcc s t m i) (hm : t.size = m + 1) (hx : ¬ bt s i = bt t m) (hi : i < s.size) :
    (Lib.indexByte (s.extract (i + 1) s.size).data.toList ((bt t m : Nat) : Int).toNat.toUInt8 = -1 ∧ ¬ Occ s t) ∨
    ∃ o : Nat, Lib.indexByte (s.extract (i + 1) s.size).data.toList ((bt t m : Nat) : Int).toNat.toUInt8 = o ∧ i + 1 + o < s.size ∧ bt s (i + 1 + o) = bt t m ∧ NoOcc s t m (i + 1 + o) := by
  rw [arg_u8]
  rcases Lib.indexByte_piece s (i + 1) s.size (UInt8.ofNat (bt t m)) with h1 | ⟨o, h1, h2⟩
  · left
    refine ⟨h1, ?_⟩
    rintro ⟨p, hp, hall⟩
    have hnone := Lib.indexByte_none h1
    by_cases hlt : p + m < i
    · exact h p hlt hp hall
    · have hpm := hall m (by omega)
      by_cases he : p + m = i
      · rw [he] at hpm; exact hx hpm
      · have := ext_at s (i + 1) (p + m - (i + 1)) (by omega)
        rw [show i + 1 + (p + m - (i + 1)) = p + m by omega, hpm] at this
        exact hnone _ this
  · right
    obtain ⟨s1, s2⟩ := Lib.indexByte_some h1
    refine ⟨o, h1, h2, ?_, ?_⟩
    · have := ext_at s (i + 1) o h2
      rw [s1] at this
      exact (u8_inj (bt_lt _ _) (bt_lt _ _) (Option.some.inj this)).symm
    · intro p hp hps hall
      by_cases hlt : p + m < i
      · exact h p hlt hps hall
      · have hpm := hall m (by omega)
        by_cases he : p + m = i
        · rw [he] at hpm; exact hx hpm
        · have := ext_at s (i + 1) (p + m - (i + 1)) (by omega)
          rw [show i + 1 + (p + m - (i + 1)) = p + m by omega, hpm] at this
          exact s2 (p + m - (i + 1)) (by omega) this

theorem slice_from (s : ByteArray) (i : Nat) (h : i ≤ s.size) (W : World) : (Instr.slice 9 (.string s) (some (.int .i64 ((i : Nat) : Int))) none none).run Try.prog W = .ok (.string (s.extract i s.size)) W := by
  rw [run_slice_string_from_if _ _ _ _ _ Try.underlying9]
  rw [if_pos (by omega)]
  simp

set_option maxHeartbeats 2000000 in
set_option maxRecDepth 1000000 in
theorem index_rune (s t : ByteArray) (r : Int) (w : World) (m : Nat) (hs : s.size ≤ 8) (ht : Utf8.encode r = t) (ht1 : 1 ≤ m) (ht2 : m ≤ 3) (hm : t.size = m + 1) (hr : 128 ≤ r) (hr2 : r ≠ 65533) (hv : Lib.validRune r = true)
    (no3 : ∀ a b c, a < b → b < c → c < s.size → bt s a = bt t m → bt s b = bt t m → bt s c = bt t m → False) :
    Calls Try.prog 44 #[.string s, .int .i32 r] w fun e w' => (∃ v : Int, e = .returned (.int .i64 v) ∧ (0 ≤ v ↔ Occ s t)) ∧ ∃ n, w' = w.drewN n := by
  have q1 : (0 : Int) ≤ r := by omega
  have q2 : decide (r < 128) = false := by simp; omega
  have q3 : (r == 65533) = false := by simp [hr2]
  have N3 : Hid (∀ a b c, a < b → b < c → c < s.size → bt s a = bt t m → bt s b = bt t m → bt s c = bt t m → False) := no3
  have HM : Hid (t.size = m + 1) := hm
  have gm := bt_get t m
  clear no3
  go_enter Try.func44, Try.ntmps44
  go_wp2_with fail
  refine (validRune_any r _).mono ?_
  rintro e w1 ⟨rfl, hw1⟩
  have hw1 := hw1.symm
  subst hw1
  rw [hv]
  clear hv
  go_wp2_with fail
  go_step3
  go_wp2_with fail
  go_loopg [9, 10] (22 - m) (fun g s9 s10 wr => ∃ i fails : Nat, s9 = .int .i64 i ∧ s10 = .int .i64 fails ∧ m ≤ i ∧ i ≤ 9 ∧ fails ≤ 2 ∧ NoOcc s t m i ∧ Fails s (bt t m) i fails ∧ g + i = 22 ∧ ∃ n, wr = w.drewN n)
  case atStart =>
    refine ⟨m, 0, rfl, rfl, Nat.le_refl _, by omega, by omega, fun p hp => by omega, ⟨by omega, fun h => by omega, fun h => by omega⟩, by omega, 0, rfl⟩
  case round =>
    obtain ⟨i, fails, rfl, rfl, hmi, hi9, hf2, hNo, hFa, hgi, n0, rfl⟩ := hrel
    by_cases hlt : i < s.size
    · have gi := bt_get s i
      go_wp2_with fail
      refine wp_scope_fwd 0 rfl ?_
      go_wp2_with fail
      by_cases hx : bt s i = bt t m
      · have bx : (((bt s i : Nat) : Int) != ((bt t m : Nat) : Int)) = false := by simp; omega
        go_quiet (fail)
        go_wp2_with fail
        rw [World.drewN_drewN]
        obtain ⟨n1, hn1⟩ : ∃ n1, n0 + nq = n1 := ⟨_, rfl⟩
        rw [hn1]
        obtain ⟨i2, hi2⟩ : ∃ i2, i2 = i := ⟨_, rfl⟩
        subst hi2
        have HX : Hid (bt s i2 = bt t m) := hx
        have hmi2 := hmi
        have hlt2 := hlt
        have hNo2 := hNo
        have hFai := hFa
        clear hn1 hx bx gi hNo hFa
        go_loopg [12] 4 (fun g2 s12 wr2 => ∃ j : Nat, s12 = .int .i64 j ∧ 1 ≤ j ∧ j ≤ m + 1 ∧ Hid (∀ k, 1 ≤ k → k < j → bt s (i2 - k) = bt t (m - k)) ∧ g2 + j = 5 ∧ ∃ n, wr2 = w.drewN n)
        case atStart => exact ⟨1, rfl, by omega, by omega, fun k h1 h2 => by omega, rfl, n1, rfl⟩
        case round =>
          obtain ⟨j, rfl, hj1, hj2, HJ, hg2, n2, rfl⟩ := hrel
          by_cases hjl : j < m + 1
          · have e1 : (i2 : Int) - (j : Int) = ((i2 - j : Nat) : Int) := by omega
            have e2 : (m : Int) - (j : Int) = ((m - j : Nat) : Int) := by omega
            have gij := bt_get s (i2 - j)
            have gmj := bt_get t (m - j)
            have lij : i2 - j < s.size := by omega
            have lmj : m - j < t.size := by omega
            go_wp2_with fail
            by_cases hne : bt s (i2 - j) = bt t (m - j)
            · have bj : (((bt s (i2 - j) : Nat) : Int) != ((bt t (m - j) : Nat) : Int)) = false := by simp; omega
              have HN : Hid (bt s (i2 - j) = bt t (m - j)) := hne
              clear hne
              go_quiet (fail)
              go_wp2_with fail
              go_roundg (4 - j)
              case measure => omega
              case rel =>
                refine ⟨j + 1, by go_num, by omega, by omega, ?_, by omega, _, rfl⟩
                intro k h1 h2
                by_cases hk : k = j
                · subst hk; exact HN.out
                · exact HJ.out k h1 (by omega)
            · have bj : (((bt s (i2 - j) : Nat) : Int) != ((bt t (m - j) : Nat) : Int)) = true := by simp; omega
              have hne2 : NoOcc s t m (i2 + 1) := hNo2.miss HM.out hj1 hjl hmi2 hne
              have hFa2 : Fails s (bt t m) (i2 + 1) (fails + 1) := hFai.next HX.out hlt2 N3.out
              have hff := hFa2.1
              clear hne hNo2 hFai
              go_quiet (fail)
              go_wp2_with fail
              go_step3
              simp only [Exit.inBlock, Exit.then]
              refine ⟨rfl, ?_⟩
              show Code.wp Try.prog _ _ _ _
              rw [World.drewN_drewN]
              go_wp2_with fail
              refine (cutover_any _ (by omega) (by omega) _).mono ?_
              rintro e w5 ⟨rfl, hw5⟩
              have hw5 := hw5.symm
              subst hw5
              have bc : decide (((i2 : Int) + 1 + 16) / 8 < (fails : Int) + 1) = false := by simp; omega
              go_wp2_with fail
              rw [Exit.noGoto_normal]
              simp only [Exit.inBlock, Exit.then]
              go_wp2_with fail
              go_roundg (21 - i2)
              case measure => omega
              case rel => exact ⟨i2 + 1, fails + 1, by go_num, by go_num, by omega, by omega, hff, hne2, hFa2, by omega, _, rfl⟩
          · go_wp2_with fail
            simp only [Exit.jump, Exit.inBlock, Exit.then, Exit.noGoto]
            go_ret
            obtain rfl : j = m + 1 := by omega
            have occ := NoOcc.hit HM.out hmi2 hlt2 HX.out HJ.out
            exact ⟨⟨(i2 : Int) - m, rfl, ⟨fun _ => occ, fun _ => by omega⟩⟩, n2, rfl⟩
      · have bx : (((bt s i : Nat) : Int) != ((bt t m : Nat) : Int)) = true := by simp; omega
        have bf := byte_found s t m i hNo HM.out hx hlt
        have li1 : i + 1 ≤ s.size := by omega
        have li0 : (0 : Int) ≤ (i : Int) + 1 := by omega
        have li2 : (i : Int) + 1 ≤ (s.size : Int) := by omega
        go_quiet (fail)
        go_wp2_with fail
        rw [World.drewN_drewN]
        obtain ⟨n1, hn1⟩ : ∃ n1, n0 + nq = n1 := ⟨_, rfl⟩
        rw [hn1]
        clear hn1
        obtain ⟨W, hW⟩ : ∃ W, w.drewN n1 = W := ⟨_, rfl⟩
        rw [hW]
        have HW : Hid (w.drewN n1 = W) := hW
        have hwr : IntKind.i64.wrap ((i : Int) + 1) = (i : Int) + 1 := wrap_small _ (by omega) (by omega)
        clear hW
        have BF : Hid ((Lib.indexByte (s.extract (i + 1) s.size).data.toList ((bt t m : Nat) : Int).toNat.toUInt8 = -1 ∧ ¬ Occ s t) ∨ ∃ o : Nat, Lib.indexByte (s.extract (i + 1) s.size).data.toList ((bt t m : Nat) : Int).toNat.toUInt8 = o ∧ i + 1 + o < s.size ∧ bt s (i + 1 + o) = bt t m ∧ NoOcc s t m (i + 1 + o)) := bf
        clear bf
        go_quiet ((go_at_call 47; exact Calls.quiet_of_same (indexByte_any _ _ _)))
        rw [← HW.out, World.drewN_drewN]
        obtain ⟨n3, hn3⟩ : ∃ n3, n1 + nq = n3 := ⟨_, rfl⟩
        rw [hn3]
        clear hn3 HW hwr
        rcases BF.out with ⟨b1, b2⟩ | ⟨o, b1, b2, b3, b4⟩
        · rw [b1]
          have B2 : Hid (¬ Occ s t) := b2
          clear b1 b2 BF
          go_wp2_with fail
          simp only [Exit.jump, Exit.inBlock, Exit.then, Exit.noGoto]
          go_ret
          exact ⟨⟨-1, rfl, ⟨fun h => by omega, fun h => absurd h B2.out⟩⟩, n3, rfl⟩
        · rw [b1]
          have o0 : (0 : Int) ≤ (o : Int) := by omega
          have ob : o ≤ 8 := by omega
          clear BF b1
          go_wp2_with fail
          obtain ⟨i2, hi2⟩ : ∃ i2, i + 1 + o = i2 := ⟨_, rfl⟩
          have e9 : (i : Int) + ((o : Int) + 1) = ((i2 : Nat) : Int) := by omega
          rw [e9]
          rw [hi2] at b2 b3 b4
          have HX : Hid (bt s i2 = bt t m) := b3
          have hmi2 : m ≤ i2 := by omega
          have hlt2 : i2 < s.size := b2
          have hNo2 := b4
          have hFai := hFa.mono (i' := i2) (by omega)
          have hii : i ≤ i2 := by omega
          clear e9 hi2 b2 b3 b4 bx gi hNo hFa hx li1 li0 li2
          go_loopg [12] 4 (fun g2 s12 wr2 => ∃ j : Nat, s12 = .int .i64 j ∧ 1 ≤ j ∧ j ≤ m + 1 ∧ Hid (∀ k, 1 ≤ k → k < j → bt s (i2 - k) = bt t (m - k)) ∧ g2 + j = 5 ∧ ∃ n, wr2 = w.drewN n)
          case atStart => exact ⟨1, rfl, by omega, by omega, fun k h1 h2 => by omega, rfl, n3, rfl⟩
          case round =>
            obtain ⟨j, rfl, hj1, hj2, HJ, hg2, n2, rfl⟩ := hrel
            by_cases hjl : j < m + 1
            · have e1 : (i2 : Int) - (j : Int) = ((i2 - j : Nat) : Int) := by omega
              have e2 : (m : Int) - (j : Int) = ((m - j : Nat) : Int) := by omega
              have gij := bt_get s (i2 - j)
              have gmj := bt_get t (m - j)
              have lij : i2 - j < s.size := by omega
              have lmj : m - j < t.size := by omega
              go_wp2_with fail
              by_cases hne : bt s (i2 - j) = bt t (m - j)
              · have bj : (((bt s (i2 - j) : Nat) : Int) != ((bt t (m - j) : Nat) : Int)) = false := by simp; omega
                have HN : Hid (bt s (i2 - j) = bt t (m - j)) := hne
                clear hne
                go_quiet (fail)
                go_wp2_with fail
                go_roundg (4 - j)
                case measure => omega
                case rel =>
                  refine ⟨j + 1, by go_num, by omega, by omega, ?_, by omega, _, rfl⟩
                  intro k h1 h2
                  by_cases hk : k = j
                  · subst hk; exact HN.out
                  · exact HJ.out k h1 (by omega)
              · have bj : (((bt s (i2 - j) : Nat) : Int) != ((bt t (m - j) : Nat) : Int)) = true := by simp; omega
                have hne2 : NoOcc s t m (i2 + 1) := hNo2.miss HM.out hj1 hjl hmi2 hne
                have hFa2 : Fails s (bt t m) (i2 + 1) (fails + 1) := hFai.next HX.out hlt2 N3.out
                have hff := hFa2.1
                clear hne hNo2 hFai
                go_quiet (fail)
                go_wp2_with fail
                go_step3
                simp only [Exit.inBlock, Exit.then]
                refine ⟨rfl, ?_⟩
                show Code.wp Try.prog _ _ _ _
                rw [World.drewN_drewN]
                go_wp2_with fail
                refine (cutover_any _ (by omega) (by omega) _).mono ?_
                rintro e w5 ⟨rfl, hw5⟩
                have hw5 := hw5.symm
                subst hw5
                have bc : decide (((i2 : Int) + 1 + 16) / 8 < (fails : Int) + 1) = false := by simp; omega
                go_wp2_with fail
                rw [Exit.noGoto_normal]
                simp only [Exit.inBlock, Exit.then]
                go_wp2_with fail
                go_roundg (21 - i2)
                case measure => omega
                case rel => exact ⟨i2 + 1, fails + 1, by go_num, by go_num, by omega, by omega, hff, hne2, hFa2, by omega, _, rfl⟩
            · go_wp2_with fail
              simp only [Exit.jump, Exit.inBlock, Exit.then, Exit.noGoto]
              go_ret
              obtain rfl : j = m + 1 := by omega
              have occ := NoOcc.hit HM.out hmi2 hlt2 HX.out HJ.out
              exact ⟨⟨(i2 : Int) - m, rfl, ⟨fun _ => occ, fun _ => by omega⟩⟩, n2, rfl⟩
    · go_wp2_with fail
      simp only [Exit.inBlock, Exit.noGoto]
      go_ret
      have nocc := hNo.done HM.out (by omega)
      exact ⟨⟨-1, rfl, ⟨fun h => by omega, fun h => absurd h nocc⟩⟩, n0, rfl⟩
end Go.Proofs.Ytodabmkcihafhaa
