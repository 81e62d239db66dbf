import Derived.OwnWalk
import Derived.MapKept
import Derived.Test.YtodabmkcihafhaaGreatDoorK13
import Derived.Test.YtodabmkcihafhaaGreatDoorK3
import Derived.Test.YtodabmkcihafhaaGreatDoorK5
import Derived.Test.YtodabmkcihafhaaGreatDoorK10
import Derived.Test.YtodabmkcihafhaaGreatDoorK11

/- The document's book: find, missing. -/
namespace Go.Proofs.YtodabmkcihafhaaGreatDoor
open Go.RowKit
set_option linter.unusedVariables false

/-- The names of a book in memory: block B holds their row. -/
def NmRow (B : Nat) (names : List (Int × Num)) (w : World) : Prop :=
  ∃ v, w.cell? ⟨B, 0, none⟩ = some v ∧ ((names = [] ∧ v = .slice none 0 0) ∨
    ∃ g cap, v = .slice (some ⟨g, 0, none⟩) names.length cap ∧ names.length ≤ cap ∧ cap ≤ maxLen ∧
      ∀ k c x, names[k]? = some (c, x) → w.cell? ⟨g, k * 5, none⟩ = some (.int .i64 c) ∧ w.cell? ⟨g, k * 5 + 1, none⟩ = some (.int .i64 x.re.n) ∧ w.cell? ⟨g, k * 5 + 2, none⟩ = some (.int .i64 x.re.d) ∧ w.cell? ⟨g, k * 5 + 3, none⟩ = some (.int .i64 x.im.n) ∧ w.cell? ⟨g, k * 5 + 4, none⟩ = some (.int .i64 x.im.d))
theorem NmRow.below {B : Nat} {names : List (Int × Num)} {w w' : World} (h : NmRow B names w) (g : Below w.heap.size w w') : NmRow B names w' := by
  have k : ∀ a v, w.cell? a = some v → w'.cell? a = some v := fun a v hc => by
    rw [g.cell (World.block_lt_of_cell? _ _ hc)]; exact hc
  obtain ⟨v, hv, hc⟩ := h
  refine ⟨v, k _ _ hv, ?_⟩
  rcases hc with hc | ⟨gg, cap, e, l1, l2, hc⟩
  · exact Or.inl hc
  · refine Or.inr ⟨gg, cap, e, l1, l2, fun i c x hi => ?_⟩
    obtain ⟨a0, a1, a2, a3, a4⟩ := hc i c x hi
    exact ⟨k _ _ a0, k _ _ a1, k _ _ a2, k _ _ a3, k _ _ a4⟩
def findF : List (Int × Num) → Int → Nat → Int
  | [], _, _ => -1
  | p :: r, c, i => if p.1 = c then i else findF r c (i + 1)
theorem findF_cons (p : Int × Num) (r : List (Int × Num)) (c : Int) (i : Nat) : findF (p :: r) c i = if p.1 = c then (i : Int) else findF r c (i + 1) := rfl
def envOf (names : List (Int × Num)) : Env := fun c => (names.find? (fun p => p.1 == c)).map (·.2)
theorem findF_neg : ∀ (names : List (Int × Num)) (c : Int) (i : Nat), (findF names c i < 0) ↔ (envOf names c).isNone = true := by
  intro names
  induction names with
  | nil => intro c i; simp [findF, envOf]
  | cons p r ih =>
    intro c i
    unfold findF envOf
    by_cases h : p.1 = c
    · rw [if_pos h]
      simp [h]
    · rw [if_neg h]
      have := ih c (i + 1)
      unfold envOf at this
      rw [this]
      simp [h]
theorem findF_some : ∀ (names : List (Int × Num)) (c : Int) (i : Nat) (x : Num), envOf names c = some x → ∃ k, findF names c i = ((i + k : Nat) : Int) ∧ names[k]? = some (c, x) := by
  intro names
  induction names with
  | nil => intro c i x h; simp [envOf] at h
  | cons p r ih =>
    intro c i x h
    by_cases hp : p.1 = c
    · refine ⟨0, by simp [findF, hp], ?_⟩
      unfold envOf at h
      simp [hp] at h
      obtain ⟨a, b⟩ := p
      simp at h hp ⊢
      exact ⟨hp, h⟩
    · have h' : envOf r c = some x := by
        unfold envOf at h ⊢
        simpa [List.find?_cons, hp] using h
      obtain ⟨k, h1, h2⟩ := ih c (i + 1) x h'
      refine ⟨k + 1, ?_, by simpa using h2⟩
      unfold findF
      rw [if_neg hp, h1]
      congr 1
      omega

set_option maxHeartbeats 1000000 in
theorem find_any (B : Nat) (names : List (Int × Num)) (c : Int) (w : World) (hl : names.length ≤ 1000) (h : NmRow B names w) :
    Calls Tryz.prog 62 #[.pointer (some ⟨B, 0, none⟩), .int .i64 c] w fun e w' => e = .returned (.int .i64 (findF names c 0)) ∧ w' = w := by
  obtain ⟨v, hv, hc⟩ := h
  rcases hc with ⟨rfl, rfl⟩ | ⟨g, cap, rfl, l1, l2, hc⟩
  · have HF : Hid (findF [] c 0 = -1) := rfl
    go_enter Tryz.func62, Tryz.ntmps62
    go_wp2_with fail
    go_loopg [5] 0 (fun g s5 wr => s5 = .int .i64 0 ∧ wr = w)
    case atStart => exact ⟨rfl, rfl⟩
    case round =>
      obtain ⟨rfl, rfl⟩ := hrel
      go_wp2_with fail
      go_ret
      exact ⟨rfl, rfl⟩
  · have HC := hidMk hc
    clear hc
    go_enter Tryz.func62, Tryz.ntmps62
    go_wp2_with fail
    go_loopg [5] names.length (fun g s5 wr => ∃ k : Nat, s5 = .int .i64 k ∧ k ≤ names.length ∧ Hid (findF (names.drop k) c k = findF names c 0) ∧ Hid (names.length - k = g) ∧ wr = w)
    case atStart => exact ⟨0, rfl, Nat.zero_le _, rfl, rfl, rfl⟩
    case round =>
      obtain ⟨k, rfl, hk, HI, hg, rfl⟩ := hrel
      by_cases hkn : k < names.length
      · obtain ⟨p, hp⟩ : ∃ p, names[k]? = some p := ⟨names[k], List.getElem?_eq_getElem hkn⟩
        obtain ⟨a, x⟩ := p
        obtain ⟨a0, a1, a2, a3, a4⟩ := HC.out k a x hp
        have hd : names.drop k = (a, x) :: names.drop (k + 1) := by
          rw [List.drop_eq_getElem_cons hkn]
          congr 1
          have := List.getElem?_eq_getElem hkn
          rw [hp] at this
          exact (Option.some.inj this).symm
        have q1 : (k : Int) < (names.length : Int) := by omega
        have hi := HI.out
        rw [hd, findF_cons] at hi
        by_cases hac : a = c
        · have q2 : (a == c) = true := by simpa using hac
          have HR : Hid (findF names c 0 = (k : Int)) := by
            show _ = _
            rw [← hi]
            simp [hac]
          clear hi hac hd
          go_wp2_with fail
          go_ret
          rw [HR.out]
          exact ⟨rfl, rfl⟩
        · have q2 : (a == c) = false := by simpa using hac
          have HR : Hid (findF (names.drop (k + 1)) c (k + 1) = findF names c 0) := by
            show _ = _
            rw [← hi]
            simp [hac]
          clear hi hac hd
          go_wp2_with fail
          go_roundg (names.length - (k + 1))
          case measure => have := hg.out; omega
          case rel => exact ⟨k + 1, rfl, by omega, HR.out, rfl, rfl⟩
      · have q1 : ¬ (k : Int) < (names.length : Int) := by omega
        have q2 : decide ((k : Int) < (names.length : Int)) = false := by simpa using q1
        have HR : Hid (findF names c 0 = -1) := by
          show _ = _
          rw [← HI.out, List.drop_eq_nil_of_le (by omega)]
          rfl
        go_wp2_with fail
        go_ret
        rw [HR.out]
        exact ⟨rfl, rfl⟩

/-! ### The first name that is missing -/
theorem missN_iff (names : List (Int × Num)) (n : Nd) : missN (envOf names) n = (decide (945 ≤ n.op) && decide (n.op ≤ 969) && decide (findF names n.op 0 < 0)) := by
  unfold missN isNm
  congr 1
  have := findF_neg names n.op 0
  by_cases h : findF names n.op 0 < 0
  · rw [this.1 h]; simp [h]
  · have h2 : ¬ (envOf names n.op).isNone = true := fun e => h (this.2 e)
    have h3 : (envOf names n.op).isNone = false := Bool.eq_false_iff.2 h2
    rw [h3]
    simp [h]
set_option maxHeartbeats 4000000 in
set_option maxRecDepth 100000 in
theorem missing_any (B : Nat) (names : List (Int × Num)) (L : List Nd) (g cap : Nat) (w : World) (hl : names.length ≤ 1000) (hL : L.length ≤ 1000) (h : NmRow B names w) (hN : NRow w g cap L) :
    Calls Tryz.prog 60 #[.pointer (some ⟨B, 0, none⟩), .slice (some ⟨g, 0, none⟩) L.length cap] w fun e w' => e = .returned (.int .i64 (missL (envOf names) L (-1))) ∧ w' = w := by
  obtain ⟨le1, le2⟩ := hN.le
  have HN := hidMk hN
  have CF := hidMk (fun c => find_any B names c w hl h)
  clear hN h
  go_enter Tryz.func60, Tryz.ntmps60
  go_wp2_with fail
  go_loopg [5, 6] L.length (fun gm s5 s6 wr => ∃ (k : Nat) (acc : Int), s5 = .int .i64 acc ∧ s6 = .int .i64 k ∧ k ≤ L.length ∧ Hid (missL (envOf names) (L.drop k) acc = missL (envOf names) L (-1)) ∧ Hid (L.length - k = gm) ∧ wr = w)
  case atStart => exact ⟨0, -1, rfl, rfl, Nat.zero_le _, rfl, rfl, rfl⟩
  case round =>
    obtain ⟨k, acc, rfl, rfl, hk, HI, hg, rfl⟩ := hrel
    by_cases hkn : k < L.length
    · obtain ⟨n, hn⟩ : ∃ n, L[k]? = some n := ⟨L[k], List.getElem?_eq_getElem hkn⟩
      have hd : L.drop k = n :: L.drop (k + 1) := by
        rw [List.drop_eq_getElem_cons hkn]
        congr 1
        have := List.getElem?_eq_getElem hkn
        rw [hn] at this
        exact (Option.some.inj this).symm
      have q1 : (k : Int) < (L.length : Int) := by omega
      obtain ⟨a0, a1, a2, a3, a4, a5, a6⟩ := HN.out.cells7 hn
      have HS : Hid (missL (envOf names) (L.drop (k + 1)) (missStep (envOf names) acc n) = missL (envOf names) L (-1)) := by
        have := HI.out
        rw [hd] at this
        exact this
      have HM : Hid (missStep (envOf names) acc n = if (decide (945 ≤ n.op) && decide (n.op ≤ 969) && decide (findF names n.op 0 < 0)) && (decide (acc < 0) || decide ((n.pl : Int) < acc)) then (n.pl : Int) else acc) := by
        show _ = _
        unfold missStep
        rw [missN_iff]
      clear hd a1 a2 a3 a4 a5 hn HI
      have stay : Hid (missStep (envOf names) acc n = acc → missL (envOf names) (L.drop (k + 1)) acc = missL (envOf names) L (-1)) := by
        intro e
        have := HS.out
        rw [e] at this
        exact this
      by_cases c1 : 945 ≤ n.op
      · have d1 : decide (945 ≤ n.op) = true := by simpa using c1
        by_cases c2 : n.op ≤ 969
        · have d2 : decide (n.op ≤ 969) = true := by simpa using c2
          go_wp2_with fail
          refine (CF.out n.op).mono ?_
          rintro e w' ⟨rfl, hw'⟩
          have hw' := hw'.symm
          subst hw'
          by_cases c3 : findF names n.op 0 < 0
          · have d3 : decide (findF names n.op 0 < 0) = true := by simpa using c3
            by_cases c4 : acc < 0
            · have d4 : decide (acc < 0) = true := by simpa using c4
              have e1 : Hid (missStep (envOf names) acc n = n.pl) := by show _ = _; rw [HM.out, d1, d2, d3, d4]; rfl
              clear HM stay
              go_wp2_with fail
              go_roundg (L.length - (k + 1))
              case measure => have := hg.out; omega
              case rel => exact ⟨k + 1, n.pl, rfl, rfl, by omega, e1.out ▸ HS.out, rfl, rfl⟩
            · have d4 : decide (acc < 0) = false := by simpa using c4
              by_cases c5 : (n.pl : Int) < acc
              · have d5 : decide ((n.pl : Int) < acc) = true := by simpa using c5
                have e1 : Hid (missStep (envOf names) acc n = n.pl) := by show _ = _; rw [HM.out, d1, d2, d3, d4, d5]; rfl
                clear HM stay
                go_wp2_with fail
                go_roundg (L.length - (k + 1))
                case measure => have := hg.out; omega
                case rel => exact ⟨k + 1, n.pl, rfl, rfl, by omega, e1.out ▸ HS.out, rfl, rfl⟩
              · have d5 : decide ((n.pl : Int) < acc) = false := by simpa using c5
                have e1 := hidMk (stay.out (by rw [HM.out, d1, d2, d3, d4, d5]; rfl))
                clear HM stay HS
                go_wp2_with fail
                go_roundg (L.length - (k + 1))
                case measure => have := hg.out; omega
                case rel => exact ⟨k + 1, acc, rfl, rfl, by omega, e1.out, rfl, rfl⟩
          · have d3 : decide (findF names n.op 0 < 0) = false := by simpa using c3
            have e1 := hidMk (stay.out (by rw [HM.out, d1, d2, d3]; rfl))
            clear HM stay HS
            go_wp2_with fail
            go_roundg (L.length - (k + 1))
            case measure => have := hg.out; omega
            case rel => exact ⟨k + 1, acc, rfl, rfl, by omega, e1.out, rfl, rfl⟩
        · have d2 : decide (n.op ≤ 969) = false := by simpa using c2
          have e1 := hidMk (stay.out (by rw [HM.out, d1, d2]; rfl))
          clear HM stay HS
          go_wp2_with fail
          go_roundg (L.length - (k + 1))
          case measure => have := hg.out; omega
          case rel => exact ⟨k + 1, acc, rfl, rfl, by omega, e1.out, rfl, rfl⟩
      · have d1 : decide (945 ≤ n.op) = false := by simpa using c1
        have e1 := hidMk (stay.out (by rw [HM.out, d1]; rfl))
        clear HM stay HS
        go_wp2_with fail
        go_roundg (L.length - (k + 1))
        case measure => have := hg.out; omega
        case rel => exact ⟨k + 1, acc, rfl, rfl, by omega, e1.out, rfl, rfl⟩
    · have q2 : decide ((k : Int) < (L.length : Int)) = false := by simp; omega
      have q1 : ¬ (k : Int) < (L.length : Int) := by omega
      have HR : Hid (missL (envOf names) L (-1) = acc) := by
        show _ = _
        rw [← HI.out, List.drop_eq_nil_of_le (by omega)]
        rfl
      clear HI
      go_wp2_with fail
      go_ret
      rw [HR.out]
      exact ⟨rfl, rfl⟩
end Go.Proofs.YtodabmkcihafhaaGreatDoor

/- The document's Number: P5. -/
namespace Go.Proofs.YtodabmkcihafhaaGreatDoor
open Go.RowKit
set_option linter.unusedVariables false

/-- The row of numbers, in block gv: those of the nodes so far. -/
def VRow (gv n : Nat) (vs : List Num) (w : World) : Prop :=
  ∃ cs, w.heap[gv]? = some (.cells cs 92 (0, 0)) ∧ cs.size = n * 4 ∧
    ∀ k x, vs[k]? = some x → cs[k * 4]? = some (.int .i64 x.re.n) ∧ cs[k * 4 + 1]? = some (.int .i64 x.re.d) ∧ cs[k * 4 + 2]? = some (.int .i64 x.im.n) ∧ cs[k * 4 + 3]? = some (.int .i64 x.im.d)
theorem VRow.cells {gv n : Nat} {vs : List Num} {w : World} (h : VRow gv n vs w) {k : Nat} {x : Num} (hk : vs[k]? = some x) : w.cell? ⟨gv, k * 4, none⟩ = some (.int .i64 x.re.n) ∧ w.cell? ⟨gv, k * 4 + 1, none⟩ = some (.int .i64 x.re.d) ∧ w.cell? ⟨gv, k * 4 + 2, none⟩ = some (.int .i64 x.im.n) ∧ w.cell? ⟨gv, k * 4 + 3, none⟩ = some (.int .i64 x.im.d) := by
  obtain ⟨cs, h1, h2, h3⟩ := h
  obtain ⟨a, b, c, d⟩ := h3 k x hk
  simp [World.cell?, h1, a, b, c, d]
theorem VRow.room {gv n : Nat} {vs : List Num} {w : World} (h : VRow gv n vs w) {k : Nat} (hk : k < n) : ∃ a b c d, w.cell? ⟨gv, k * 4, none⟩ = some a ∧ w.cell? ⟨gv, k * 4 + 1, none⟩ = some b ∧ w.cell? ⟨gv, k * 4 + 2, none⟩ = some c ∧ w.cell? ⟨gv, k * 4 + 3, none⟩ = some d ∧
    w.frozen? ⟨gv, k * 4, none⟩ = false ∧ w.frozen? ⟨gv, k * 4 + 1, none⟩ = false ∧ w.frozen? ⟨gv, k * 4 + 2, none⟩ = false ∧ w.frozen? ⟨gv, k * 4 + 3, none⟩ = false := by
  obtain ⟨cs, h1, h2, h3⟩ := h
  have l : ∀ j, j < 4 → k * 4 + j < cs.size := fun j hj => by omega
  refine ⟨cs[k * 4]'(by omega), cs[k * 4 + 1]'(l 1 (by decide)), cs[k * 4 + 2]'(l 2 (by decide)), cs[k * 4 + 3]'(l 3 (by decide)), ?_⟩
  have l0 : k * 4 < cs.size := by omega
  have l1 := l 1 (by decide)
  have l2 := l 2 (by decide)
  have l3 := l 3 (by decide)
  simp [World.cell?, World.frozen?, h1, l0, l1, l2, l3]
theorem VRow.block {gv n : Nat} {vs : List Num} {w w' : World} (h : VRow gv n vs w) (e : w'.heap[gv]? = w.heap[gv]?) : VRow gv n vs w' := by
  obtain ⟨cs, h1, r⟩ := h
  exact ⟨cs, by rw [e]; exact h1, r⟩
theorem VRow.lt {gv n : Nat} {vs : List Num} {w : World} (h : VRow gv n vs w) : gv < w.heap.size := by
  obtain ⟨cs, h1, _⟩ := h
  exact (Array.getElem?_eq_some_iff.1 h1).1
theorem VRow.below {gv n : Nat} {vs : List Num} {w w' : World} (h : VRow gv n vs w) (g : Below w.heap.size w w') : VRow gv n vs w' := h.block (g.block _ h.lt)
/-- A number written behind those that are there. -/
theorem VRow.put {gv n : Nat} {vs : List Num} {w : World} (h : VRow gv n vs w) (hn : vs.length < n) (x : Num) :
    VRow gv n (vs ++ [x]) ((((w.setCell ⟨gv, vs.length * 4, none⟩ (.int .i64 x.re.n)).setCell ⟨gv, vs.length * 4 + 1, none⟩ (.int .i64 x.re.d)).setCell ⟨gv, vs.length * 4 + 2, none⟩ (.int .i64 x.im.n)).setCell ⟨gv, vs.length * 4 + 3, none⟩ (.int .i64 x.im.d)) := by
  obtain ⟨cs, h1, h2, h3⟩ := h
  refine ⟨(((cs.setIfInBounds (vs.length * 4) (.int .i64 x.re.n)).setIfInBounds (vs.length * 4 + 1) (.int .i64 x.re.d)).setIfInBounds (vs.length * 4 + 2) (.int .i64 x.im.n)).setIfInBounds (vs.length * 4 + 3) (.int .i64 x.im.d), ?_, by simpa using h2, ?_⟩
  · simp [World.setCell, Array.getElem?_modify, h1]
  · intro k y hk
    rw [List.getElem?_append] at hk
    split at hk
    · rename_i hlt
      obtain ⟨a, b, c, d⟩ := h3 k y hk
      refine ⟨?_, ?_, ?_, ?_⟩ <;>
        (simp only [Array.getElem?_setIfInBounds]
         rw [if_neg (by omega), if_neg (by omega), if_neg (by omega), if_neg (by omega)]
         assumption)
    · rename_i hge
      have hk0 : k = vs.length := by
        rcases Nat.lt_or_ge (k - vs.length) 1 with h' | h'
        · omega
        · rw [List.getElem?_eq_none (by simpa using h')] at hk; cases hk
      subst hk0
      simp at hk
      subst hk
      have s0 : vs.length * 4 < cs.size := by omega
      have s1 : vs.length * 4 + 1 < cs.size := by omega
      have s2 : vs.length * 4 + 2 < cs.size := by omega
      have s3 : vs.length * 4 + 3 < cs.size := by omega
      simp [s0, s1, s2, s3]
/-- A number that is written over stays behind those that are there. -/
theorem VRow.over {gv n : Nat} {vs : List Num} {w : World} (h : VRow gv n vs w) (j : Nat) (hj : vs.length * 4 ≤ j) (v : Value) : VRow gv n vs (w.setCell ⟨gv, j, none⟩ v) := by
  obtain ⟨cs, h1, h2, h3⟩ := h
  refine ⟨cs.setIfInBounds j v, ?_, by simpa using h2, ?_⟩
  · simp [World.setCell, Array.getElem?_modify, h1]
  · intro k y hk
    have hlt : k < vs.length := (List.getElem?_eq_some_iff.1 hk).1
    obtain ⟨a, b, c, d⟩ := h3 k y hk
    refine ⟨?_, ?_, ?_, ?_⟩ <;>
      (rw [Array.getElem?_setIfInBounds, if_neg (by omega)]
       assumption)
theorem Tryz.infoRNum : (Tryz.prog.info? 92).map (fun i => (i.zero, i.size, i.bytes)) = some (some (.agg #[.int .i64 0, .int .i64 0, .int .i64 0, .int .i64 0]), 4, 32) := by kernel_rfl
theorem VRow.made {gv n base : Nat} {w : World} {xs : List Value} (h : w.ownsRow base 92 4 (.slice (some ⟨gv, 0, none⟩) n n) n xs) : VRow gv n [] w := by
  rcases h.2 with ⟨h2, _⟩ | ⟨g', cap', cur, hv, hg, hh, r1, r2, r3, r4⟩
  · cases h2
  · injection hv with e1 e2 e3
    injection e1 with e1
    injection e1 with e1
    subst e1 e3
    exact ⟨cur, hh, r3, fun k x hk => by simp at hk⟩
end Go.Proofs.YtodabmkcihafhaaGreatDoor

/- The document's Number: what a round of its loop holds. -/
namespace Go.Proofs.YtodabmkcihafhaaGreatDoor
open Go.RowKit
set_option linter.unusedVariables false

theorem subN_ok {x y : Num} (hx : x.Ok) (hy : y.Ok) : (subN x y).Ok := ⟨plF_ok hx.1 hy.1.neg, plF_ok hx.2 hy.2.neg⟩
theorem opP_ok {c : Int} {x y z : Num} (hx : x.Ok) (hy : y.Ok) (h : opP c x y = .ok z) : z.Ok := by
  have big : ∀ b (u : Num), u.Ok → bigOr b u = .ok z → z.Ok := by
    intro b u hu h
    unfold bigOr at h
    split at h
    · cases h
    · injection h with h; subst h; exact hu
  unfold opP at h
  split at h
  · exact big _ _ (addN_ok hx hy) h
  split at h
  · exact big _ _ (subN_ok hx hy) h
  split at h
  · exact big _ _ (mulN_ok hx hy) h
  split at h
  · split at h
    · cases h
    · rename_i hz
      have hz' : y.zero = false := by simpa using hz
      unfold bigOr at h
      split at h
      · cases h
      · rename_i hb
        injection h with h
        subst h
        have hb' : (sqB y || divB x y) = false := by simpa using hb
        rw [Bool.or_eq_false_iff] at hb'
        exact divN_ok hx hy hz' hb'.1
  split at h
  · exact big _ _ (mulN_ok hx hx) h
  split at h
  · injection h with h; subst h; exact hx.neg
  · injection h with h; subst h; exact hx.conj
theorem wk_any (c : Int) (x y : Num) (w : World) (hc : isUn c = true ∨ isBin c = true) (hx : x.Ok) (hy : y.Ok) :
    Calls Tryz.prog 63 #[.int .i64 c, .agg #[.int .i64 x.re.n, .int .i64 x.re.d, .int .i64 x.im.n, .int .i64 x.im.d], .agg #[.int .i64 y.re.n, .int .i64 y.re.d, .int .i64 y.im.n, .int .i64 y.im.d]] w fun e w' => e = .returned (wkV c x y) ∧ Below w.heap.size w w' := by
  have : c = 43 ∨ c = 8722 ∨ c = 215 ∨ c = 247 ∨ c = 178 ∨ c = 110 ∨ c = 8242 := by
    unfold isUn isBin at hc
    simp at hc
    omega
  rcases this with rfl | rfl | rfl | rfl | rfl | rfl | rfl
  · exact wk_plus x y w hx hy
  · exact wk_less x y w hx hy
  · exact wk_times x y w hx hy
  · exact wk_div x y w hx hy
  · exact wk_square x y w hx hy
  · exact wk_neg x y w hx hy
  · exact wk_prime x y w hx hy
theorem opP_err {c : Int} {x y : Num} {q : Int} (h : opP c x y = .err q) : q = 4 ∨ q = 5 := by
  have big : ∀ b (u : Num), bigOr b u = .err q → q = 4 ∨ q = 5 := by
    intro b u h
    unfold bigOr at h
    split at h
    · injection h with h; exact Or.inr h.symm
    · cases h
  unfold opP at h
  split at h
  · exact big _ _ h
  split at h
  · exact big _ _ h
  split at h
  · exact big _ _ h
  split at h
  · split at h
    · injection h with h; exact Or.inl h.symm
    · exact big _ _ h
  split at h
  · exact big _ _ h
  split at h
  · cases h
  · cases h
theorem wk_parts (c : Int) (x y : Num) : ∃ z q, wkV c x y = .tuple #[.agg #[.int .i64 z.re.n, .int .i64 z.re.d, .int .i64 z.im.n, .int .i64 z.im.d], .int .i64 q] ∧ (q = 0 → opP c x y = .ok z) ∧ (q ≠ 0 → opP c x y = .err q) := by
  unfold wkV
  cases h : opP c x y with
  | ok z => exact ⟨z, 0, rfl, fun _ => rfl, fun h => absurd rfl h⟩
  | err q =>
    refine ⟨x, q, rfl, fun h0 => ?_, fun _ => rfl⟩
    rcases opP_err h with h | h <;> omega
theorem miss_env (env : Env) : ∀ (L : List Nd) (acc : Int), missL env L acc < 0 → acc < 0 ∧ ∀ n ∈ L, isNm n.op = true → ∃ x, env n.op = some x := by
  intro L
  induction L with
  | nil => intro acc h; exact ⟨h, fun n hn => by cases hn⟩
  | cons m r ih =>
    intro acc h
    have h' : missL env r (missStep env acc m) < 0 := h
    obtain ⟨h1, h2⟩ := ih _ h'
    have hm : missN env m = false := by
      cases hb : missN env m with
      | false => rfl
      | true =>
        exfalso
        unfold missStep at h1
        rw [hb] at h1
        simp only [Bool.true_and] at h1
        split at h1
        · omega
        · rename_i hn
          simp at hn
          omega
    rw [missStep_no hm] at h1
    refine ⟨h1, fun n hn hnm => ?_⟩
    rcases List.mem_cons.1 hn with rfl | hn
    · unfold missN at hm
      rw [hnm, Bool.true_and] at hm
      cases he : env n.op with
      | none => rw [he] at hm; cases hm
      | some x => exact ⟨x, rfl⟩
    · exact h2 n hn hnm
theorem env_mem {names : List (Int × Num)} {c : Int} {x : Num} (h : envOf names c = some x) : ∃ p ∈ names, p.2 = x := by
  unfold envOf at h
  cases hf : names.find? (fun p => p.1 == c) with
  | none => rw [hf] at h; cases h
  | some p =>
    rw [hf] at h
    exact ⟨p, List.mem_of_find?_eq_some hf, by simpa using h⟩

theorem seven_cells {w : World} {B : Nat} {a b c d e f g : Value} {t : TypeId} (h : w.heap[B]? = some (.cells #[a, b, c, d, e, f, g] t (0, 0))) : w.cell? ⟨B, 0, none⟩ = some a ∧ w.cell? ⟨B, 1, none⟩ = some b ∧ w.cell? ⟨B, 2, none⟩ = some c ∧ w.cell? ⟨B, 3, none⟩ = some d ∧ w.cell? ⟨B, 4, none⟩ = some e ∧ w.cell? ⟨B, 5, none⟩ = some f ∧ w.cell? ⟨B, 6, none⟩ = some g := by
  simp [World.cell?, h]
/-- A round, behind the node's copy: the row of numbers (block v.heap.size), the copy (block nb). -/
structure Rnd (v : World) (N : Nat) (vs : List Num) (nb : Nat) (n : Nd) (w : World) : Prop where
  hv : VRow v.heap.size N vs w
  hn : w.heap[nb]? = some (.cells #[.int .i64 n.op, .int .i64 n.a, .int .i64 n.b, .int .i64 n.num, .int .i64 n.den, .string n.text, .int .i64 n.pl] 137 (0, 0))
  hb : Below v.heap.size v w
  hl : v.heap.size < nb
theorem Rnd.below {v w w' : World} {N nb : Nat} {vs : List Num} {n : Nd} (h : Rnd v N vs nb n w) (g : Below w.heap.size w w') : Rnd v N vs nb n w' :=
  ⟨h.hv.below g, (g.block _ (Array.getElem?_eq_some_iff.1 h.hn).1).trans h.hn, h.hb.trans (g.mono h.hb.size), h.hl⟩
theorem Rnd.drew {v w : World} {N nb : Nat} {vs : List Num} {n : Nd} (h : Rnd v N vs nb n w) : Rnd v N vs nb n w.drew := ⟨h.hv, h.hn, h.hb.drew, h.hl⟩
theorem set4_size (w : World) (p q r s : Addr) (a b c d : Value) : ((((w.setCell p a).setCell q b).setCell r c).setCell s d).heap.size = w.heap.size := by
  simp [World.setCell]
theorem set4_other (w : World) (B i : Nat) (p q r s : Nat) (a b c d : Value) (h : i ≠ B) : ((((w.setCell ⟨B, p, none⟩ a).setCell ⟨B, q, none⟩ b).setCell ⟨B, r, none⟩ c).setCell ⟨B, s, none⟩ d).heap[i]? = w.heap[i]? := by
  rw [Below.heap_setCell _ _ _ _ h, Below.heap_setCell _ _ _ _ h, Below.heap_setCell _ _ _ _ h, Below.heap_setCell _ _ _ _ h]
theorem below_row {v w : World} (hb : Below v.heap.size v w) (B p q r s : Nat) (hB : v.heap.size ≤ B) (a b c d : Value) : Below v.heap.size v ((((w.setCell ⟨B, p, none⟩ a).setCell ⟨B, q, none⟩ b).setCell ⟨B, r, none⟩ c).setCell ⟨B, s, none⟩ d) :=
  (((hb.setCell (p := ⟨B, p, none⟩) hB _).setCell (p := ⟨B, q, none⟩) hB _).setCell (p := ⟨B, r, none⟩) hB _).setCell (p := ⟨B, s, none⟩) hB _
theorem VRow.over4 {gv n k : Nat} {vs : List Num} {w : World} (hk : vs.length = k) (hv : VRow gv n vs w) (a b c d : Value) : VRow gv n vs ((((w.setCell ⟨gv, k * 4, none⟩ a).setCell ⟨gv, k * 4 + 1, none⟩ b).setCell ⟨gv, k * 4 + 2, none⟩ c).setCell ⟨gv, k * 4 + 3, none⟩ d) :=
  (((hv.over _ (by omega) _).over _ (by omega) _).over _ (by omega) _).over _ (by omega) _
theorem Rnd.new {v wr : World} {N k : Nat} {vs : List Num} (hk : vs.length = k) (hv : VRow v.heap.size N vs wr) (hb : Below v.heap.size v wr) (n : Nd) (a b c d : Value) :
    Rnd v N vs wr.heap.size n (((((wr.setCell ⟨v.heap.size, k * 4, none⟩ a).setCell ⟨v.heap.size, k * 4 + 1, none⟩ b).setCell ⟨v.heap.size, k * 4 + 2, none⟩ c).setCell ⟨v.heap.size, k * 4 + 3, none⟩ d).alloc (.cells #[.int .i64 n.op, .int .i64 n.a, .int .i64 n.b, .int .i64 n.num, .int .i64 n.den, .string n.text, .int .i64 n.pl] 137)) := by
  have hv4 := VRow.over4 hk hv a b c d
  have hb4 := below_row hb v.heap.size (k * 4) (k * 4 + 1) (k * 4 + 2) (k * 4 + 3) (Nat.le_refl _) a b c d
  have hz := set4_size wr ⟨v.heap.size, k * 4, none⟩ ⟨v.heap.size, k * 4 + 1, none⟩ ⟨v.heap.size, k * 4 + 2, none⟩ ⟨v.heap.size, k * 4 + 3, none⟩ a b c d
  have hlt := hv.lt
  generalize ((((wr.setCell ⟨v.heap.size, k * 4, none⟩ a).setCell ⟨v.heap.size, k * 4 + 1, none⟩ b).setCell ⟨v.heap.size, k * 4 + 2, none⟩ c).setCell ⟨v.heap.size, k * 4 + 3, none⟩ d) = W at *
  rw [← hz] at hlt ⊢
  exact ⟨hv4.below (fr_below _ _), heap_alloc_new W _, hb4.alloc (Nat.le_of_lt hlt) _, hlt⟩
theorem Rnd.set4 {v w : World} {N nb k : Nat} {vs : List Num} {n : Nd} (hk : vs.length = k) (h : Rnd v N vs nb n w) (a b c d : Value) : Rnd v N vs nb n ((((w.setCell ⟨v.heap.size, k * 4, none⟩ a).setCell ⟨v.heap.size, k * 4 + 1, none⟩ b).setCell ⟨v.heap.size, k * 4 + 2, none⟩ c).setCell ⟨v.heap.size, k * 4 + 3, none⟩ d) :=
  ⟨VRow.over4 hk h.hv a b c d, by rw [set4_other _ _ _ _ _ _ _ _ _ _ _ (by have := h.hl; omega)]; exact h.hn, below_row h.hb _ _ _ _ _ (Nat.le_refl _) _ _ _ _, h.hl⟩
theorem Rnd.set4B {v w : World} {N nb B : Nat} {vs : List Num} {n : Nd} (h : Rnd v N vs nb n w) (hB : nb < B) (p q r s : Nat) (a b c d : Value) : Rnd v N vs nb n ((((w.setCell ⟨B, p, none⟩ a).setCell ⟨B, q, none⟩ b).setCell ⟨B, r, none⟩ c).setCell ⟨B, s, none⟩ d) :=
  ⟨h.hv.block (by rw [set4_other _ _ _ _ _ _ _ _ _ _ _ (by have := h.hl; omega)]), by rw [set4_other _ _ _ _ _ _ _ _ _ _ _ (by omega)]; exact h.hn, below_row h.hb _ _ _ _ _ (by have := h.hl; omega) _ _ _ _, h.hl⟩
/-- What holds ahead of the next round, where x is written. -/
def Nxt (v : World) (L : List Nd) (RR : Run) (names : List (Int × Num)) (k : Nat) (w : World) : Prop :=
  ∃ vs' : List Num, Value.int .i64 (k + 1 : Int) = .int .i64 (vs'.length : Nat) ∧ vs'.length ≤ L.length ∧ Hid (∀ x ∈ vs', x.Ok) ∧ Hid (runL (envOf names) vs' (L.drop vs'.length) = RR) ∧
    VRow v.heap.size L.length vs' w ∧ Below v.heap.size v w ∧ Hid (L.length - vs'.length = L.length - (k + 1))
theorem Nxt.at {v w : World} {L : List Nd} {RR : Run} {names : List (Int × Num)} {vs : List Num} {k : Nat} {x : Num} (hk : vs.length = k) (hkn : k < L.length) (HO : ∀ x ∈ vs, x.Ok) (HR : runL (envOf names) (vs ++ [x]) (L.drop (k + 1)) = RR) (hx : x.Ok) (hv : VRow v.heap.size L.length (vs ++ [x]) w) (hb : Below v.heap.size v w) : Nxt v L RR names k w := by
  subst hk
  refine ⟨vs ++ [x], by simp, by simp; omega, ?_, by show _ = _; simpa using HR, hv, hb, by show _ = _; simp⟩
  intro y hy
  rcases List.mem_append.1 hy with hy | hy
  · exact HO y hy
  · simp at hy; subst hy; exact hx
theorem Nxt.new {v w : World} {L : List Nd} {RR : Run} {names : List (Int × Num)} {vs : List Num} {k : Nat} {x : Num} (hk : vs.length = k) (hkn : k < L.length) (HO : ∀ x ∈ vs, x.Ok) (HR : runL (envOf names) (vs ++ [x]) (L.drop (k + 1)) = RR) (hx : x.Ok) (hv : VRow v.heap.size L.length vs w) (hb : Below v.heap.size v w) : Nxt v L RR names k ((((w.setCell ⟨v.heap.size, k * 4, none⟩ (.int .i64 x.re.n)).setCell ⟨v.heap.size, k * 4 + 1, none⟩ (.int .i64 x.re.d)).setCell ⟨v.heap.size, k * 4 + 2, none⟩ (.int .i64 x.im.n)).setCell ⟨v.heap.size, k * 4 + 3, none⟩ (.int .i64 x.im.d)) := by
  subst hk
  exact Nxt.at rfl hkn HO HR hx (hv.put hkn x) (below_row hb _ _ _ _ _ (Nat.le_refl _) _ _ _ _)
end Go.Proofs.YtodabmkcihafhaaGreatDoor

/- The program's page: its names; trees as the program has them. -/
namespace Go.Proofs.YtodabmkcihafhaaGreatDoor
open Go.RowKit
set_option linter.unusedVariables false

/-- A tree, as the program has it. -/
def exV : Ex → Value
  | .num l _ => .iface 178 (.agg #[.string (encAll l)])
  | .leaf c p => if c = 105 then .iface 183 (.agg #[]) else .iface 185 (.agg #[.int .i32 c, .int .i64 p])
  | .un c p e => if c = 110 then .iface 191 (.agg #[exV e]) else .iface 187 (.agg #[exV e, .int .i32 c, .int .i64 p])
  | .bin c p l r => if c = 43 ∨ c = 8722 then .iface 194 (.agg #[exV l, .int .i32 c, .int .i64 p, exV r]) else .iface 193 (.agg #[exV l, .int .i32 c, .int .i64 p, exV r])

/-! ### What is answered -/
def ansN (a : Ans) : Num := match a with | .ok x => x | .err _ _ => ⟨⟨0, 0⟩, ⟨0, 0⟩⟩
def ansE (a : Ans) : Int := match a with | .ok _ => 0 | .err q _ => q
def ansP (a : Ans) : Int := match a with | .ok _ => 0 | .err _ p => p
def ansV (a : Ans) : Value := .tuple #[.agg #[.int .i64 (ansN a).re.n, .int .i64 (ansN a).re.d, .int .i64 (ansN a).im.n, .int .i64 (ansN a).im.d], .int .i64 (ansE a), .int .i64 (ansP a)]
theorem gotV_at (g : Got) (p : Nat) : gotV g p = ansV (g.at p) := by cases g <;> rfl
theorem leaf_ok {env : Env} (he : ∀ c x, env c = some x → x.Ok) (c : Int) : (leafN env c).Ok := by
  unfold leafN
  split
  · exact ⟨fr_zero_ok, fr_one_ok⟩
  · cases h : env c with
    | none => exact ⟨fr_zero_ok, fr_zero_ok⟩
    | some x => exact he c x h
theorem nume_ok {l : List Int} (h : NumeOk l) : (numeN l).Ok := by
  obtain ⟨b1, b2, b3, b4⟩ := nume_bound l h
  have h1 := low_abs (n := (numVal l).1) (show 0 < (numVal l).2 by omega)
  have h2 := low_d_pos (n := (numVal l).1) (show 0 < (numVal l).2 by omega)
  have hk : (lowP (numVal l).1 (numVal l).2).Ok := ⟨h2, by omega, by omega, by omega, low_gcd (by omega)⟩
  exact ⟨hk, fr_zero_ok⟩
theorem ev_ok {env : Env} (he : ∀ c x, env c = some x → x.Ok) : ∀ (e : Ex), ExOk e → (∀ x, evT env e = .ok x → x.Ok) ∧ (∀ q p, evT env e = .err q p → q = 4 ∨ q = 5) := by
  have at_ok : ∀ (g : Got) (p : Nat) (x : Num), g.at p = .ok x → g = .ok x := by
    intro g p x h
    cases g with
    | ok y => injection h with h; rw [h]
    | err q => cases h
  have at_err : ∀ (g : Got) (p : Nat) (q : Int) (r : Nat), g.at p = .err q r → g = .err q := by
    intro g p q r h
    cases g with
    | ok y => cases h
    | err q' => injection h with h; rw [h]
  intro e
  induction e with
  | num l p =>
    intro h
    exact ⟨fun x hx => (by injection hx with hx; subst hx; exact nume_ok h), fun q p h => by cases h⟩
  | leaf c p =>
    intro h
    exact ⟨fun x hx => (by injection hx with hx; subst hx; exact leaf_ok he c), fun q p h => by cases h⟩
  | un c p e ih =>
    intro h
    have i := ih h.2
    simp only [evT]
    cases hv : evT env e with
    | err q r => exact ⟨fun x hx => (by cases hx), fun q' p' h' => by injection h' with h1 h2; subst h1; exact i.2 _ _ hv⟩
    | ok x => exact ⟨fun y hy => opP_ok (i.1 x hv) (i.1 x hv) (at_ok _ _ _ hy), fun q' p' h' => opP_err (at_err _ _ _ _ h')⟩
  | bin c p l r ihl ihr =>
    intro h
    have il := ihl h.2.1
    have ir := ihr h.2.2
    simp only [evT]
    cases hl : evT env l with
    | err q s => exact ⟨fun x hx => (by cases hx), fun q' p' h' => by injection h' with h1 h2; subst h1; exact il.2 _ _ hl⟩
    | ok x =>
      cases hr : evT env r with
      | err q s => exact ⟨fun x hx => (by cases hx), fun q' p' h' => by injection h' with h1 h2; subst h1; exact ir.2 _ _ hr⟩
      | ok y => exact ⟨fun z hz => opP_ok (il.1 x hl) (ir.1 y hr) (at_ok _ _ _ hz), fun q' p' h' => opP_err (at_err _ _ _ _ h')⟩

/-! ### The names, as a map -/
def nmE (names : List (Int × Num)) (es : Array MapEntry) : Prop := es.toList.map (fun e => (e.key, e.val)) = names.map (fun p => (Value.int .i32 p.1, nV p.2))
theorem find_names (c : Int) : ∀ (l : List MapEntry) (names : List (Int × Num)) (i : Nat), l.map (fun e => (e.key, e.val)) = names.map (fun p => (Value.int .i32 p.1, nV p.2)) →
    ∃ j, Instr.findNow (.int .i32) (.int .i32 c) l i = some ((envOf names c).map fun x => (j, nV x)) := by
  intro l
  induction l with
  | nil =>
    intro names i h
    cases names with
    | nil => exact ⟨0, rfl⟩
    | cons p r => simp at h
  | cons e r ih =>
    intro names i h
    cases names with
    | nil => simp at h
    | cons p q =>
      simp only [List.map_cons, List.cons.injEq, Prod.mk.injEq] at h
      obtain ⟨⟨h1, h2⟩, h3⟩ := h
      unfold Instr.findNow
      rw [h1, h2]
      by_cases hc : p.1 = c
      · refine ⟨i, ?_⟩
        have e1 : Instr.sameNow (.int .i32) (.int .i32 c) (.int .i32 p.1) = some true := by simp [Instr.sameNow, hc]
        rw [e1]
        unfold envOf
        simp [hc]
      · obtain ⟨j, hj⟩ := ih q (i + 1) h3
        refine ⟨j, ?_⟩
        have e1 : Instr.sameNow (.int .i32) (.int .i32 c) (.int .i32 p.1) = some false := by simp [Instr.sameNow, Ne.symm hc]
        rw [e1]
        show Instr.findNow _ _ r (i + 1) = _
        rw [hj]
        unfold envOf
        simp [hc]
/-- What the page's names say of a letter. -/
def envV (names : List (Int × Num)) (c : Int) : Value := match envOf names c with | some x => nV x | none => numV0
theorem run_names {w : World} {b clock : Nat} {es : Array MapEntry} {names : List (Int × Num)} (hb : w.heap[b]? = some (.map es clock)) (hE : nmE names es) (c : Int) (ok : Bool) :
    (Instr.lookup 64 (.map (some b)) (.int .i32 c) ok).run Tryz.prog w = .ok (if ok then .tuple #[envV names c, .bool (envOf names c).isSome] else envV names c) w := by
  obtain ⟨j, hj⟩ := find_names c es.toList names 0 hE
  have hc := MapKept.run_checkKey (P := Tryz.prog) (w := w) (k := .int .i32 c) Tryz.underlying21 (by simp [MapKept.IsKey]) es.isEmpty 9999
  have hf := MapKept.run_findKey (P := Tryz.prog) (w := w) Tryz.underlying21 hj
  unfold envV
  cases he : envOf names c with
  | none =>
    rw [he] at hf
    cases ok <;> simp [Instr.lookup, run_underlying Tryz.underlying64, MapKept.run_getObj_map hb, hc, hf, Result.andThen] <;> rfl
  | some x =>
    rw [he] at hf
    cases ok <;> simp [Instr.lookup, run_underlying Tryz.underlying64, MapKept.run_getObj_map hb, hc, hf, Result.andThen]
/-- A page (block P): its names' map (block m). -/
structure Pg (N : Nat) (aZ aB : Addr) (P m : Nat) (names : List (Int × Num)) (w : World) : Prop where
  hS : Sen N aZ aB w
  hN : N ≤ w.heap.size
  hp : w.cell? ⟨P, 0, none⟩ = some (.map (some m))
  hm : ∃ es clock, w.heap[m]? = some (.map es clock) ∧ nmE names es
theorem Pg.below {N : Nat} {aZ aB : Addr} {P m : Nat} {names : List (Int × Num)} {w w' : World} (h : Pg N aZ aB P m names w) (g : Below w.heap.size w w') : Pg N aZ aB P m names w' := by
  obtain ⟨es, clock, h1, h2⟩ := h.hm
  exact ⟨h.hS.below g h.hN, Nat.le_trans h.hN g.size, by rw [g.cell (World.block_lt_of_cell? _ _ h.hp)]; exact h.hp, es, clock, (g.block _ (Array.getElem?_eq_some_iff.1 h1).1).trans h1, h2⟩
theorem Pg.look {N : Nat} {aZ aB : Addr} {P m : Nat} {names : List (Int × Num)} {w : World} (h : Pg N aZ aB P m names w) (c : Int) (ok : Bool) :
    (Instr.lookup 64 (.map (some m)) (.int .i32 c) ok).run Tryz.prog w = .ok (if ok then .tuple #[envV names c, .bool (envOf names c).isSome] else envV names c) w := by
  obtain ⟨es, clock, h1, h2⟩ := h.hm
  exact run_names h1 h2 c ok
end Go.Proofs.YtodabmkcihafhaaGreatDoor

/- The program's workTwo, workMarked. -/
namespace Go.Proofs.YtodabmkcihafhaaGreatDoor
open Go.RowKit
set_option linter.unusedVariables false

/-- What is promised of a part's work. -/
def WP (N : Nat) (aZ aB : Addr) (P m : Nat) (names : List (Int × Num)) (e : Ex) : Prop := ∀ w, Pg N aZ aB P m names w →
  Calls Tryz.prog 83 #[.pointer (some ⟨P, 0, none⟩), exV e] w fun x w' => x = .returned (ansV (evT (envOf names) e)) ∧ Below w.heap.size w w'
/-- Blocks that a call lays: a result (block w0.heap.size + 1), a copy ahead of it. -/
structure Res2 (w0 : World) (o : Obj) (w : World) : Prop where
  ho : w.heap[w0.heap.size]? = some o
  hz : w.heap[w0.heap.size + 1]? = some (.cells #[.int .i64 0, .int .i64 0, .int .i64 0, .int .i64 0] 82 (0, 0))
  hb : Below w0.heap.size w0 w
theorem Res2.below {w0 w w' : World} {o : Obj} (h : Res2 w0 o w) (g : Below w.heap.size w w') : Res2 w0 o w' :=
  ⟨(g.block _ (Array.getElem?_eq_some_iff.1 h.ho).1).trans h.ho, (g.block _ (Array.getElem?_eq_some_iff.1 h.hz).1).trans h.hz, h.hb.trans (g.mono h.hb.size)⟩
theorem Res2.new (w : World) (o : Obj) : Res2 w o ((w.alloc o).alloc (.cells #[.int .i64 0, .int .i64 0, .int .i64 0, .int .i64 0] 82)) := by
  refine ⟨?_, ?_, ((Below.refl _ w).alloc (Nat.le_refl _) _).alloc (by simp) _⟩
  · rw [Below.heap_alloc _ _ _ (by simp)]
    exact heap_alloc_new w _
  · have := heap_alloc_new (w.alloc o) (.cells #[.int .i64 0, .int .i64 0, .int .i64 0, .int .i64 0] 82)
    simpa using this

set_option maxHeartbeats 4000000 in
set_option maxRecDepth 100000 in
theorem workTwo_of (N : Nat) (aZ aB : Addr) (P m : Nat) (names : List (Int × Num)) (l r : Ex) (c : Int) (p : Nat) (hn : ∀ q ∈ names, q.2.Ok) (hl : ExOk l) (hr : ExOk r) (hc : c = 43 ∨ c = 8722 ∨ c = 215 ∨ c = 247)
    (il : WP N aZ aB P m names l) (ir : WP N aZ aB P m names r) (w : World) (hP : Pg N aZ aB P m names w) :
    Calls Tryz.prog 126 #[.pointer (some ⟨P, 0, none⟩), exV l, .agg #[.int .i32 c, .int .i64 p], exV r] w fun x w' => x = .returned (ansV (evT (envOf names) (.bin c p l r))) ∧ Below w.heap.size w w' := by
  have hen : ∀ c x, envOf names c = some x → x.Ok := fun c x h => by
    obtain ⟨q, hq, rfl⟩ := env_mem h
    exact hn q hq
  obtain ⟨ol, el⟩ := ev_ok hen l hl
  obtain ⟨or_, er⟩ := ev_ok hen r hr
  have h0 := Res2.new w (.cells #[.int .i32 c, .int .i64 p] 174)
  have HV : Hid (ansV (evT (envOf names) (.bin c p l r)) = match evT (envOf names) l with | .err q s => ansV (.err q s) | .ok x => match evT (envOf names) r with | .err q s => ansV (.err q s) | .ok y => ansV ((opP c x y).at p)) := by
    show _ = _
    simp only [evT]
    cases evT (envOf names) l with
    | err q s => rfl
    | ok x => cases evT (envOf names) r <;> rfl
  have CL : Hid (∀ W, Below w.heap.size w W → Calls Tryz.prog 83 #[.pointer (some ⟨P, 0, none⟩), exV l] W fun x w' => x = .returned (ansV (evT (envOf names) l)) ∧ Below W.heap.size W w') := fun W hb => il W (hP.below hb)
  have CR : Hid (∀ W, Below w.heap.size w W → Calls Tryz.prog 83 #[.pointer (some ⟨P, 0, none⟩), exV r] W fun x w' => x = .returned (ansV (evT (envOf names) r)) ∧ Below W.heap.size W w') := fun W hb => ir W (hP.below hb)
  have CO : Hid (∀ x y W, x.Ok → y.Ok → Below w.heap.size w W → Calls Tryz.prog 149 #[.agg #[.int .i64 x.re.n, .int .i64 x.re.d, .int .i64 x.im.n, .int .i64 x.im.d], .int .i32 c, .agg #[.int .i64 y.re.n, .int .i64 y.re.d, .int .i64 y.im.n, .int .i64 y.im.d], .int .i64 p] W fun e w' => e = .returned (ansV ((opP c x y).at p)) ∧ Below W.heap.size W w') := fun x y W hx hy hb => by
    have := operate_any N aZ aB c x y p W hc (hP.below hb).hS (hP.below hb).hN hx hy
    rw [gotV_at] at this
    exact this
  have OL := hidMk ol
  have EL := hidMk el
  have OR := hidMk or_
  have ER := hidMk er
  generalize ansV (evT (envOf names) (.bin c p l r)) = V at *
  generalize evT (envOf names) l = al at *
  generalize evT (envOf names) r = ar at *
  generalize exV l = vl at *
  generalize exV r = vr at *
  clear hl hr hc il ir hen ol el or_ er hP hn
  go_enter Tryz.func126, Tryz.ntmps126
  go_wp2_with fail
  generalize (w.alloc _).alloc _ = W at *
  refine (CL.out _ h0.hb).mono ?_
  rintro e w1 ⟨rfl, hb1⟩
  have h1 := h0.below hb1
  clear h0 hb1 CL
  unfold ansV
  have HA1 : Hid (∃ x q s, ansN al = x ∧ ansE al = q ∧ ansP al = s) := ⟨_, _, _, rfl, rfl, rfl⟩
  obtain ⟨x, q, s, hx, hq, hs⟩ := HA1.out
  rw [hx, hq, hs]
  have HX := hidMk hx
  have HQ := hidMk hq
  have HP := hidMk hs
  clear hx hq hs HA1
  go_upto_region 2 with fail
  have h2 := h1.below (fr_below w1 (.cells #[.int .i64 x.re.n, .int .i64 x.re.d, .int .i64 x.im.n, .int .i64 x.im.d] 82))
  have hx2 := heap_alloc_new w1 (.cells #[.int .i64 x.re.n, .int .i64 x.re.d, .int .i64 x.im.n, .int .i64 x.im.d] 82)
  generalize w1.alloc _ = W2 at *
  generalize w1.heap.size = bx at *
  have H2 := hidMk h2
  have HX2 := hidMk hx2
  clear h1 h2 hx2
  obtain ⟨x0, x1, x2, x3⟩ := four_cells HX2.out
  obtain ⟨z0, z1, z2, z3⟩ := four_cells H2.out.hz
  obtain ⟨f0, f1, f2, f3⟩ := four_frozen H2.out.hz
  obtain ⟨s0, s1, _, _⟩ := two_cells H2.out.ho
  cases al with
  | err q' s' =>
    have hne : (q != 0) = true := by
      have h1 : q' = q := HQ.out
      have h2 := EL.out q' s' rfl
      simp
      omega
    have HV2 : Hid (V = .tuple #[.agg #[.int .i64 x.re.n, .int .i64 x.re.d, .int .i64 x.im.n, .int .i64 x.im.d], .int .i64 q, .int .i64 s]) := by
      have := HV.out
      rw [← HX.out, ← HQ.out, ← HP.out]
      exact this
    clear HX HQ HP
    go_wp2_with fail
    refine bp_gen (fun W' => W'.heap[w.heap.size + 1]? = some (.cells #[.int .i64 x.re.n, .int .i64 x.re.d, .int .i64 x.im.n, .int .i64 x.im.d] 82 (0, 0)) ∧ Below w.heap.size w W') ⟨four_set H2.out.hz _ _ _ _, below_four H2.out.hb (by omega) _ _ _ _⟩ ?_
    rintro W ⟨hz, hb⟩
    obtain ⟨z0, z1, z2, z3⟩ := four_cells hz
    rw [HV2.out]
    exact bodyPost_ret (v := .tuple #[.agg #[.int .i64 x.re.n, .int .i64 x.re.d, .int .i64 x.im.n, .int .i64 x.im.d], .int .i64 q, .int .i64 s]) (by simp [results, Tryz.results126, go_sem, z0, z1, z2, z3]) rfl ⟨rfl, hb⟩
  | ok x' =>
    have e1 : x' = x := HX.out
    have e2 : (0 : Int) = q := HQ.out
    subst e1 e2
    have HXO := hidMk (OL.out x' rfl)
    clear HX HQ HP x0 x1 x2 x3 z0 z1 z2 z3 f0 f1 f2 f3 s0 s1
    go_wp2_with fail
    refine (CR.out _ H2.out.hb).mono ?_
    rintro e w3 ⟨rfl, hb3⟩
    have h3 := H2.out.below hb3
    have hx3 := (hb3.block _ (Array.getElem?_eq_some_iff.1 HX2.out).1).trans HX2.out
    clear hb3 CR H2 HX2
    unfold ansV
    have HA1 : Hid (∃ x q s, ansN ar = x ∧ ansE ar = q ∧ ansP ar = s) := ⟨_, _, _, rfl, rfl, rfl⟩
    obtain ⟨y, q, t, hy, hq, ht⟩ := HA1.out
    rw [hy, hq, ht]
    have HY := hidMk hy
    have HQ := hidMk hq
    have HP := hidMk ht
    clear hy hq ht HA1
    go_upto_region 5 with fail
    have h4 := h3.below (fr_below w3 (.cells #[.int .i64 y.re.n, .int .i64 y.re.d, .int .i64 y.im.n, .int .i64 y.im.d] 82))
    have hx4 := ((fr_below w3 (.cells #[.int .i64 y.re.n, .int .i64 y.re.d, .int .i64 y.im.n, .int .i64 y.im.d] 82)).block _ (Array.getElem?_eq_some_iff.1 hx3).1).trans hx3
    have hy4 := heap_alloc_new w3 (.cells #[.int .i64 y.re.n, .int .i64 y.re.d, .int .i64 y.im.n, .int .i64 y.im.d] 82)
    generalize w3.alloc _ = W4 at *
    generalize w3.heap.size = bY at *
    have H4 := hidMk h4
    have HX4 := hidMk hx4
    have HY4 := hidMk hy4
    clear h3 h4 hx3 hx4 hy4
    obtain ⟨x0, x1, x2, x3⟩ := four_cells HX4.out
    obtain ⟨y0, y1, y2, y3⟩ := four_cells HY4.out
    obtain ⟨z0, z1, z2, z3⟩ := four_cells H4.out.hz
    obtain ⟨f0, f1, f2, f3⟩ := four_frozen H4.out.hz
    obtain ⟨s0, s1, _, _⟩ := two_cells H4.out.ho
    cases ar with
    | err q' s' =>
      have hne : (q != 0) = true := by
        have h1 : q' = q := HQ.out
        have h2 := ER.out q' s' rfl
        simp
        omega
      have HV2 : Hid (V = .tuple #[.agg #[.int .i64 y.re.n, .int .i64 y.re.d, .int .i64 y.im.n, .int .i64 y.im.d], .int .i64 q, .int .i64 t]) := by
        have := HV.out
        rw [← HY.out, ← HQ.out, ← HP.out]
        exact this
      clear HY HQ HP
      go_wp2_with fail
      refine bp_gen (fun W' => W'.heap[w.heap.size + 1]? = some (.cells #[.int .i64 y.re.n, .int .i64 y.re.d, .int .i64 y.im.n, .int .i64 y.im.d] 82 (0, 0)) ∧ Below w.heap.size w W') ⟨four_set H4.out.hz _ _ _ _, below_four H4.out.hb (by omega) _ _ _ _⟩ ?_
      rintro W ⟨hz, hb⟩
      obtain ⟨z0, z1, z2, z3⟩ := four_cells hz
      rw [HV2.out]
      exact bodyPost_ret (v := .tuple #[.agg #[.int .i64 y.re.n, .int .i64 y.re.d, .int .i64 y.im.n, .int .i64 y.im.d], .int .i64 q, .int .i64 t]) (by simp [results, Tryz.results126, go_sem, z0, z1, z2, z3]) rfl ⟨rfl, hb⟩
    | ok y' =>
      have e1 : y' = y := HY.out
      have e2 : (0 : Int) = q := HQ.out
      subst e1 e2
      have HYO := hidMk (OR.out y' rfl)
      have HV2 : Hid (V = ansV ((opP c x' y').at p)) := HV.out
      clear HY HQ HP HV z0 z1 z2 z3 f0 f1 f2 f3
      go_wp2_with fail
      refine (CO.out x' y' _ HXO.out HYO.out H4.out.hb).mono ?_
      rintro e w5 ⟨rfl, hb5⟩
      have h5 := H4.out.below hb5
      have hv := HV2.out
      generalize (opP c x' y').at p = a5 at *
      unfold ansV at hv ⊢
      generalize ansN a5 = z at *
      generalize ansE a5 = q at *
      generalize ansP a5 = r at *
      obtain ⟨z0, z1, z2, z3⟩ := four_cells h5.hz
      obtain ⟨f0, f1, f2, f3⟩ := four_frozen h5.hz
      have H5 := hidMk h5
      have HV3 := hidMk hv
      clear h5 hb5 H4 HX4 HY4 x0 x1 x2 x3 y0 y1 y2 y3 s0 s1 HV2 hv
      go_wp2_with fail
      refine bp_gen (fun W' => W'.heap[w.heap.size + 1]? = some (.cells #[.int .i64 z.re.n, .int .i64 z.re.d, .int .i64 z.im.n, .int .i64 z.im.d] 82 (0, 0)) ∧ Below w.heap.size w W') ⟨four_set H5.out.hz _ _ _ _, below_four H5.out.hb (by omega) _ _ _ _⟩ ?_
      rintro W ⟨hz, hb⟩
      obtain ⟨z0, z1, z2, z3⟩ := four_cells hz
      rw [HV3.out]
      exact bodyPost_ret (v := .tuple #[.agg #[.int .i64 z.re.n, .int .i64 z.re.d, .int .i64 z.im.n, .int .i64 z.im.d], .int .i64 q, .int .i64 r]) (by simp [results, Tryz.results126, go_sem, z0, z1, z2, z3]) rfl ⟨rfl, hb⟩
end Go.Proofs.YtodabmkcihafhaaGreatDoor

/- The program's workMarked. -/
namespace Go.Proofs.YtodabmkcihafhaaGreatDoor
open Go.RowKit
set_option linter.unusedVariables false

theorem exV_iface (e : Ex) : ∃ T y, exV e = .iface T y := by
  cases e with
  | num l p => exact ⟨_, _, rfl⟩
  | leaf c p => simp only [exV]; split <;> exact ⟨_, _, rfl⟩
  | un c p e => simp only [exV]; split <;> exact ⟨_, _, rfl⟩
  | bin c p l r => simp only [exV]; split <;> exact ⟨_, _, rfl⟩
theorem three_cells {w : World} {B : Nat} {a b c : Value} {t : TypeId} (h : w.heap[B]? = some (.cells #[a, b, c] t (0, 0))) : w.cell? ⟨B, 0, none⟩ = some a ∧ w.cell? ⟨B, 1, none⟩ = some b ∧ w.cell? ⟨B, 2, none⟩ = some c := by
  simp [World.cell?, h]
set_option maxHeartbeats 4000000 in
set_option maxRecDepth 100000 in
theorem workMarked_of (N : Nat) (aZ aB : Addr) (P m : Nat) (names : List (Int × Num)) (e : Ex) (c : Int) (p : Nat) (hn : ∀ q ∈ names, q.2.Ok) (he : ExOk e) (hc : c = 178 ∨ c = 8242)
    (ie : WP N aZ aB P m names e) (w : World) (hP : Pg N aZ aB P m names w) :
    Calls Tryz.prog 125 #[.pointer (some ⟨P, 0, none⟩), .agg #[exV e, .int .i32 c, .int .i64 p]] w fun x w' => x = .returned (ansV (evT (envOf names) (.un c p e))) ∧ Below w.heap.size w w' := by
  have hen : ∀ c x, envOf names c = some x → x.Ok := fun c x h => by
    obtain ⟨q, hq, rfl⟩ := env_mem h
    exact hn q hq
  obtain ⟨ol, el⟩ := ev_ok hen e he
  have h0 := Res2.new w (.cells #[exV e, .int .i32 c, .int .i64 p] 187)
  have HV : Hid (ansV (evT (envOf names) (.un c p e)) = match evT (envOf names) e with | .err q s => ansV (.err q s) | .ok x => ansV ((opP c x x).at p)) := by
    show _ = _
    simp only [evT]
    cases evT (envOf names) e <;> rfl
  have CL : Hid (∀ W, Below w.heap.size w W → Calls Tryz.prog 83 #[.pointer (some ⟨P, 0, none⟩), exV e] W fun x w' => x = .returned (ansV (evT (envOf names) e)) ∧ Below W.heap.size W w') := fun W hb => ie W (hP.below hb)
  have CO : Hid (∀ x W, x.Ok → Below w.heap.size w W → Calls Tryz.prog 149 #[.agg #[.int .i64 x.re.n, .int .i64 x.re.d, .int .i64 x.im.n, .int .i64 x.im.d], .int .i32 215, .agg #[.int .i64 x.re.n, .int .i64 x.re.d, .int .i64 x.im.n, .int .i64 x.im.d], .int .i64 p] W fun e w' => e = .returned (ansV ((opP 178 x x).at p)) ∧ Below W.heap.size W w') := fun x W hx hb => by
    have := operate_any N aZ aB 215 x x p W (by omega) (hP.below hb).hS (hP.below hb).hN hx hx
    rw [gotV_at] at this
    exact this
  have HC : Hid (c = 178 ∨ c = 8242) := hc
  have OL := hidMk ol
  have EL := hidMk el
  have hII := hidMk (exV_iface e)
  generalize ansV (evT (envOf names) (.un c p e)) = V at *
  generalize evT (envOf names) e = al at *
  generalize exV e = vl at *
  clear he hc ie hen ol el hP hn
  obtain ⟨T, yy, rfl⟩ := hII.out
  go_enter Tryz.func125, Tryz.ntmps125
  go_wp2_with fail
  generalize (w.alloc _).alloc _ = W at *
  obtain ⟨s0, s1, s2⟩ := three_cells h0.ho
  have H0 := hidMk h0
  clear h0
  go_wp2_with fail
  refine (CL.out _ H0.out.hb).mono ?_
  rintro e w1 ⟨rfl, hb1⟩
  have h1 := H0.out.below hb1
  clear H0 hb1 CL s0 s1 s2
  unfold ansV
  have HA1 : Hid (∃ x q s, ansN al = x ∧ ansE al = q ∧ ansP al = s) := ⟨_, _, _, rfl, rfl, rfl⟩
  obtain ⟨x, q, s, hx, hq, hs⟩ := HA1.out
  rw [hx, hq, hs]
  have HX := hidMk hx
  have HQ := hidMk hq
  have HP := hidMk hs
  clear hx hq hs HA1
  go_upto_region 2 with fail
  have h2 := h1.below (fr_below w1 (.cells #[.int .i64 x.re.n, .int .i64 x.re.d, .int .i64 x.im.n, .int .i64 x.im.d] 82))
  have hx2 := heap_alloc_new w1 (.cells #[.int .i64 x.re.n, .int .i64 x.re.d, .int .i64 x.im.n, .int .i64 x.im.d] 82)
  generalize w1.alloc _ = W2 at *
  generalize w1.heap.size = bx at *
  have H2 := hidMk h2
  have HX2 := hidMk hx2
  clear h1 h2 hx2
  obtain ⟨x0, x1, x2, x3⟩ := four_cells HX2.out
  obtain ⟨z0, z1, z2, z3⟩ := four_cells H2.out.hz
  obtain ⟨f0, f1, f2, f3⟩ := four_frozen H2.out.hz
  obtain ⟨s0, s1, s2⟩ := three_cells H2.out.ho
  cases al with
  | err q' s' =>
    have hne : (q != 0) = true := by
      have h1 : q' = q := HQ.out
      have h2 := EL.out q' s' rfl
      simp
      omega
    have HV2 : Hid (V = .tuple #[.agg #[.int .i64 x.re.n, .int .i64 x.re.d, .int .i64 x.im.n, .int .i64 x.im.d], .int .i64 q, .int .i64 s]) := by
      have := HV.out
      rw [← HX.out, ← HQ.out, ← HP.out]
      exact this
    clear HX HQ HP
    go_wp2_with fail
    refine bp_gen (fun W' => W'.heap[w.heap.size + 1]? = some (.cells #[.int .i64 x.re.n, .int .i64 x.re.d, .int .i64 x.im.n, .int .i64 x.im.d] 82 (0, 0)) ∧ Below w.heap.size w W') ⟨four_set H2.out.hz _ _ _ _, below_four H2.out.hb (by omega) _ _ _ _⟩ ?_
    rintro W ⟨hz, hb⟩
    obtain ⟨z0, z1, z2, z3⟩ := four_cells hz
    rw [HV2.out]
    exact bodyPost_ret (v := .tuple #[.agg #[.int .i64 x.re.n, .int .i64 x.re.d, .int .i64 x.im.n, .int .i64 x.im.d], .int .i64 q, .int .i64 s]) (by simp [results, Tryz.results125, go_sem, z0, z1, z2, z3]) rfl ⟨rfl, hb⟩
  | ok x' =>
    have e1 : x' = x := HX.out
    have e2 : (0 : Int) = q := HQ.out
    subst e1 e2
    have hxo := OL.out x' rfl
    have HXO := hidMk hxo
    have HV2 : Hid (V = ansV ((opP c x' x').at p)) := HV.out
    clear HX HQ HP HV hxo z0 z1 z2 z3 f0 f1 f2 f3
    rcases HC.out with rfl | rfl
    · go_wp2_with fail
      refine (CO.out x' _ HXO.out H2.out.hb).mono ?_
      rintro e w5 ⟨rfl, hb5⟩
      have h5 := H2.out.below hb5
      have hv := HV2.out
      generalize (opP 178 x' x').at p = a5 at *
      unfold ansV at hv ⊢
      generalize ansN a5 = z at *
      generalize ansE a5 = q at *
      generalize ansP a5 = r at *
      obtain ⟨z0, z1, z2, z3⟩ := four_cells h5.hz
      obtain ⟨f0, f1, f2, f3⟩ := four_frozen h5.hz
      have H5 := hidMk h5
      have HV3 := hidMk hv
      clear h5 hb5 H2 HX2 x0 x1 x2 x3 s0 s1 s2 HV2 hv
      go_wp2_with fail
      refine bp_gen (fun W' => W'.heap[w.heap.size + 1]? = some (.cells #[.int .i64 z.re.n, .int .i64 z.re.d, .int .i64 z.im.n, .int .i64 z.im.d] 82 (0, 0)) ∧ Below w.heap.size w W') ⟨four_set H5.out.hz _ _ _ _, below_four H5.out.hb (by omega) _ _ _ _⟩ ?_
      rintro W ⟨hz, hb⟩
      obtain ⟨z0, z1, z2, z3⟩ := four_cells hz
      rw [HV3.out]
      exact bodyPost_ret (v := .tuple #[.agg #[.int .i64 z.re.n, .int .i64 z.re.d, .int .i64 z.im.n, .int .i64 z.im.d], .int .i64 q, .int .i64 r]) (by simp [results, Tryz.results125, go_sem, z0, z1, z2, z3]) rfl ⟨rfl, hb⟩
    · go_wp2_with fail
      refine (conj_any x' _ HXO.out).mono ?_
      rintro e w5 ⟨rfl, hb5⟩
      have h5 := H2.out.below hb5
      have hv : V = .tuple #[.agg #[.int .i64 x'.re.n, .int .i64 x'.re.d, .int .i64 x'.im.neg.n, .int .i64 x'.im.neg.d], .int .i64 0, .int .i64 0] := HV2.out
      generalize x'.im.neg = G at *
      obtain ⟨z0, z1, z2, z3⟩ := four_cells h5.hz
      obtain ⟨f0, f1, f2, f3⟩ := four_frozen h5.hz
      have H5 := hidMk h5
      have HV3 := hidMk hv
      clear h5 hb5 H2 HX2 x0 x1 x2 x3 s0 s1 s2 HV2 hv
      go_wp2_with fail
      refine bp_gen (fun W' => W'.heap[w.heap.size + 1]? = some (.cells #[.int .i64 x'.re.n, .int .i64 x'.re.d, .int .i64 G.n, .int .i64 G.d] 82 (0, 0)) ∧ Below w.heap.size w W') ⟨four_set H5.out.hz _ _ _ _, below_four H5.out.hb (by omega) _ _ _ _⟩ ?_
      rintro W ⟨hz, hb⟩
      obtain ⟨z0, z1, z2, z3⟩ := four_cells hz
      rw [HV3.out]
      exact bodyPost_ret (v := .tuple #[.agg #[.int .i64 x'.re.n, .int .i64 x'.re.d, .int .i64 G.n, .int .i64 G.d], .int .i64 0, .int .i64 0]) (by simp [results, Tryz.results125, go_sem, z0, z1, z2, z3]) rfl ⟨rfl, hb⟩
end Go.Proofs.YtodabmkcihafhaaGreatDoor
