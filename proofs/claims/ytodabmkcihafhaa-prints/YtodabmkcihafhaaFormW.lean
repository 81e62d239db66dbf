/- The document's form: in and form, walked. -/
import Derived.Test.YtodabmkcihafhaaForm
import Derived.Lib.QuietBelow
namespace Go.Proofs.Ytodabmkcihafhaa
open Go.RowKit Go.Sort
set_option linter.unusedVariables false

def NRow (w : World) (g cap : Nat) (L : List Nd) : Prop := w.ownsRow 0 52 7 (.slice (some ⟨g, 0, none⟩) L.length cap) L.length (ndCells L)
theorem NRow.below {w w' : World} {g cap : Nat} {L : List Nd} (h : NRow w g cap L) (hb : Below w.heap.size w w') : NRow w' g cap L := by
  refine ⟨h.1, ?_⟩
  rcases h.2 with h2 | ⟨g', cap', cur, hv, hg, hh, r⟩
  · exact Or.inl h2
  · exact Or.inr ⟨g', cap', cur, hv, hg, by rw [hb.block g' (Array.getElem?_eq_some_iff.1 hh).1]; exact hh, r⟩
theorem ndCells_get : ∀ (L : List Nd) (k t : Nat) (n : Nd), L[k]? = some n → t < 7 → (ndCells L)[7 * k + t]? = n.cells[t]? := by
  intro L
  induction L with
  | nil => intro k t n h; simp at h
  | cons m r ih =>
    intro k t n h ht
    have hc : m.cells.length = 7 := rfl
    have e : ndCells (m :: r) = m.cells ++ ndCells r := by simp [ndCells]
    rw [e]
    cases k with
    | zero =>
      simp at h
      subst h
      rw [List.getElem?_append_left (by omega)]
      simp
    | succ k =>
      simp at h
      rw [List.getElem?_append_right (by omega), hc, show 7 * (k + 1) + t - 7 = 7 * k + t by omega]
      exact ih k t n h ht
theorem NRow.cell {w : World} {g cap : Nat} {L : List Nd} (h : NRow w g cap L) {k : Nat} {n : Nd} (hk : L[k]? = some n) (t : Nat) (ht : t < 7) : w.cell? ⟨g, 7 * k + t, none⟩ = n.cells[t]? := by
  have hlt : k < L.length := (List.getElem?_eq_some_iff.1 hk).1
  rw [World.ownsRow.cellAt h (7 * k + t) (by omega)]
  exact ndCells_get L k t n hk ht
theorem NRow.le {w : World} {g cap : Nat} {L : List Nd} (h : NRow w g cap L) : L.length ≤ cap ∧ cap ≤ maxLen := by
  rcases h.2 with ⟨h2, _⟩ | ⟨g', cap', cur, hv, hg, hh, r1, r2, _⟩
  · cases h2
  · injection hv with _ _ e; subst e; exact ⟨r1, r2⟩

theorem NRow.cells7 {w : World} {g cap : Nat} {L : List Nd} (h : NRow w g cap L) {k : Nat} {n : Nd} (hk : L[k]? = some n) :
    w.cell? ⟨g, k * 7, none⟩ = some (.int .i64 n.op) ∧ w.cell? ⟨g, k * 7 + 1, none⟩ = some (.int .i64 n.a) ∧ w.cell? ⟨g, k * 7 + 2, none⟩ = some (.int .i64 n.b) ∧ w.cell? ⟨g, k * 7 + 3, none⟩ = some (.int .i64 n.num) ∧
    w.cell? ⟨g, k * 7 + 4, none⟩ = some (.int .i64 n.den) ∧ w.cell? ⟨g, k * 7 + 5, none⟩ = some (.string n.text) ∧ w.cell? ⟨g, k * 7 + 6, none⟩ = some (.int .i64 n.pl) := by
  rw [Nat.mul_comm k 7]
  exact ⟨h.cell hk 0 (by decide), h.cell hk 1 (by decide), h.cell hk 2 (by decide), h.cell hk 3 (by decide), h.cell hk 4 (by decide), h.cell hk 5 (by decide), h.cell hk 6 (by decide)⟩
theorem rank_as (n : Nd) (w : World) (V : Value) (hV : V = .agg #[.int .i64 n.op, .int .i64 n.a, .int .i64 n.b, .int .i64 n.num, .int .i64 n.den, .string n.text, .int .i64 n.pl]) :
    Calls Try.prog 29 #[V] w fun e w' => e = .returned (.int .i64 (rankP n.op)) ∧ ∃ o, w' = w.alloc o := by
  subst hV
  exact rank_any n w
theorem rankP_le (op : Int) : rankP op ≤ 3 := by
  unfold rankP
  repeat' split
  all_goals omega

def CForm (f : Nat) : Prop := ∀ (L : List Nd) (k g cap : Nat) (w : World), WfL L → k < L.length → L.length ≤ 1000 → k < f → (fm L k).size ≤ 2000 → NRow w g cap L →
  Calls Try.prog 10 #[.slice (some ⟨g, 0, none⟩) L.length cap, .int .i64 k] w fun e w' => e = .returned (.string (fm L k)) ∧ Below w.heap.size w w'
def CIn (f : Nat) : Prop := ∀ (L : List Nd) (k g cap least : Nat) (w : World), WfL L → k < L.length → L.length ≤ 1000 → least ≤ 3 → k < f → (fm L k).size ≤ 2000 → NRow w g cap L →
  Calls Try.prog 17 #[.slice (some ⟨g, 0, none⟩) L.length cap, .int .i64 k, .int .i64 least] w fun e w' => e = .returned (.string (brk (rankP (opAt L k)) least (fm L k))) ∧ Below w.heap.size w w'

set_option maxHeartbeats 2000000 in
set_option maxRecDepth 100000 in
theorem in_step (f : Nat) (ih : CForm f) : CIn f := by
  intro L k g cap least w hwf hk hL hl hkf hsz hrow
  obtain ⟨n, hn⟩ : ∃ n, L[k]? = some n := ⟨L[k], List.getElem?_eq_getElem hk⟩
  have Hn : Hid (L[k]? = some n) := hn
  have Hop : Hid (opAt L k = n.op) := by show opAt L k = _; unfold opAt; rw [hn]
  clear hn
  have hcap := hrow.le
  go_enter Try.func17, Try.ntmps17
  go_wp2_with fail
  refine (ih L k g cap _ hwf hk hL hkf hsz hrow).mono ?_
  rintro e w1 ⟨rfl, hb1⟩
  have hrow1 := hrow.below hb1
  obtain ⟨d0, d1, d2, d3, d4, d5, d6⟩ := hrow1.cells7 Hn.out
  obtain ⟨F, hF⟩ : ∃ F, fm L k = F := ⟨_, rfl⟩
  rw [hF] at hsz
  have HF : Hid (fm L k = F) := hF
  rw [hF]
  clear hrow hF
  go_wp2_with fail
  refine (rank_as n _ _ rfl).mono ?_
  rintro e w2 ⟨rfl, o2, rfl⟩
  have hr3 := rankP_le n.op
  have HO := Hop.out
  by_cases hlt : rankP n.op < least
  · have q1 : ((rankP n.op : Nat) : Int) < (least : Int) := by omega
    have z1 : (ByteArray.mk #[40]).size = 1 := rfl
    clear d0 d1 d2 d3 d4 d5 d6 HO
    go_wp2_with fail
    go_ret
    rw [Hop.out, HF.out]
    unfold brk
    rw [if_pos hlt]
    exact ⟨rfl, hb1.trans ((Below.refl _ _).alloc (by have := hb1.size; omega) _)⟩
  · have q1 : ¬ ((rankP n.op : Nat) : Int) < (least : Int) := by omega
    clear d0 d1 d2 d3 d4 d5 d6 HO
    go_wp2_with fail
    go_ret
    rw [Hop.out, HF.out]
    unfold brk
    rw [if_neg hlt]
    exact ⟨rfl, hb1.trans ((Below.refl _ _).alloc (by have := hb1.size; omega) _)⟩

theorem NRow.alloc {w : World} {g cap : Nat} {L : List Nd} (h : NRow w g cap L) (o : Obj) : NRow (w.alloc o) g cap L := World.ownsRow.alloc h o
theorem below_alloc (w : World) (o : Obj) : Below w.heap.size w (w.alloc o) := (Below.refl _ _).alloc (Nat.le_refl _) o

/-- The sub-forms and the sign's text, each met in a world of the class. -/
theorem c_in (f : Nat) (ih : CIn f) (L : List Nd) (k g cap least : Nat) (W : World) (hwf : WfL L) (hk : k < L.length) (hL : L.length ≤ 1000) (hl : least ≤ 3) (hkf : k < f) (hsz : (fm L k).size ≤ 2000) (hrow : NRow W g cap L) :
    ∀ d os, Calls Try.prog 17 #[.slice (some ⟨g, 0, none⟩) L.length cap, .int .i64 k, .int .i64 least] (grow (redrawn W d) os) fun e w'' => e = .returned (.string (brk (rankP (opAt L k)) least (fm L k))) ∧ ∃ p : Regrown, w'' = grow (redrawn W p.d) p.os :=
  fun d os => Calls.regrown_of (ih L k g cap least _ hwf hk hL hl hkf hsz (hrow.below (below_regrown W d os)))
theorem c_text (c : Nat) (W : World) (hc : c < 55296) : ∀ d os, Calls Try.prog 18 #[.int .i64 c] (grow (redrawn W d) os) fun e w'' => e = .returned (.string (Utf8.encode c)) ∧ ∃ p : Regrown, w'' = grow (redrawn W p.d) p.os :=
  fun d os => Calls.regrown_of ((text_any c _ hc).mono fun e w' ⟨he, o, ho⟩ => ⟨he, by rw [ho]; exact below_alloc _ _⟩)

def SubC (L : List Nd) (g cap a least : Nat) (A : ByteArray) : Prop := ∀ W, NRow W g cap L → ∀ d os, Calls Try.prog 17 #[.slice (some ⟨g, 0, none⟩) L.length cap, .int .i64 a, .int .i64 least] (grow (redrawn W d) os) fun e w'' => e = .returned (.string A) ∧ ∃ p : Regrown, w'' = grow (redrawn W p.d) p.os
def TxtC (c : Nat) (T : ByteArray) : Prop := ∀ W, ∀ d os, Calls Try.prog 18 #[.int .i64 c] (grow (redrawn W d) os) fun e w'' => e = .returned (.string T) ∧ ∃ p : Regrown, w'' = grow (redrawn W p.d) p.os


set_option maxHeartbeats 2000000 in
set_option maxRecDepth 100000 in
theorem form_sum (L : List Nd) (k g cap : Nat) (w : World) (n : Nd) (c : Nat) (A T B : ByteArray) (hL : L.length ≤ 1000) (hk : k < L.length) (hrow : NRow w g cap L) (hn : L[k]? = some n) (hc : n.op = c) (hcs : c = 43 ∨ c = 8722)
    (hA : A.size ≤ 2000) (hT : T.size ≤ 2000) (hB : B.size ≤ 2000) (cA : SubC L g cap n.a 0 A) (cB : SubC L g cap n.b 1 B) (cT : TxtC c T) :
    Calls Try.prog 10 #[.slice (some ⟨g, 0, none⟩) L.length cap, .int .i64 k] w fun e w' => e = .returned (.string (A ++ T ++ B)) ∧ Below w.heap.size w w' := by
  have hcap := hrow.le
  obtain ⟨d0, d1, d2, d3, d4, d5, d6⟩ := hrow.cells7 hn
  rw [hc] at d0
  clear hn hc
  generalize n.a = a at *
  generalize n.b = b at *
  generalize n.num = num at *
  generalize n.den = den at *
  generalize n.text = text at *
  generalize n.pl = pl at *
  rcases hcs with hcs | hcs
  · have q43 : ((c : Int) == 43) = true := by simp; omega
    clear hcs
    go_enter Try.func10, Try.ntmps10
    go_wp2_with fail
    have hNR := hrow.alloc (.cells #[.int .i64 c, .int .i64 a, .int .i64 b, .int .i64 num, .int .i64 den, .string text, .int .i64 pl] 52)
    have hB0 := below_alloc w (.cells #[.int .i64 c, .int .i64 a, .int .i64 b, .int .i64 num, .int .i64 den, .string text, .int .i64 pl] 52)
    have x0 : (w.alloc (.cells #[.int .i64 c, .int .i64 a, .int .i64 b, .int .i64 num, .int .i64 den, .string text, .int .i64 pl] 52)).cell? ⟨w.heap.size, 0, none⟩ = some (.int .i64 c) := by simp
    have x1 : (w.alloc (.cells #[.int .i64 c, .int .i64 a, .int .i64 b, .int .i64 num, .int .i64 den, .string text, .int .i64 pl] 52)).cell? ⟨w.heap.size, 1, none⟩ = some (.int .i64 a) := by simp
    have x2 : (w.alloc (.cells #[.int .i64 c, .int .i64 a, .int .i64 b, .int .i64 num, .int .i64 den, .string text, .int .i64 pl] 52)).cell? ⟨w.heap.size, 2, none⟩ = some (.int .i64 b) := by simp
    generalize w.alloc (.cells #[.int .i64 c, .int .i64 a, .int .i64 b, .int .i64 num, .int .i64 den, .string text, .int .i64 pl] 52) = W at *
    have y0 := cell_regrown x0
    have y1 := cell_regrown x1
    have y2 := cell_regrown x2
    have n1 : ¬ 9223372036854775807 < A.size + T.size := by omega
    have n2 : ¬ 9223372036854775807 < A.size + T.size + B.size := by omega
    clear d0 d1 d2 d3 d4 d5 d6 x0 x1 x2
    refine wp_region_quiet_below (by kernel_rfl) (by kernel_rfl) ?_
    repeat (quiet_step (first | (go_at_call_of 17 a; exact cA W hNR _ _) | (go_at_call_of 17 b; exact cB W hNR _ _) | (go_at_call 18; exact cT W _ _)))
    refine wpQuiet_nil ?_
    intro _ hw'
    obtain ⟨⟨dq, osq⟩, hw''⟩ := hw'
    subst hw''
    go_wp2_with fail
    go_ret
    exact ⟨rfl, hB0.trans ((below_regrown W dq osq).mono hB0.size)⟩
  · have q43 : ((c : Int) == 43) = false := by simp; omega
    have q8722 : ((c : Int) == 8722) = true := by simp; omega
    clear hcs
    go_enter Try.func10, Try.ntmps10
    go_wp2_with fail
    have hNR := hrow.alloc (.cells #[.int .i64 c, .int .i64 a, .int .i64 b, .int .i64 num, .int .i64 den, .string text, .int .i64 pl] 52)
    have hB0 := below_alloc w (.cells #[.int .i64 c, .int .i64 a, .int .i64 b, .int .i64 num, .int .i64 den, .string text, .int .i64 pl] 52)
    have x0 : (w.alloc (.cells #[.int .i64 c, .int .i64 a, .int .i64 b, .int .i64 num, .int .i64 den, .string text, .int .i64 pl] 52)).cell? ⟨w.heap.size, 0, none⟩ = some (.int .i64 c) := by simp
    have x1 : (w.alloc (.cells #[.int .i64 c, .int .i64 a, .int .i64 b, .int .i64 num, .int .i64 den, .string text, .int .i64 pl] 52)).cell? ⟨w.heap.size, 1, none⟩ = some (.int .i64 a) := by simp
    have x2 : (w.alloc (.cells #[.int .i64 c, .int .i64 a, .int .i64 b, .int .i64 num, .int .i64 den, .string text, .int .i64 pl] 52)).cell? ⟨w.heap.size, 2, none⟩ = some (.int .i64 b) := by simp
    generalize w.alloc (.cells #[.int .i64 c, .int .i64 a, .int .i64 b, .int .i64 num, .int .i64 den, .string text, .int .i64 pl] 52) = W at *
    have y0 := cell_regrown x0
    have y1 := cell_regrown x1
    have y2 := cell_regrown x2
    have n1 : ¬ 9223372036854775807 < A.size + T.size := by omega
    have n2 : ¬ 9223372036854775807 < A.size + T.size + B.size := by omega
    clear d0 d1 d2 d3 d4 d5 d6 x0 x1 x2
    refine wp_region_quiet_below (by kernel_rfl) (by kernel_rfl) ?_
    repeat (quiet_step (first | (go_at_call_of 17 a; exact cA W hNR _ _) | (go_at_call_of 17 b; exact cB W hNR _ _) | (go_at_call 18; exact cT W _ _)))
    refine wpQuiet_nil ?_
    intro _ hw'
    obtain ⟨⟨dq, osq⟩, hw''⟩ := hw'
    subst hw''
    go_wp2_with fail
    go_ret
    exact ⟨rfl, hB0.trans ((below_regrown W dq osq).mono hB0.size)⟩

set_option maxHeartbeats 2000000 in
set_option maxRecDepth 100000 in
theorem form_prod (L : List Nd) (k g cap : Nat) (w : World) (n : Nd) (c : Nat) (A T B : ByteArray) (hL : L.length ≤ 1000) (hk : k < L.length) (hrow : NRow w g cap L) (hn : L[k]? = some n) (hc : n.op = c) (hcs : c = 215 ∨ c = 247)
    (hA : A.size ≤ 2000) (hT : T.size ≤ 2000) (hB : B.size ≤ 2000) (cA : SubC L g cap n.a 1 A) (cB : SubC L g cap n.b 2 B) (cT : TxtC c T) :
    Calls Try.prog 10 #[.slice (some ⟨g, 0, none⟩) L.length cap, .int .i64 k] w fun e w' => e = .returned (.string (A ++ T ++ B)) ∧ Below w.heap.size w w' := by
  have hcap := hrow.le
  obtain ⟨d0, d1, d2, d3, d4, d5, d6⟩ := hrow.cells7 hn
  rw [hc] at d0
  clear hn hc
  generalize n.a = a at *
  generalize n.b = b at *
  generalize n.num = num at *
  generalize n.den = den at *
  generalize n.text = text at *
  generalize n.pl = pl at *
  rcases hcs with hcs | hcs
  · have q43 : ((c : Int) == 43) = false := by simp; omega
    have q8722 : ((c : Int) == 8722) = false := by simp; omega
    have q215 : ((c : Int) == 215) = true := by simp; omega
    clear hcs
    go_enter Try.func10, Try.ntmps10
    go_wp2_with fail
    have hNR := hrow.alloc (.cells #[.int .i64 c, .int .i64 a, .int .i64 b, .int .i64 num, .int .i64 den, .string text, .int .i64 pl] 52)
    have hB0 := below_alloc w (.cells #[.int .i64 c, .int .i64 a, .int .i64 b, .int .i64 num, .int .i64 den, .string text, .int .i64 pl] 52)
    have x0 : (w.alloc (.cells #[.int .i64 c, .int .i64 a, .int .i64 b, .int .i64 num, .int .i64 den, .string text, .int .i64 pl] 52)).cell? ⟨w.heap.size, 0, none⟩ = some (.int .i64 c) := by simp
    have x1 : (w.alloc (.cells #[.int .i64 c, .int .i64 a, .int .i64 b, .int .i64 num, .int .i64 den, .string text, .int .i64 pl] 52)).cell? ⟨w.heap.size, 1, none⟩ = some (.int .i64 a) := by simp
    have x2 : (w.alloc (.cells #[.int .i64 c, .int .i64 a, .int .i64 b, .int .i64 num, .int .i64 den, .string text, .int .i64 pl] 52)).cell? ⟨w.heap.size, 2, none⟩ = some (.int .i64 b) := by simp
    generalize w.alloc (.cells #[.int .i64 c, .int .i64 a, .int .i64 b, .int .i64 num, .int .i64 den, .string text, .int .i64 pl] 52) = W at *
    have y0 := cell_regrown x0
    have y1 := cell_regrown x1
    have y2 := cell_regrown x2
    have n1 : ¬ 9223372036854775807 < A.size + T.size := by omega
    have n2 : ¬ 9223372036854775807 < A.size + T.size + B.size := by omega
    clear d0 d1 d2 d3 d4 d5 d6 x0 x1 x2
    refine wp_region_quiet_below (by kernel_rfl) (by kernel_rfl) ?_
    repeat (quiet_step (first | (go_at_call_of 17 a; exact cA W hNR _ _) | (go_at_call_of 17 b; exact cB W hNR _ _) | (go_at_call 18; exact cT W _ _)))
    refine wpQuiet_nil ?_
    intro _ hw'
    obtain ⟨⟨dq, osq⟩, hw''⟩ := hw'
    subst hw''
    go_wp2_with fail
    go_ret
    exact ⟨rfl, hB0.trans ((below_regrown W dq osq).mono hB0.size)⟩
  · have q43 : ((c : Int) == 43) = false := by simp; omega
    have q8722 : ((c : Int) == 8722) = false := by simp; omega
    have q215 : ((c : Int) == 215) = false := by simp; omega
    have q247 : ((c : Int) == 247) = true := by simp; omega
    clear hcs
    go_enter Try.func10, Try.ntmps10
    go_wp2_with fail
    have hNR := hrow.alloc (.cells #[.int .i64 c, .int .i64 a, .int .i64 b, .int .i64 num, .int .i64 den, .string text, .int .i64 pl] 52)
    have hB0 := below_alloc w (.cells #[.int .i64 c, .int .i64 a, .int .i64 b, .int .i64 num, .int .i64 den, .string text, .int .i64 pl] 52)
    have x0 : (w.alloc (.cells #[.int .i64 c, .int .i64 a, .int .i64 b, .int .i64 num, .int .i64 den, .string text, .int .i64 pl] 52)).cell? ⟨w.heap.size, 0, none⟩ = some (.int .i64 c) := by simp
    have x1 : (w.alloc (.cells #[.int .i64 c, .int .i64 a, .int .i64 b, .int .i64 num, .int .i64 den, .string text, .int .i64 pl] 52)).cell? ⟨w.heap.size, 1, none⟩ = some (.int .i64 a) := by simp
    have x2 : (w.alloc (.cells #[.int .i64 c, .int .i64 a, .int .i64 b, .int .i64 num, .int .i64 den, .string text, .int .i64 pl] 52)).cell? ⟨w.heap.size, 2, none⟩ = some (.int .i64 b) := by simp
    generalize w.alloc (.cells #[.int .i64 c, .int .i64 a, .int .i64 b, .int .i64 num, .int .i64 den, .string text, .int .i64 pl] 52) = W at *
    have y0 := cell_regrown x0
    have y1 := cell_regrown x1
    have y2 := cell_regrown x2
    have n1 : ¬ 9223372036854775807 < A.size + T.size := by omega
    have n2 : ¬ 9223372036854775807 < A.size + T.size + B.size := by omega
    clear d0 d1 d2 d3 d4 d5 d6 x0 x1 x2
    refine wp_region_quiet_below (by kernel_rfl) (by kernel_rfl) ?_
    repeat (quiet_step (first | (go_at_call_of 17 a; exact cA W hNR _ _) | (go_at_call_of 17 b; exact cB W hNR _ _) | (go_at_call 18; exact cT W _ _)))
    refine wpQuiet_nil ?_
    intro _ hw'
    obtain ⟨⟨dq, osq⟩, hw''⟩ := hw'
    subst hw''
    go_wp2_with fail
    go_ret
    exact ⟨rfl, hB0.trans ((below_regrown W dq osq).mono hB0.size)⟩

set_option maxHeartbeats 2000000 in
set_option maxRecDepth 100000 in
theorem form_neg (L : List Nd) (k g cap : Nat) (w : World) (n : Nd) (c : Nat) (A T : ByteArray) (hL : L.length ≤ 1000) (hk : k < L.length) (hrow : NRow w g cap L) (hn : L[k]? = some n) (hc : n.op = c) (hcs : c = 110)
    (hA : A.size ≤ 2000) (hT : T.size ≤ 2000) (cA : SubC L g cap n.a 2 A) (cT : TxtC 8722 T) :
    Calls Try.prog 10 #[.slice (some ⟨g, 0, none⟩) L.length cap, .int .i64 k] w fun e w' => e = .returned (.string (T ++ A)) ∧ Below w.heap.size w w' := by
  have hcap := hrow.le
  obtain ⟨d0, d1, d2, d3, d4, d5, d6⟩ := hrow.cells7 hn
  rw [hc] at d0
  clear hn hc
  generalize n.a = a at *
  generalize n.b = b at *
  generalize n.num = num at *
  generalize n.den = den at *
  generalize n.text = text at *
  generalize n.pl = pl at *
  · have q43 : ((c : Int) == 43) = false := by simp; omega
    have q8722 : ((c : Int) == 8722) = false := by simp; omega
    have q215 : ((c : Int) == 215) = false := by simp; omega
    have q247 : ((c : Int) == 247) = false := by simp; omega
    have q110 : ((c : Int) == 110) = true := by simp; omega
    clear hcs
    go_enter Try.func10, Try.ntmps10
    go_wp2_with fail
    have hNR := hrow.alloc (.cells #[.int .i64 c, .int .i64 a, .int .i64 b, .int .i64 num, .int .i64 den, .string text, .int .i64 pl] 52)
    have hB0 := below_alloc w (.cells #[.int .i64 c, .int .i64 a, .int .i64 b, .int .i64 num, .int .i64 den, .string text, .int .i64 pl] 52)
    have x0 : (w.alloc (.cells #[.int .i64 c, .int .i64 a, .int .i64 b, .int .i64 num, .int .i64 den, .string text, .int .i64 pl] 52)).cell? ⟨w.heap.size, 0, none⟩ = some (.int .i64 c) := by simp
    have x1 : (w.alloc (.cells #[.int .i64 c, .int .i64 a, .int .i64 b, .int .i64 num, .int .i64 den, .string text, .int .i64 pl] 52)).cell? ⟨w.heap.size, 1, none⟩ = some (.int .i64 a) := by simp
    have x2 : (w.alloc (.cells #[.int .i64 c, .int .i64 a, .int .i64 b, .int .i64 num, .int .i64 den, .string text, .int .i64 pl] 52)).cell? ⟨w.heap.size, 2, none⟩ = some (.int .i64 b) := by simp
    generalize w.alloc (.cells #[.int .i64 c, .int .i64 a, .int .i64 b, .int .i64 num, .int .i64 den, .string text, .int .i64 pl] 52) = W at *
    have y0 := cell_regrown x0
    have y1 := cell_regrown x1
    have y2 := cell_regrown x2
    have n1 : ¬ 9223372036854775807 < T.size + A.size := by omega
    clear d0 d1 d2 d3 d4 d5 d6 x0 x1 x2
    refine wp_region_quiet_below (by kernel_rfl) (by kernel_rfl) ?_
    repeat (quiet_step (first | (go_at_call_of 17 a; exact cA W hNR _ _) | (go_at_call 18; exact cT W _ _)))
    refine wpQuiet_nil ?_
    intro _ hw'
    obtain ⟨⟨dq, osq⟩, hw''⟩ := hw'
    subst hw''
    go_wp2_with fail
    go_ret
    exact ⟨rfl, hB0.trans ((below_regrown W dq osq).mono hB0.size)⟩

set_option maxHeartbeats 2000000 in
set_option maxRecDepth 100000 in
theorem form_mark (L : List Nd) (k g cap : Nat) (w : World) (n : Nd) (c : Nat) (A T : ByteArray) (hL : L.length ≤ 1000) (hk : k < L.length) (hrow : NRow w g cap L) (hn : L[k]? = some n) (hc : n.op = c) (hcs : c = 178 ∨ c = 8242)
    (hA : A.size ≤ 2000) (hT : T.size ≤ 2000) (cA : SubC L g cap n.a 3 A) (cT : TxtC c T) :
    Calls Try.prog 10 #[.slice (some ⟨g, 0, none⟩) L.length cap, .int .i64 k] w fun e w' => e = .returned (.string (A ++ T)) ∧ Below w.heap.size w w' := by
  have hcap := hrow.le
  obtain ⟨d0, d1, d2, d3, d4, d5, d6⟩ := hrow.cells7 hn
  rw [hc] at d0
  clear hn hc
  generalize n.a = a at *
  generalize n.b = b at *
  generalize n.num = num at *
  generalize n.den = den at *
  generalize n.text = text at *
  generalize n.pl = pl at *
  rcases hcs with hcs | hcs
  · have q43 : ((c : Int) == 43) = false := by simp; omega
    have q8722 : ((c : Int) == 8722) = false := by simp; omega
    have q215 : ((c : Int) == 215) = false := by simp; omega
    have q247 : ((c : Int) == 247) = false := by simp; omega
    have q110 : ((c : Int) == 110) = false := by simp; omega
    have q178 : ((c : Int) == 178) = true := by simp; omega
    clear hcs
    go_enter Try.func10, Try.ntmps10
    go_wp2_with fail
    have hNR := hrow.alloc (.cells #[.int .i64 c, .int .i64 a, .int .i64 b, .int .i64 num, .int .i64 den, .string text, .int .i64 pl] 52)
    have hB0 := below_alloc w (.cells #[.int .i64 c, .int .i64 a, .int .i64 b, .int .i64 num, .int .i64 den, .string text, .int .i64 pl] 52)
    have x0 : (w.alloc (.cells #[.int .i64 c, .int .i64 a, .int .i64 b, .int .i64 num, .int .i64 den, .string text, .int .i64 pl] 52)).cell? ⟨w.heap.size, 0, none⟩ = some (.int .i64 c) := by simp
    have x1 : (w.alloc (.cells #[.int .i64 c, .int .i64 a, .int .i64 b, .int .i64 num, .int .i64 den, .string text, .int .i64 pl] 52)).cell? ⟨w.heap.size, 1, none⟩ = some (.int .i64 a) := by simp
    have x2 : (w.alloc (.cells #[.int .i64 c, .int .i64 a, .int .i64 b, .int .i64 num, .int .i64 den, .string text, .int .i64 pl] 52)).cell? ⟨w.heap.size, 2, none⟩ = some (.int .i64 b) := by simp
    generalize w.alloc (.cells #[.int .i64 c, .int .i64 a, .int .i64 b, .int .i64 num, .int .i64 den, .string text, .int .i64 pl] 52) = W at *
    have y0 := cell_regrown x0
    have y1 := cell_regrown x1
    have y2 := cell_regrown x2
    have n1 : ¬ 9223372036854775807 < A.size + T.size := by omega
    clear d0 d1 d2 d3 d4 d5 d6 x0 x1 x2
    refine wp_region_quiet_below (by kernel_rfl) (by kernel_rfl) ?_
    repeat (quiet_step (first | (go_at_call_of 17 a; exact cA W hNR _ _) | (go_at_call 18; exact cT W _ _)))
    refine wpQuiet_nil ?_
    intro _ hw'
    obtain ⟨⟨dq, osq⟩, hw''⟩ := hw'
    subst hw''
    go_wp2_with fail
    go_ret
    exact ⟨rfl, hB0.trans ((below_regrown W dq osq).mono hB0.size)⟩
  · have q43 : ((c : Int) == 43) = false := by simp; omega
    have q8722 : ((c : Int) == 8722) = false := by simp; omega
    have q215 : ((c : Int) == 215) = false := by simp; omega
    have q247 : ((c : Int) == 247) = false := by simp; omega
    have q110 : ((c : Int) == 110) = false := by simp; omega
    have q178 : ((c : Int) == 178) = false := by simp; omega
    have q8242 : ((c : Int) == 8242) = true := by simp; omega
    clear hcs
    go_enter Try.func10, Try.ntmps10
    go_wp2_with fail
    have hNR := hrow.alloc (.cells #[.int .i64 c, .int .i64 a, .int .i64 b, .int .i64 num, .int .i64 den, .string text, .int .i64 pl] 52)
    have hB0 := below_alloc w (.cells #[.int .i64 c, .int .i64 a, .int .i64 b, .int .i64 num, .int .i64 den, .string text, .int .i64 pl] 52)
    have x0 : (w.alloc (.cells #[.int .i64 c, .int .i64 a, .int .i64 b, .int .i64 num, .int .i64 den, .string text, .int .i64 pl] 52)).cell? ⟨w.heap.size, 0, none⟩ = some (.int .i64 c) := by simp
    have x1 : (w.alloc (.cells #[.int .i64 c, .int .i64 a, .int .i64 b, .int .i64 num, .int .i64 den, .string text, .int .i64 pl] 52)).cell? ⟨w.heap.size, 1, none⟩ = some (.int .i64 a) := by simp
    have x2 : (w.alloc (.cells #[.int .i64 c, .int .i64 a, .int .i64 b, .int .i64 num, .int .i64 den, .string text, .int .i64 pl] 52)).cell? ⟨w.heap.size, 2, none⟩ = some (.int .i64 b) := by simp
    generalize w.alloc (.cells #[.int .i64 c, .int .i64 a, .int .i64 b, .int .i64 num, .int .i64 den, .string text, .int .i64 pl] 52) = W at *
    have y0 := cell_regrown x0
    have y1 := cell_regrown x1
    have y2 := cell_regrown x2
    have n1 : ¬ 9223372036854775807 < A.size + T.size := by omega
    clear d0 d1 d2 d3 d4 d5 d6 x0 x1 x2
    refine wp_region_quiet_below (by kernel_rfl) (by kernel_rfl) ?_
    repeat (quiet_step (first | (go_at_call_of 17 a; exact cA W hNR _ _) | (go_at_call 18; exact cT W _ _)))
    refine wpQuiet_nil ?_
    intro _ hw'
    obtain ⟨⟨dq, osq⟩, hw''⟩ := hw'
    subst hw''
    go_wp2_with fail
    go_ret
    exact ⟨rfl, hB0.trans ((below_regrown W dq osq).mono hB0.size)⟩

set_option maxHeartbeats 2000000 in
set_option maxRecDepth 100000 in
theorem form_num (L : List Nd) (k g cap : Nat) (w : World) (n : Nd) (c : Nat)  (hL : L.length ≤ 1000) (hk : k < L.length) (hrow : NRow w g cap L) (hn : L[k]? = some n) (hc : n.op = c) (hcs : c = 48)
    (h0 : 0 = 0) :
    Calls Try.prog 10 #[.slice (some ⟨g, 0, none⟩) L.length cap, .int .i64 k] w fun e w' => e = .returned (.string n.text) ∧ Below w.heap.size w w' := by
  have hcap := hrow.le
  obtain ⟨d0, d1, d2, d3, d4, d5, d6⟩ := hrow.cells7 hn
  rw [hc] at d0
  clear hn hc
  generalize n.a = a at *
  generalize n.b = b at *
  generalize n.num = num at *
  generalize n.den = den at *
  generalize n.text = text at *
  generalize n.pl = pl at *
  · have q43 : ((c : Int) == 43) = false := by simp; omega
    have q8722 : ((c : Int) == 8722) = false := by simp; omega
    have q215 : ((c : Int) == 215) = false := by simp; omega
    have q247 : ((c : Int) == 247) = false := by simp; omega
    have q110 : ((c : Int) == 110) = false := by simp; omega
    have q178 : ((c : Int) == 178) = false := by simp; omega
    have q8242 : ((c : Int) == 8242) = false := by simp; omega
    have q48 : ((c : Int) == 48) = true := by simp; omega
    clear hcs
    go_enter Try.func10, Try.ntmps10
    go_wp2_with fail
    go_ret
    exact ⟨rfl, below_alloc _ _⟩

set_option maxHeartbeats 2000000 in
set_option maxRecDepth 100000 in
theorem form_leaf (L : List Nd) (k g cap : Nat) (w : World) (n : Nd) (c : Nat)  (hL : L.length ≤ 1000) (hk : k < L.length) (hrow : NRow w g cap L) (hn : L[k]? = some n) (hc : n.op = c) (hcs : c < 55296 ∧ c ≠ 43 ∧ c ≠ 8722 ∧ c ≠ 215 ∧ c ≠ 247 ∧ c ≠ 110 ∧ c ≠ 178 ∧ c ≠ 8242 ∧ c ≠ 48)
    (h0 : 0 = 0) :
    Calls Try.prog 10 #[.slice (some ⟨g, 0, none⟩) L.length cap, .int .i64 k] w fun e w' => e = .returned (.string (Utf8.encode c)) ∧ Below w.heap.size w w' := by
  have hcap := hrow.le
  obtain ⟨d0, d1, d2, d3, d4, d5, d6⟩ := hrow.cells7 hn
  rw [hc] at d0
  clear hn hc
  generalize n.a = a at *
  generalize n.b = b at *
  generalize n.num = num at *
  generalize n.den = den at *
  generalize n.text = text at *
  generalize n.pl = pl at *
  · have hc5 : c < 55296 := by omega
    have q43 : ((c : Int) == 43) = false := by simp; omega
    have q8722 : ((c : Int) == 8722) = false := by simp; omega
    have q215 : ((c : Int) == 215) = false := by simp; omega
    have q247 : ((c : Int) == 247) = false := by simp; omega
    have q110 : ((c : Int) == 110) = false := by simp; omega
    have q178 : ((c : Int) == 178) = false := by simp; omega
    have q8242 : ((c : Int) == 8242) = false := by simp; omega
    have q48 : ((c : Int) == 48) = false := by simp; omega
    clear hcs
    go_enter Try.func10, Try.ntmps10
    go_wp2_with fail
    refine (text_any c _ hc5).mono ?_
    rintro e w' ⟨rfl, o, rfl⟩
    go_wp2_with fail
    go_ret
    exact ⟨rfl, (below_alloc w _).trans ((below_alloc _ _).mono (by simp))⟩

theorem size_parts {a b : ByteArray} {N : Nat} (h : (a ++ b).size ≤ N) : a.size ≤ N ∧ b.size ≤ N := by
  rw [ByteArray.size_append] at h
  omega
theorem brk_ge (r l : Nat) (t : ByteArray) : t.size ≤ (brk r l t).size := by
  unfold brk
  split
  · simp only [ByteArray.size_append]; omega
  · omega

theorem form_step (f : Nat) (ih : CIn f) : CForm (f + 1) := by
  intro L k g cap w hwf hk hL hkf hsz hrow
  obtain ⟨n, hn⟩ : ∃ n, L[k]? = some n := ⟨L[k], List.getElem?_eq_getElem hk⟩
  obtain ⟨w0, w1, w2, w3⟩ := hwf k n hn
  obtain ⟨c, hc⟩ := Int.eq_ofNat_of_zero_le w0
  have hfm := fm_eq L k n hwf hn
  have hc5 : c < 55296 := by omega
  have sub : ∀ a least, a < k → least ≤ 3 → (fm L a).size ≤ 2000 → SubC L g cap a least (brk (rankP (opAt L a)) least (fm L a)) := fun a least ha hl hs2 W hW d os =>
    c_in f ih L a g cap least W hwf (by omega) hL hl (by omega) hs2 hW d os
  have txt : ∀ c', c' < 55296 → TxtC c' (Utf8.encode c') := fun c' h W d os => c_text c' W h d os
  unfold nodeF at hfm
  rw [hc] at hfm
  rw [hfm] at hsz ⊢
  by_cases h1 : (c : Int) = 43 ∨ (c : Int) = 8722
  · rw [if_pos h1] at hsz ⊢
    obtain ⟨q1, q2⟩ := w2 (by unfold isBin; rw [hc]; rcases h1 with e | e <;> simp [e])
    obtain ⟨s1, s2⟩ := size_parts hsz
    obtain ⟨s3, s4⟩ := size_parts s1
    exact form_sum L k g cap w n c _ _ _ hL hk hrow hn hc (by omega) s3 s4 s2 (sub n.a 0 q1 (by decide) (Nat.le_trans (brk_ge _ _ _) s3)) (sub n.b 1 q2 (by decide) (Nat.le_trans (brk_ge _ _ _) s2)) (txt c hc5)
  · rw [if_neg h1] at hsz ⊢
    by_cases h2 : (c : Int) = 215 ∨ (c : Int) = 247
    · rw [if_pos h2] at hsz ⊢
      obtain ⟨q1, q2⟩ := w2 (by unfold isBin; rw [hc]; rcases h2 with e | e <;> simp [e])
      obtain ⟨s1, s2⟩ := size_parts hsz
      obtain ⟨s3, s4⟩ := size_parts s1
      exact form_prod L k g cap w n c _ _ _ hL hk hrow hn hc (by omega) s3 s4 s2 (sub n.a 1 q1 (by decide) (Nat.le_trans (brk_ge _ _ _) s3)) (sub n.b 2 q2 (by decide) (Nat.le_trans (brk_ge _ _ _) s2)) (txt c hc5)
    · rw [if_neg h2] at hsz ⊢
      by_cases h3 : (c : Int) = 110
      · rw [if_pos h3] at hsz ⊢
        have q1 := w3 (by unfold isUn; rw [hc]; simp [h3])
        obtain ⟨s1, s2⟩ := size_parts hsz
        exact form_neg L k g cap w n c _ _ hL hk hrow hn hc (by omega) s2 s1 (sub n.a 2 q1 (by decide) (Nat.le_trans (brk_ge _ _ _) s2)) (txt 8722 (by decide))
      · rw [if_neg h3] at hsz ⊢
        by_cases h4 : (c : Int) = 178 ∨ (c : Int) = 8242
        · rw [if_pos h4] at hsz ⊢
          have q1 := w3 (by unfold isUn; rw [hc]; rcases h4 with e | e <;> simp [e])
          obtain ⟨s1, s2⟩ := size_parts hsz
          exact form_mark L k g cap w n c _ _ hL hk hrow hn hc (by omega) s1 s2 (sub n.a 3 q1 (by decide) (Nat.le_trans (brk_ge _ _ _) s1)) (txt c hc5)
        · rw [if_neg h4] at hsz ⊢
          by_cases h5 : (c : Int) = 48
          · rw [if_pos h5]
            exact form_num L k g cap w n c hL hk hrow hn hc (by omega) rfl
          · rw [if_neg h5]
            exact form_leaf L k g cap w n c hL hk hrow hn hc (by omega) rfl
theorem form_all : ∀ f, CForm f ∧ CIn f := by
  intro f
  induction f with
  | zero =>
    refine ⟨?_, ?_⟩
    · intro L k g cap w _ _ _ h; omega
    · intro L k g cap least w _ _ _ _ h; omega
  | succ f ih =>
    have := form_step f ih.2
    exact ⟨this, in_step (f + 1) this⟩
end Go.Proofs.Ytodabmkcihafhaa
