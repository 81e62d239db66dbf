import Derived.Laws.BytesArg
import Derived.Lib.QuietBelow
import Derived.Test.YtodabmkcihafhaaGreatDoorK3
import Derived.Test.YtodabmkcihafhaaGreatDoorK1
import Derived.Test.YtodabmkcihafhaaGreatDoorK4

/- The document's form of a list of nodes: rank, Text, in, form. -/
namespace Go.Proofs.YtodabmkcihafhaaGreatDoor
open Go.RowKit
set_option linter.unusedVariables false

theorem ret_i {a b : Int} (h : a = b) : Ending.returned (.int .i64 a) = .returned (.int .i64 b) := by rw [h]
def nodeV (n : Nd) : Value := .agg #[.int .i64 n.op, .int .i64 n.a, .int .i64 n.b, .int .i64 n.num, .int .i64 n.den, .string n.text, .int .i64 n.pl]

set_option maxHeartbeats 1000000 in
set_option maxRecDepth 1000000 in
theorem rank_any (n : Nd) (w : World) :
    Calls Tryz.prog 140 #[nodeV n] w fun e w' => e = .returned (.int .i64 (rankP n.op)) ∧ ∃ o, w' = w.alloc o := by
  unfold nodeV
  go_enter Tryz.func140, Tryz.ntmps140
  go_wp2
  all_goals
    go_ret
    refine ⟨ret_i ?_, _, rfl⟩
    unfold rankP
    simp_all

theorem cv1 (w : World) (a : Int) : (convert 95 9 (.slice (some ⟨w.heap.size, 0, none⟩) 1 1)).run Tryz.prog (w.alloc (.cells #[.int .u8 a] 5)) = .ok (.string (strOfNums [a])) (w.alloc (.cells #[.int .u8 a] 5)) :=
  run_convert_bytes_arg _ _ 5 Tryz.underlying95 Tryz.underlying5 w.heap.size 0 1 1 [a] rfl (fun i hi => by
    obtain rfl : i = 0 := by omega
    simp) _ Tryz.underlying9
theorem cv2 (w : World) (a b : Int) : (convert 95 9 (.slice (some ⟨w.heap.size, 0, none⟩) 2 2)).run Tryz.prog (w.alloc (.cells #[.int .u8 a, .int .u8 b] 5)) = .ok (.string (strOfNums [a, b])) (w.alloc (.cells #[.int .u8 a, .int .u8 b] 5)) :=
  run_convert_bytes_arg _ _ 5 Tryz.underlying95 Tryz.underlying5 w.heap.size 0 2 2 [a, b] rfl (fun i hi => by
    obtain rfl | rfl : i = 0 ∨ i = 1 := by omega
    all_goals simp) _ Tryz.underlying9
theorem cv3 (w : World) (a b c : Int) : (convert 95 9 (.slice (some ⟨w.heap.size, 0, none⟩) 3 3)).run Tryz.prog (w.alloc (.cells #[.int .u8 a, .int .u8 b, .int .u8 c] 5)) = .ok (.string (strOfNums [a, b, c])) (w.alloc (.cells #[.int .u8 a, .int .u8 b, .int .u8 c] 5)) :=
  run_convert_bytes_arg _ _ 5 Tryz.underlying95 Tryz.underlying5 w.heap.size 0 3 3 [a, b, c] rfl (fun i hi => by
    obtain rfl | rfl | rfl : i = 0 ∨ i = 1 ∨ i = 2 := by omega
    all_goals simp) _ Tryz.underlying9
theorem ret_s {a b : ByteArray} (h : a = b) : Ending.returned (.string a) = .returned (.string b) := by rw [h]
theorem enc1 (c : Nat) (h : c < 128) : strOfNums [(c : Int)] = Utf8.encode c := by
  have v : Utf8.valid c = true := by simp [Utf8.valid]; omega
  simp [Utf8.encode, v, h, strOfNums]
theorem enc2 (c : Nat) (h : ¬ c < 128) (h2 : c < 2048) : strOfNums [192 + (c : Int) / 64, 128 + (c : Int) % 64] = Utf8.encode c := by
  have v : Utf8.valid c = true := by simp [Utf8.valid]; omega
  have e1 : (192 + (c : Int) / 64).toNat = 192 + c / 64 := by omega
  have e2 : (128 + (c : Int) % 64).toNat = 128 + c % 64 := by omega
  simp [Utf8.encode, v, h, h2, strOfNums, e1, e2]
theorem enc3 (c : Nat) (h : ¬ c < 2048) (h2 : c < 55296) : strOfNums [224 + (c : Int) / 4096, 128 + (c : Int) / 64 % 64, 128 + (c : Int) % 64] = Utf8.encode c := by
  have v : Utf8.valid c = true := by simp [Utf8.valid]; omega
  have e1 : (224 + (c : Int) / 4096).toNat = 224 + c / 4096 := by omega
  have e2 : (128 + (c : Int) / 64 % 64).toNat = 128 + c / 64 % 64 := by omega
  have e3 : (128 + (c : Int) % 64).toNat = 128 + c % 64 := by omega
  simp [Utf8.encode, v, h, show ¬ c < 128 by omega, show c < 65536 by omega, strOfNums, e1, e2, e3]

set_option maxHeartbeats 1000000 in
set_option maxRecDepth 1000000 in
theorem text_any (c : Nat) (w : World) (hc : c < 55296) :
    Calls Tryz.prog 21 #[.int .i64 c] w fun e w' => e = .returned (.string (Utf8.encode c)) ∧ ∃ o, w' = w.alloc o := by
  by_cases h1 : c < 128
  · have HE : Hid (strOfNums [(c : Int)] = Utf8.encode c) := enc1 c h1
    have k1 := cv1 w c
    go_enter Tryz.func21, Tryz.ntmps21
    go_wp2
    go_ret
    exact ⟨ret_s HE.out, _, rfl⟩
  · by_cases h2 : c < 2048
    · have HE : Hid (strOfNums [192 + (c : Int) / 64, 128 + (c : Int) % 64] = Utf8.encode c) := enc2 c h1 h2
      have k1 := cv2 w (192 + (c : Int) / 64) (128 + (c : Int) % 64)
      go_enter Tryz.func21, Tryz.ntmps21
      go_wp2
      go_ret
      exact ⟨ret_s HE.out, _, rfl⟩
    · have HE : Hid (strOfNums [224 + (c : Int) / 4096, 128 + (c : Int) / 64 % 64, 128 + (c : Int) % 64] = Utf8.encode c) := enc3 c h2 hc
      have k1 := cv3 w (224 + (c : Int) / 4096) (128 + (c : Int) / 64 % 64) (128 + (c : Int) % 64)
      go_enter Tryz.func21, Tryz.ntmps21
      go_wp2
      go_ret
      exact ⟨ret_s HE.out, _, rfl⟩
end Go.Proofs.YtodabmkcihafhaaGreatDoor

/- The document's form: in and form, walked. -/
namespace Go.Proofs.YtodabmkcihafhaaGreatDoor
open Go.RowKit Go.Sort
set_option linter.unusedVariables false

def NRow (w : World) (g cap : Nat) (L : List Nd) : Prop := w.ownsRow 0 137 7 (.slice (some ⟨g, 0, none⟩) L.length cap) L.length (ndCells L)
theorem NRow.below {w w' : World} {g cap : Nat} {L : List Nd} (h : NRow w g cap L) (hb : Below w.heap.size w w') : NRow w' g cap L := by
  refine ⟨h.1, ?_⟩
  rcases h.2 with h2 | ⟨g', cap', cur, hv, hg, hh, r⟩
  · exact Or.inl h2
  · exact Or.inr ⟨g', cap', cur, hv, hg, by rw [hb.block g' (Array.getElem?_eq_some_iff.1 hh).1]; exact hh, r⟩
theorem ndCells_get : ∀ (L : List Nd) (k t : Nat) (n : Nd), L[k]? = some n → t < 7 → (ndCells L)[7 * k + t]? = n.cells[t]? := by
  intro L
  induction L with
  | nil => intro k t n h; simp at h
  | cons m r ih =>
    intro k t n h ht
    have hc : m.cells.length = 7 := rfl
    have e : ndCells (m :: r) = m.cells ++ ndCells r := by simp [ndCells]
    rw [e]
    cases k with
    | zero =>
      simp at h
      subst h
      rw [List.getElem?_append_left (by omega)]
      simp
    | succ k =>
      simp at h
      rw [List.getElem?_append_right (by omega), hc, show 7 * (k + 1) + t - 7 = 7 * k + t by omega]
      exact ih k t n h ht
theorem NRow.cell {w : World} {g cap : Nat} {L : List Nd} (h : NRow w g cap L) {k : Nat} {n : Nd} (hk : L[k]? = some n) (t : Nat) (ht : t < 7) : w.cell? ⟨g, 7 * k + t, none⟩ = n.cells[t]? := by
  have hlt : k < L.length := (List.getElem?_eq_some_iff.1 hk).1
  rw [World.ownsRow.cellAt h (7 * k + t) (by omega)]
  exact ndCells_get L k t n hk ht
theorem NRow.le {w : World} {g cap : Nat} {L : List Nd} (h : NRow w g cap L) : L.length ≤ cap ∧ cap ≤ maxLen := by
  rcases h.2 with ⟨h2, _⟩ | ⟨g', cap', cur, hv, hg, hh, r1, r2, _⟩
  · cases h2
  · injection hv with _ _ e; subst e; exact ⟨r1, r2⟩

theorem NRow.cells7 {w : World} {g cap : Nat} {L : List Nd} (h : NRow w g cap L) {k : Nat} {n : Nd} (hk : L[k]? = some n) :
    w.cell? ⟨g, k * 7, none⟩ = some (.int .i64 n.op) ∧ w.cell? ⟨g, k * 7 + 1, none⟩ = some (.int .i64 n.a) ∧ w.cell? ⟨g, k * 7 + 2, none⟩ = some (.int .i64 n.b) ∧ w.cell? ⟨g, k * 7 + 3, none⟩ = some (.int .i64 n.num) ∧
    w.cell? ⟨g, k * 7 + 4, none⟩ = some (.int .i64 n.den) ∧ w.cell? ⟨g, k * 7 + 5, none⟩ = some (.string n.text) ∧ w.cell? ⟨g, k * 7 + 6, none⟩ = some (.int .i64 n.pl) := by
  rw [Nat.mul_comm k 7]
  exact ⟨h.cell hk 0 (by decide), h.cell hk 1 (by decide), h.cell hk 2 (by decide), h.cell hk 3 (by decide), h.cell hk 4 (by decide), h.cell hk 5 (by decide), h.cell hk 6 (by decide)⟩
theorem rank_as (n : Nd) (w : World) (V : Value) (hV : V = .agg #[.int .i64 n.op, .int .i64 n.a, .int .i64 n.b, .int .i64 n.num, .int .i64 n.den, .string n.text, .int .i64 n.pl]) :
    Calls Tryz.prog 140 #[V] w fun e w' => e = .returned (.int .i64 (rankP n.op)) ∧ ∃ o, w' = w.alloc o := by
  subst hV
  exact rank_any n w
theorem rankP_le (op : Int) : rankP op ≤ 3 := by
  unfold rankP
  repeat' split
  all_goals omega

def CForm (f : Nat) : Prop := ∀ (L : List Nd) (k g cap : Nat) (w : World), WfL L → k < L.length → L.length ≤ 1000 → k < f → (fm L k).size ≤ 2000 → NRow w g cap L →
  Calls Tryz.prog 74 #[.slice (some ⟨g, 0, none⟩) L.length cap, .int .i64 k] w fun e w' => e = .returned (.string (fm L k)) ∧ Below w.heap.size w w'
def CIn (f : Nat) : Prop := ∀ (L : List Nd) (k g cap least : Nat) (w : World), WfL L → k < L.length → L.length ≤ 1000 → least ≤ 3 → k < f → (fm L k).size ≤ 2000 → NRow w g cap L →
  Calls Tryz.prog 111 #[.slice (some ⟨g, 0, none⟩) L.length cap, .int .i64 k, .int .i64 least] w fun e w' => e = .returned (.string (brk (rankP (opAt L k)) least (fm L k))) ∧ Below w.heap.size w w'

set_option maxHeartbeats 2000000 in
set_option maxRecDepth 100000 in
theorem in_step (f : Nat) (ih : CForm f) : CIn f := by
  intro L k g cap least w hwf hk hL hl hkf hsz hrow
  obtain ⟨n, hn⟩ : ∃ n, L[k]? = some n := ⟨L[k], List.getElem?_eq_getElem hk⟩
  have Hn : Hid (L[k]? = some n) := hn
  have Hop : Hid (opAt L k = n.op) := by show opAt L k = _; unfold opAt; rw [hn]
  clear hn
  have hcap := hrow.le
  go_enter Tryz.func111, Tryz.ntmps111
  go_wp2_with fail
  refine (ih L k g cap _ hwf hk hL hkf hsz hrow).mono ?_
  rintro e w1 ⟨rfl, hb1⟩
  have hrow1 := hrow.below hb1
  obtain ⟨d0, d1, d2, d3, d4, d5, d6⟩ := hrow1.cells7 Hn.out
  obtain ⟨F, hF⟩ : ∃ F, fm L k = F := ⟨_, rfl⟩
  rw [hF] at hsz
  have HF : Hid (fm L k = F) := hF
  rw [hF]
  clear hrow hF
  go_wp2_with fail
  refine (rank_as n _ _ rfl).mono ?_
  rintro e w2 ⟨rfl, o2, rfl⟩
  have hr3 := rankP_le n.op
  have HO := Hop.out
  by_cases hlt : rankP n.op < least
  · have q1 : ((rankP n.op : Nat) : Int) < (least : Int) := by omega
    have z1 : (ByteArray.mk #[40]).size = 1 := rfl
    clear d0 d1 d2 d3 d4 d5 d6 HO
    go_wp2_with fail
    go_ret
    rw [Hop.out, HF.out]
    unfold brk
    rw [if_pos hlt]
    exact ⟨rfl, hb1.trans ((Below.refl _ _).alloc (by have := hb1.size; omega) _)⟩
  · have q1 : ¬ ((rankP n.op : Nat) : Int) < (least : Int) := by omega
    clear d0 d1 d2 d3 d4 d5 d6 HO
    go_wp2_with fail
    go_ret
    rw [Hop.out, HF.out]
    unfold brk
    rw [if_neg hlt]
    exact ⟨rfl, hb1.trans ((Below.refl _ _).alloc (by have := hb1.size; omega) _)⟩

theorem NRow.alloc {w : World} {g cap : Nat} {L : List Nd} (h : NRow w g cap L) (o : Obj) : NRow (w.alloc o) g cap L := World.ownsRow.alloc h o
theorem below_alloc (w : World) (o : Obj) : Below w.heap.size w (w.alloc o) := (Below.refl _ _).alloc (Nat.le_refl _) o

/-- The sub-forms and the sign's text, each met in a world of the class. -/
theorem c_in (f : Nat) (ih : CIn f) (L : List Nd) (k g cap least : Nat) (W : World) (hwf : WfL L) (hk : k < L.length) (hL : L.length ≤ 1000) (hl : least ≤ 3) (hkf : k < f) (hsz : (fm L k).size ≤ 2000) (hrow : NRow W g cap L) :
    ∀ d os, Calls Tryz.prog 111 #[.slice (some ⟨g, 0, none⟩) L.length cap, .int .i64 k, .int .i64 least] (grow (redrawn W d) os) fun e w'' => e = .returned (.string (brk (rankP (opAt L k)) least (fm L k))) ∧ ∃ p : Regrown, w'' = grow (redrawn W p.d) p.os :=
  fun d os => Calls.regrown_of (ih L k g cap least _ hwf hk hL hl hkf hsz (hrow.below (below_regrown W d os)))
theorem c_text (c : Nat) (W : World) (hc : c < 55296) : ∀ d os, Calls Tryz.prog 21 #[.int .i64 c] (grow (redrawn W d) os) fun e w'' => e = .returned (.string (Utf8.encode c)) ∧ ∃ p : Regrown, w'' = grow (redrawn W p.d) p.os :=
  fun d os => Calls.regrown_of ((text_any c _ hc).mono fun e w' ⟨he, o, ho⟩ => ⟨he, by rw [ho]; exact below_alloc _ _⟩)

def SubC (L : List Nd) (g cap a least : Nat) (A : ByteArray) : Prop := ∀ W, NRow W g cap L → ∀ d os, Calls Tryz.prog 111 #[.slice (some ⟨g, 0, none⟩) L.length cap, .int .i64 a, .int .i64 least] (grow (redrawn W d) os) fun e w'' => e = .returned (.string A) ∧ ∃ p : Regrown, w'' = grow (redrawn W p.d) p.os
def TxtC (c : Nat) (T : ByteArray) : Prop := ∀ W, ∀ d os, Calls Tryz.prog 21 #[.int .i64 c] (grow (redrawn W d) os) fun e w'' => e = .returned (.string T) ∧ ∃ p : Regrown, w'' = grow (redrawn W p.d) p.os


set_option maxHeartbeats 2000000 in
set_option maxRecDepth 100000 in
theorem form_sum (L : List Nd) (k g cap : Nat) (w : World) (n : Nd) (c : Nat) (A T B : ByteArray) (hL : L.length ≤ 1000) (hk : k < L.length) (hrow : NRow w g cap L) (hn : L[k]? = some n) (hc : n.op = c) (hcs : c = 43 ∨ c = 8722)
    (hA : A.size ≤ 2000) (hT : T.size ≤ 2000) (hB : B.size ≤ 2000) (cA : SubC L g cap n.a 0 A) (cB : SubC L g cap n.b 1 B) (cT : TxtC c T) :
    Calls Tryz.prog 74 #[.slice (some ⟨g, 0, none⟩) L.length cap, .int .i64 k] w fun e w' => e = .returned (.string (A ++ T ++ B)) ∧ Below w.heap.size w w' := by
  have hcap := hrow.le
  obtain ⟨d0, d1, d2, d3, d4, d5, d6⟩ := hrow.cells7 hn
  rw [hc] at d0
  clear hn hc
  generalize n.a = a at *
  generalize n.b = b at *
  generalize n.num = num at *
  generalize n.den = den at *
  generalize n.text = text at *
  generalize n.pl = pl at *
  rcases hcs with hcs | hcs
  · have q43 : ((c : Int) == 43) = true := by simp; omega
    clear hcs
    go_enter Tryz.func74, Tryz.ntmps74
    go_wp2_with fail
    have hNR := hrow.alloc (.cells #[.int .i64 c, .int .i64 a, .int .i64 b, .int .i64 num, .int .i64 den, .string text, .int .i64 pl] 137)
    have hB0 := below_alloc w (.cells #[.int .i64 c, .int .i64 a, .int .i64 b, .int .i64 num, .int .i64 den, .string text, .int .i64 pl] 137)
    have x0 : (w.alloc (.cells #[.int .i64 c, .int .i64 a, .int .i64 b, .int .i64 num, .int .i64 den, .string text, .int .i64 pl] 137)).cell? ⟨w.heap.size, 0, none⟩ = some (.int .i64 c) := by simp
    have x1 : (w.alloc (.cells #[.int .i64 c, .int .i64 a, .int .i64 b, .int .i64 num, .int .i64 den, .string text, .int .i64 pl] 137)).cell? ⟨w.heap.size, 1, none⟩ = some (.int .i64 a) := by simp
    have x2 : (w.alloc (.cells #[.int .i64 c, .int .i64 a, .int .i64 b, .int .i64 num, .int .i64 den, .string text, .int .i64 pl] 137)).cell? ⟨w.heap.size, 2, none⟩ = some (.int .i64 b) := by simp
    generalize w.alloc (.cells #[.int .i64 c, .int .i64 a, .int .i64 b, .int .i64 num, .int .i64 den, .string text, .int .i64 pl] 137) = W at *
    have y0 := cell_regrown x0
    have y1 := cell_regrown x1
    have y2 := cell_regrown x2
    have n1 : ¬ 9223372036854775807 < A.size + T.size := by omega
    have n2 : ¬ 9223372036854775807 < A.size + T.size + B.size := by omega
    clear d0 d1 d2 d3 d4 d5 d6 x0 x1 x2
    refine wp_region_quiet_below (by kernel_rfl) (by kernel_rfl) ?_
    repeat (quiet_step (first | (go_at_call_of 111 a; exact cA W hNR _ _) | (go_at_call_of 111 b; exact cB W hNR _ _) | (go_at_call 21; exact cT W _ _)))
    refine wpQuiet_nil ?_
    intro _ hw'
    obtain ⟨⟨dq, osq⟩, hw''⟩ := hw'
    subst hw''
    go_wp2_with fail
    go_ret
    exact ⟨rfl, hB0.trans ((below_regrown W dq osq).mono hB0.size)⟩
  · have q43 : ((c : Int) == 43) = false := by simp; omega
    have q8722 : ((c : Int) == 8722) = true := by simp; omega
    clear hcs
    go_enter Tryz.func74, Tryz.ntmps74
    go_wp2_with fail
    have hNR := hrow.alloc (.cells #[.int .i64 c, .int .i64 a, .int .i64 b, .int .i64 num, .int .i64 den, .string text, .int .i64 pl] 137)
    have hB0 := below_alloc w (.cells #[.int .i64 c, .int .i64 a, .int .i64 b, .int .i64 num, .int .i64 den, .string text, .int .i64 pl] 137)
    have x0 : (w.alloc (.cells #[.int .i64 c, .int .i64 a, .int .i64 b, .int .i64 num, .int .i64 den, .string text, .int .i64 pl] 137)).cell? ⟨w.heap.size, 0, none⟩ = some (.int .i64 c) := by simp
    have x1 : (w.alloc (.cells #[.int .i64 c, .int .i64 a, .int .i64 b, .int .i64 num, .int .i64 den, .string text, .int .i64 pl] 137)).cell? ⟨w.heap.size, 1, none⟩ = some (.int .i64 a) := by simp
    have x2 : (w.alloc (.cells #[.int .i64 c, .int .i64 a, .int .i64 b, .int .i64 num, .int .i64 den, .string text, .int .i64 pl] 137)).cell? ⟨w.heap.size, 2, none⟩ = some (.int .i64 b) := by simp
    generalize w.alloc (.cells #[.int .i64 c, .int .i64 a, .int .i64 b, .int .i64 num, .int .i64 den, .string text, .int .i64 pl] 137) = W at *
    have y0 := cell_regrown x0
    have y1 := cell_regrown x1
    have y2 := cell_regrown x2
    have n1 : ¬ 9223372036854775807 < A.size + T.size := by omega
    have n2 : ¬ 9223372036854775807 < A.size + T.size + B.size := by omega
    clear d0 d1 d2 d3 d4 d5 d6 x0 x1 x2
    refine wp_region_quiet_below (by kernel_rfl) (by kernel_rfl) ?_
    repeat (quiet_step (first | (go_at_call_of 111 a; exact cA W hNR _ _) | (go_at_call_of 111 b; exact cB W hNR _ _) | (go_at_call 21; exact cT W _ _)))
    refine wpQuiet_nil ?_
    intro _ hw'
    obtain ⟨⟨dq, osq⟩, hw''⟩ := hw'
    subst hw''
    go_wp2_with fail
    go_ret
    exact ⟨rfl, hB0.trans ((below_regrown W dq osq).mono hB0.size)⟩

set_option maxHeartbeats 2000000 in
set_option maxRecDepth 100000 in
theorem form_prod (L : List Nd) (k g cap : Nat) (w : World) (n : Nd) (c : Nat) (A T B : ByteArray) (hL : L.length ≤ 1000) (hk : k < L.length) (hrow : NRow w g cap L) (hn : L[k]? = some n) (hc : n.op = c) (hcs : c = 215 ∨ c = 247)
    (hA : A.size ≤ 2000) (hT : T.size ≤ 2000) (hB : B.size ≤ 2000) (cA : SubC L g cap n.a 1 A) (cB : SubC L g cap n.b 2 B) (cT : TxtC c T) :
    Calls Tryz.prog 74 #[.slice (some ⟨g, 0, none⟩) L.length cap, .int .i64 k] w fun e w' => e = .returned (.string (A ++ T ++ B)) ∧ Below w.heap.size w w' := by
  have hcap := hrow.le
  obtain ⟨d0, d1, d2, d3, d4, d5, d6⟩ := hrow.cells7 hn
  rw [hc] at d0
  clear hn hc
  generalize n.a = a at *
  generalize n.b = b at *
  generalize n.num = num at *
  generalize n.den = den at *
  generalize n.text = text at *
  generalize n.pl = pl at *
  rcases hcs with hcs | hcs
  · have q43 : ((c : Int) == 43) = false := by simp; omega
    have q8722 : ((c : Int) == 8722) = false := by simp; omega
    have q215 : ((c : Int) == 215) = true := by simp; omega
    clear hcs
    go_enter Tryz.func74, Tryz.ntmps74
    go_wp2_with fail
    have hNR := hrow.alloc (.cells #[.int .i64 c, .int .i64 a, .int .i64 b, .int .i64 num, .int .i64 den, .string text, .int .i64 pl] 137)
    have hB0 := below_alloc w (.cells #[.int .i64 c, .int .i64 a, .int .i64 b, .int .i64 num, .int .i64 den, .string text, .int .i64 pl] 137)
    have x0 : (w.alloc (.cells #[.int .i64 c, .int .i64 a, .int .i64 b, .int .i64 num, .int .i64 den, .string text, .int .i64 pl] 137)).cell? ⟨w.heap.size, 0, none⟩ = some (.int .i64 c) := by simp
    have x1 : (w.alloc (.cells #[.int .i64 c, .int .i64 a, .int .i64 b, .int .i64 num, .int .i64 den, .string text, .int .i64 pl] 137)).cell? ⟨w.heap.size, 1, none⟩ = some (.int .i64 a) := by simp
    have x2 : (w.alloc (.cells #[.int .i64 c, .int .i64 a, .int .i64 b, .int .i64 num, .int .i64 den, .string text, .int .i64 pl] 137)).cell? ⟨w.heap.size, 2, none⟩ = some (.int .i64 b) := by simp
    generalize w.alloc (.cells #[.int .i64 c, .int .i64 a, .int .i64 b, .int .i64 num, .int .i64 den, .string text, .int .i64 pl] 137) = W at *
    have y0 := cell_regrown x0
    have y1 := cell_regrown x1
    have y2 := cell_regrown x2
    have n1 : ¬ 9223372036854775807 < A.size + T.size := by omega
    have n2 : ¬ 9223372036854775807 < A.size + T.size + B.size := by omega
    clear d0 d1 d2 d3 d4 d5 d6 x0 x1 x2
    refine wp_region_quiet_below (by kernel_rfl) (by kernel_rfl) ?_
    repeat (quiet_step (first | (go_at_call_of 111 a; exact cA W hNR _ _) | (go_at_call_of 111 b; exact cB W hNR _ _) | (go_at_call 21; exact cT W _ _)))
    refine wpQuiet_nil ?_
    intro _ hw'
    obtain ⟨⟨dq, osq⟩, hw''⟩ := hw'
    subst hw''
    go_wp2_with fail
    go_ret
    exact ⟨rfl, hB0.trans ((below_regrown W dq osq).mono hB0.size)⟩
  · have q43 : ((c : Int) == 43) = false := by simp; omega
    have q8722 : ((c : Int) == 8722) = false := by simp; omega
    have q215 : ((c : Int) == 215) = false := by simp; omega
    have q247 : ((c : Int) == 247) = true := by simp; omega
    clear hcs
    go_enter Tryz.func74, Tryz.ntmps74
    go_wp2_with fail
    have hNR := hrow.alloc (.cells #[.int .i64 c, .int .i64 a, .int .i64 b, .int .i64 num, .int .i64 den, .string text, .int .i64 pl] 137)
    have hB0 := below_alloc w (.cells #[.int .i64 c, .int .i64 a, .int .i64 b, .int .i64 num, .int .i64 den, .string text, .int .i64 pl] 137)
    have x0 : (w.alloc (.cells #[.int .i64 c, .int .i64 a, .int .i64 b, .int .i64 num, .int .i64 den, .string text, .int .i64 pl] 137)).cell? ⟨w.heap.size, 0, none⟩ = some (.int .i64 c) := by simp
    have x1 : (w.alloc (.cells #[.int .i64 c, .int .i64 a, .int .i64 b, .int .i64 num, .int .i64 den, .string text, .int .i64 pl] 137)).cell? ⟨w.heap.size, 1, none⟩ = some (.int .i64 a) := by simp
    have x2 : (w.alloc (.cells #[.int .i64 c, .int .i64 a, .int .i64 b, .int .i64 num, .int .i64 den, .string text, .int .i64 pl] 137)).cell? ⟨w.heap.size, 2, none⟩ = some (.int .i64 b) := by simp
    generalize w.alloc (.cells #[.int .i64 c, .int .i64 a, .int .i64 b, .int .i64 num, .int .i64 den, .string text, .int .i64 pl] 137) = W at *
    have y0 := cell_regrown x0
    have y1 := cell_regrown x1
    have y2 := cell_regrown x2
    have n1 : ¬ 9223372036854775807 < A.size + T.size := by omega
    have n2 : ¬ 9223372036854775807 < A.size + T.size + B.size := by omega
    clear d0 d1 d2 d3 d4 d5 d6 x0 x1 x2
    refine wp_region_quiet_below (by kernel_rfl) (by kernel_rfl) ?_
    repeat (quiet_step (first | (go_at_call_of 111 a; exact cA W hNR _ _) | (go_at_call_of 111 b; exact cB W hNR _ _) | (go_at_call 21; exact cT W _ _)))
    refine wpQuiet_nil ?_
    intro _ hw'
    obtain ⟨⟨dq, osq⟩, hw''⟩ := hw'
    subst hw''
    go_wp2_with fail
    go_ret
    exact ⟨rfl, hB0.trans ((below_regrown W dq osq).mono hB0.size)⟩

set_option maxHeartbeats 2000000 in
set_option maxRecDepth 100000 in
theorem form_neg (L : List Nd) (k g cap : Nat) (w : World) (n : Nd) (c : Nat) (A T : ByteArray) (hL : L.length ≤ 1000) (hk : k < L.length) (hrow : NRow w g cap L) (hn : L[k]? = some n) (hc : n.op = c) (hcs : c = 110)
    (hA : A.size ≤ 2000) (hT : T.size ≤ 2000) (cA : SubC L g cap n.a 2 A) (cT : TxtC 8722 T) :
    Calls Tryz.prog 74 #[.slice (some ⟨g, 0, none⟩) L.length cap, .int .i64 k] w fun e w' => e = .returned (.string (T ++ A)) ∧ Below w.heap.size w w' := by
  have hcap := hrow.le
  obtain ⟨d0, d1, d2, d3, d4, d5, d6⟩ := hrow.cells7 hn
  rw [hc] at d0
  clear hn hc
  generalize n.a = a at *
  generalize n.b = b at *
  generalize n.num = num at *
  generalize n.den = den at *
  generalize n.text = text at *
  generalize n.pl = pl at *
  · have q43 : ((c : Int) == 43) = false := by simp; omega
    have q8722 : ((c : Int) == 8722) = false := by simp; omega
    have q215 : ((c : Int) == 215) = false := by simp; omega
    have q247 : ((c : Int) == 247) = false := by simp; omega
    have q110 : ((c : Int) == 110) = true := by simp; omega
    clear hcs
    go_enter Tryz.func74, Tryz.ntmps74
    go_wp2_with fail
    have hNR := hrow.alloc (.cells #[.int .i64 c, .int .i64 a, .int .i64 b, .int .i64 num, .int .i64 den, .string text, .int .i64 pl] 137)
    have hB0 := below_alloc w (.cells #[.int .i64 c, .int .i64 a, .int .i64 b, .int .i64 num, .int .i64 den, .string text, .int .i64 pl] 137)
    have x0 : (w.alloc (.cells #[.int .i64 c, .int .i64 a, .int .i64 b, .int .i64 num, .int .i64 den, .string text, .int .i64 pl] 137)).cell? ⟨w.heap.size, 0, none⟩ = some (.int .i64 c) := by simp
    have x1 : (w.alloc (.cells #[.int .i64 c, .int .i64 a, .int .i64 b, .int .i64 num, .int .i64 den, .string text, .int .i64 pl] 137)).cell? ⟨w.heap.size, 1, none⟩ = some (.int .i64 a) := by simp
    have x2 : (w.alloc (.cells #[.int .i64 c, .int .i64 a, .int .i64 b, .int .i64 num, .int .i64 den, .string text, .int .i64 pl] 137)).cell? ⟨w.heap.size, 2, none⟩ = some (.int .i64 b) := by simp
    generalize w.alloc (.cells #[.int .i64 c, .int .i64 a, .int .i64 b, .int .i64 num, .int .i64 den, .string text, .int .i64 pl] 137) = W at *
    have y0 := cell_regrown x0
    have y1 := cell_regrown x1
    have y2 := cell_regrown x2
    have n1 : ¬ 9223372036854775807 < T.size + A.size := by omega
    clear d0 d1 d2 d3 d4 d5 d6 x0 x1 x2
    refine wp_region_quiet_below (by kernel_rfl) (by kernel_rfl) ?_
    repeat (quiet_step (first | (go_at_call_of 111 a; exact cA W hNR _ _) | (go_at_call 21; exact cT W _ _)))
    refine wpQuiet_nil ?_
    intro _ hw'
    obtain ⟨⟨dq, osq⟩, hw''⟩ := hw'
    subst hw''
    go_wp2_with fail
    go_ret
    exact ⟨rfl, hB0.trans ((below_regrown W dq osq).mono hB0.size)⟩

set_option maxHeartbeats 2000000 in
set_option maxRecDepth 100000 in
theorem form_mark (L : List Nd) (k g cap : Nat) (w : World) (n : Nd) (c : Nat) (A T : ByteArray) (hL : L.length ≤ 1000) (hk : k < L.length) (hrow : NRow w g cap L) (hn : L[k]? = some n) (hc : n.op = c) (hcs : c = 178 ∨ c = 8242)
    (hA : A.size ≤ 2000) (hT : T.size ≤ 2000) (cA : SubC L g cap n.a 3 A) (cT : TxtC c T) :
    Calls Tryz.prog 74 #[.slice (some ⟨g, 0, none⟩) L.length cap, .int .i64 k] w fun e w' => e = .returned (.string (A ++ T)) ∧ Below w.heap.size w w' := by
  have hcap := hrow.le
  obtain ⟨d0, d1, d2, d3, d4, d5, d6⟩ := hrow.cells7 hn
  rw [hc] at d0
  clear hn hc
  generalize n.a = a at *
  generalize n.b = b at *
  generalize n.num = num at *
  generalize n.den = den at *
  generalize n.text = text at *
  generalize n.pl = pl at *
  rcases hcs with hcs | hcs
  · have q43 : ((c : Int) == 43) = false := by simp; omega
    have q8722 : ((c : Int) == 8722) = false := by simp; omega
    have q215 : ((c : Int) == 215) = false := by simp; omega
    have q247 : ((c : Int) == 247) = false := by simp; omega
    have q110 : ((c : Int) == 110) = false := by simp; omega
    have q178 : ((c : Int) == 178) = true := by simp; omega
    clear hcs
    go_enter Tryz.func74, Tryz.ntmps74
    go_wp2_with fail
    have hNR := hrow.alloc (.cells #[.int .i64 c, .int .i64 a, .int .i64 b, .int .i64 num, .int .i64 den, .string text, .int .i64 pl] 137)
    have hB0 := below_alloc w (.cells #[.int .i64 c, .int .i64 a, .int .i64 b, .int .i64 num, .int .i64 den, .string text, .int .i64 pl] 137)
    have x0 : (w.alloc (.cells #[.int .i64 c, .int .i64 a, .int .i64 b, .int .i64 num, .int .i64 den, .string text, .int .i64 pl] 137)).cell? ⟨w.heap.size, 0, none⟩ = some (.int .i64 c) := by simp
    have x1 : (w.alloc (.cells #[.int .i64 c, .int .i64 a, .int .i64 b, .int .i64 num, .int .i64 den, .string text, .int .i64 pl] 137)).cell? ⟨w.heap.size, 1, none⟩ = some (.int .i64 a) := by simp
    have x2 : (w.alloc (.cells #[.int .i64 c, .int .i64 a, .int .i64 b, .int .i64 num, .int .i64 den, .string text, .int .i64 pl] 137)).cell? ⟨w.heap.size, 2, none⟩ = some (.int .i64 b) := by simp
    generalize w.alloc (.cells #[.int .i64 c, .int .i64 a, .int .i64 b, .int .i64 num, .int .i64 den, .string text, .int .i64 pl] 137) = W at *
    have y0 := cell_regrown x0
    have y1 := cell_regrown x1
    have y2 := cell_regrown x2
    have n1 : ¬ 9223372036854775807 < A.size + T.size := by omega
    clear d0 d1 d2 d3 d4 d5 d6 x0 x1 x2
    refine wp_region_quiet_below (by kernel_rfl) (by kernel_rfl) ?_
    repeat (quiet_step (first | (go_at_call_of 111 a; exact cA W hNR _ _) | (go_at_call 21; exact cT W _ _)))
    refine wpQuiet_nil ?_
    intro _ hw'
    obtain ⟨⟨dq, osq⟩, hw''⟩ := hw'
    subst hw''
    go_wp2_with fail
    go_ret
    exact ⟨rfl, hB0.trans ((below_regrown W dq osq).mono hB0.size)⟩
  · have q43 : ((c : Int) == 43) = false := by simp; omega
    have q8722 : ((c : Int) == 8722) = false := by simp; omega
    have q215 : ((c : Int) == 215) = false := by simp; omega
    have q247 : ((c : Int) == 247) = false := by simp; omega
    have q110 : ((c : Int) == 110) = false := by simp; omega
    have q178 : ((c : Int) == 178) = false := by simp; omega
    have q8242 : ((c : Int) == 8242) = true := by simp; omega
    clear hcs
    go_enter Tryz.func74, Tryz.ntmps74
    go_wp2_with fail
    have hNR := hrow.alloc (.cells #[.int .i64 c, .int .i64 a, .int .i64 b, .int .i64 num, .int .i64 den, .string text, .int .i64 pl] 137)
    have hB0 := below_alloc w (.cells #[.int .i64 c, .int .i64 a, .int .i64 b, .int .i64 num, .int .i64 den, .string text, .int .i64 pl] 137)
    have x0 : (w.alloc (.cells #[.int .i64 c, .int .i64 a, .int .i64 b, .int .i64 num, .int .i64 den, .string text, .int .i64 pl] 137)).cell? ⟨w.heap.size, 0, none⟩ = some (.int .i64 c) := by simp
    have x1 : (w.alloc (.cells #[.int .i64 c, .int .i64 a, .int .i64 b, .int .i64 num, .int .i64 den, .string text, .int .i64 pl] 137)).cell? ⟨w.heap.size, 1, none⟩ = some (.int .i64 a) := by simp
    have x2 : (w.alloc (.cells #[.int .i64 c, .int .i64 a, .int .i64 b, .int .i64 num, .int .i64 den, .string text, .int .i64 pl] 137)).cell? ⟨w.heap.size, 2, none⟩ = some (.int .i64 b) := by simp
    generalize w.alloc (.cells #[.int .i64 c, .int .i64 a, .int .i64 b, .int .i64 num, .int .i64 den, .string text, .int .i64 pl] 137) = W at *
    have y0 := cell_regrown x0
    have y1 := cell_regrown x1
    have y2 := cell_regrown x2
    have n1 : ¬ 9223372036854775807 < A.size + T.size := by omega
    clear d0 d1 d2 d3 d4 d5 d6 x0 x1 x2
    refine wp_region_quiet_below (by kernel_rfl) (by kernel_rfl) ?_
    repeat (quiet_step (first | (go_at_call_of 111 a; exact cA W hNR _ _) | (go_at_call 21; exact cT W _ _)))
    refine wpQuiet_nil ?_
    intro _ hw'
    obtain ⟨⟨dq, osq⟩, hw''⟩ := hw'
    subst hw''
    go_wp2_with fail
    go_ret
    exact ⟨rfl, hB0.trans ((below_regrown W dq osq).mono hB0.size)⟩

set_option maxHeartbeats 2000000 in
set_option maxRecDepth 100000 in
theorem form_num (L : List Nd) (k g cap : Nat) (w : World) (n : Nd) (c : Nat)  (hL : L.length ≤ 1000) (hk : k < L.length) (hrow : NRow w g cap L) (hn : L[k]? = some n) (hc : n.op = c) (hcs : c = 48)
    (h0 : 0 = 0) :
    Calls Tryz.prog 74 #[.slice (some ⟨g, 0, none⟩) L.length cap, .int .i64 k] w fun e w' => e = .returned (.string n.text) ∧ Below w.heap.size w w' := by
  have hcap := hrow.le
  obtain ⟨d0, d1, d2, d3, d4, d5, d6⟩ := hrow.cells7 hn
  rw [hc] at d0
  clear hn hc
  generalize n.a = a at *
  generalize n.b = b at *
  generalize n.num = num at *
  generalize n.den = den at *
  generalize n.text = text at *
  generalize n.pl = pl at *
  · have q43 : ((c : Int) == 43) = false := by simp; omega
    have q8722 : ((c : Int) == 8722) = false := by simp; omega
    have q215 : ((c : Int) == 215) = false := by simp; omega
    have q247 : ((c : Int) == 247) = false := by simp; omega
    have q110 : ((c : Int) == 110) = false := by simp; omega
    have q178 : ((c : Int) == 178) = false := by simp; omega
    have q8242 : ((c : Int) == 8242) = false := by simp; omega
    have q48 : ((c : Int) == 48) = true := by simp; omega
    clear hcs
    go_enter Tryz.func74, Tryz.ntmps74
    go_wp2_with fail
    go_ret
    exact ⟨rfl, below_alloc _ _⟩

set_option maxHeartbeats 2000000 in
set_option maxRecDepth 100000 in
theorem form_leaf (L : List Nd) (k g cap : Nat) (w : World) (n : Nd) (c : Nat)  (hL : L.length ≤ 1000) (hk : k < L.length) (hrow : NRow w g cap L) (hn : L[k]? = some n) (hc : n.op = c) (hcs : c < 55296 ∧ c ≠ 43 ∧ c ≠ 8722 ∧ c ≠ 215 ∧ c ≠ 247 ∧ c ≠ 110 ∧ c ≠ 178 ∧ c ≠ 8242 ∧ c ≠ 48)
    (h0 : 0 = 0) :
    Calls Tryz.prog 74 #[.slice (some ⟨g, 0, none⟩) L.length cap, .int .i64 k] w fun e w' => e = .returned (.string (Utf8.encode c)) ∧ Below w.heap.size w w' := by
  have hcap := hrow.le
  obtain ⟨d0, d1, d2, d3, d4, d5, d6⟩ := hrow.cells7 hn
  rw [hc] at d0
  clear hn hc
  generalize n.a = a at *
  generalize n.b = b at *
  generalize n.num = num at *
  generalize n.den = den at *
  generalize n.text = text at *
  generalize n.pl = pl at *
  · have hc5 : c < 55296 := by omega
    have q43 : ((c : Int) == 43) = false := by simp; omega
    have q8722 : ((c : Int) == 8722) = false := by simp; omega
    have q215 : ((c : Int) == 215) = false := by simp; omega
    have q247 : ((c : Int) == 247) = false := by simp; omega
    have q110 : ((c : Int) == 110) = false := by simp; omega
    have q178 : ((c : Int) == 178) = false := by simp; omega
    have q8242 : ((c : Int) == 8242) = false := by simp; omega
    have q48 : ((c : Int) == 48) = false := by simp; omega
    clear hcs
    go_enter Tryz.func74, Tryz.ntmps74
    go_wp2_with fail
    refine (text_any c _ hc5).mono ?_
    rintro e w' ⟨rfl, o, rfl⟩
    go_wp2_with fail
    go_ret
    exact ⟨rfl, (below_alloc w _).trans ((below_alloc _ _).mono (by simp))⟩

theorem size_parts {a b : ByteArray} {N : Nat} (h : (a ++ b).size ≤ N) : a.size ≤ N ∧ b.size ≤ N := by
  rw [ByteArray.size_append] at h
  omega
theorem brk_ge (r l : Nat) (t : ByteArray) : t.size ≤ (brk r l t).size := by
  unfold brk
  split
  · simp only [ByteArray.size_append]; omega
  · omega

theorem form_step (f : Nat) (ih : CIn f) : CForm (f + 1) := by
  intro L k g cap w hwf hk hL hkf hsz hrow
  obtain ⟨n, hn⟩ : ∃ n, L[k]? = some n := ⟨L[k], List.getElem?_eq_getElem hk⟩
  obtain ⟨w0, w1, w2, w3⟩ := hwf k n hn
  obtain ⟨c, hc⟩ := Int.eq_ofNat_of_zero_le w0
  have hfm := fm_eq L k n hwf hn
  have hc5 : c < 55296 := by omega
  have sub : ∀ a least, a < k → least ≤ 3 → (fm L a).size ≤ 2000 → SubC L g cap a least (brk (rankP (opAt L a)) least (fm L a)) := fun a least ha hl hs2 W hW d os =>
    c_in f ih L a g cap least W hwf (by omega) hL hl (by omega) hs2 hW d os
  have txt : ∀ c', c' < 55296 → TxtC c' (Utf8.encode c') := fun c' h W d os => c_text c' W h d os
  unfold nodeF at hfm
  rw [hc] at hfm
  rw [hfm] at hsz ⊢
  by_cases h1 : (c : Int) = 43 ∨ (c : Int) = 8722
  · rw [if_pos h1] at hsz ⊢
    obtain ⟨q1, q2⟩ := w2 (by unfold isBin; rw [hc]; rcases h1 with e | e <;> simp [e])
    obtain ⟨s1, s2⟩ := size_parts hsz
    obtain ⟨s3, s4⟩ := size_parts s1
    exact form_sum L k g cap w n c _ _ _ hL hk hrow hn hc (by omega) s3 s4 s2 (sub n.a 0 q1 (by decide) (Nat.le_trans (brk_ge _ _ _) s3)) (sub n.b 1 q2 (by decide) (Nat.le_trans (brk_ge _ _ _) s2)) (txt c hc5)
  · rw [if_neg h1] at hsz ⊢
    by_cases h2 : (c : Int) = 215 ∨ (c : Int) = 247
    · rw [if_pos h2] at hsz ⊢
      obtain ⟨q1, q2⟩ := w2 (by unfold isBin; rw [hc]; rcases h2 with e | e <;> simp [e])
      obtain ⟨s1, s2⟩ := size_parts hsz
      obtain ⟨s3, s4⟩ := size_parts s1
      exact form_prod L k g cap w n c _ _ _ hL hk hrow hn hc (by omega) s3 s4 s2 (sub n.a 1 q1 (by decide) (Nat.le_trans (brk_ge _ _ _) s3)) (sub n.b 2 q2 (by decide) (Nat.le_trans (brk_ge _ _ _) s2)) (txt c hc5)
    · rw [if_neg h2] at hsz ⊢
      by_cases h3 : (c : Int) = 110
      · rw [if_pos h3] at hsz ⊢
        have q1 := w3 (by unfold isUn; rw [hc]; simp [h3])
        obtain ⟨s1, s2⟩ := size_parts hsz
        exact form_neg L k g cap w n c _ _ hL hk hrow hn hc (by omega) s2 s1 (sub n.a 2 q1 (by decide) (Nat.le_trans (brk_ge _ _ _) s2)) (txt 8722 (by decide))
      · rw [if_neg h3] at hsz ⊢
        by_cases h4 : (c : Int) = 178 ∨ (c : Int) = 8242
        · rw [if_pos h4] at hsz ⊢
          have q1 := w3 (by unfold isUn; rw [hc]; rcases h4 with e | e <;> simp [e])
          obtain ⟨s1, s2⟩ := size_parts hsz
          exact form_mark L k g cap w n c _ _ hL hk hrow hn hc (by omega) s1 s2 (sub n.a 3 q1 (by decide) (Nat.le_trans (brk_ge _ _ _) s1)) (txt c hc5)
        · rw [if_neg h4] at hsz ⊢
          by_cases h5 : (c : Int) = 48
          · rw [if_pos h5]
            exact form_num L k g cap w n c hL hk hrow hn hc (by omega) rfl
          · rw [if_neg h5]
            exact form_leaf L k g cap w n c hL hk hrow hn hc (by omega) rfl
theorem form_all : ∀ f, CForm f ∧ CIn f := by
  intro f
  induction f with
  | zero =>
    refine ⟨?_, ?_⟩
    · intro L k g cap w _ _ _ h; omega
    · intro L k g cap least w _ _ _ _ h; omega
  | succ f ih =>
    have := form_step f ih.2
    exact ⟨this, in_step (f + 1) this⟩
end Go.Proofs.YtodabmkcihafhaaGreatDoor

/- The document's Read and Print. -/
namespace Go.Proofs.YtodabmkcihafhaaGreatDoor
open Go.RowKit
set_option linter.unusedVariables false

/-- The root is made last. -/
theorem pp_last : ∀ (f tag k : Nat) (ts : List Tok) (L : List Nd), (pp f tag k ts L).ok = true → (tag < 4 ∨ k + 1 = L.length) → (pp f tag k ts L).k + 1 = (pp f tag k ts L).L.length := by
  intro f
  induction f with
  | zero => intro tag k ts L h; simp [pp] at h
  | succ f ih =>
    intro tag k ts L
    match tag with
    | 0 =>
      simp only [pp]
      split
      · rename_i ho; intro h _; exact ih 4 _ _ _ h (Or.inr (ih 1 _ _ _ ho (Or.inl (by decide))))
      · rename_i ho; intro h; exact absurd h ho
    | 1 =>
      simp only [pp]
      split
      · rename_i ho; intro h _; exact ih 5 _ _ _ h (Or.inr (ih 2 _ _ _ ho (Or.inl (by decide))))
      · rename_i ho; intro h; exact absurd h ho
    | 2 =>
      simp only [pp]
      split
      · split
        · intro _ _; simp
        · rename_i ho; intro h; exact absurd h ho
      · split
        · rename_i ho; intro h _; exact ih 6 _ _ _ h (Or.inr (ih 3 _ _ _ ho (Or.inl (by decide))))
        · rename_i ho; intro h; exact absurd h ho
    | 3 =>
      simp only [pp]
      split
      · intro _ _; simp
      · split
        · intro _ _; simp
        · split
          · split
            · rename_i ho
              split
              · intro _ _; exact ih 0 _ _ _ ho (Or.inl (by decide))
              · intro h; cases h
            · rename_i ho; intro h; exact absurd h ho
          · intro h; cases h
    | 4 =>
      simp only [pp]
      split
      · split
        · intro h _; exact ih 4 _ _ _ h (Or.inr (by simp))
        · rename_i ho; intro h; exact absurd h ho
      · intro _ h; rcases h with h | h; omega; exact h
    | 5 =>
      simp only [pp]
      split
      · split
        · intro h _; exact ih 5 _ _ _ h (Or.inr (by simp))
        · rename_i ho; intro h; exact absurd h ho
      · intro _ h; rcases h with h | h; omega; exact h
    | n + 6 =>
      simp only [pp]
      split
      · intro h _; exact ih 6 _ _ _ h (Or.inr (by simp))
      · intro _ h; rcases h with h | h; omega; exact h

/-- The reading of a whole text. -/
def top (s : ByteArray) : Res := pp 2000 0 0 (toks s 0 false) []
def good (s : ByteArray) : Bool := (top s).ok && hd (top s).ts == -1

theorem toks_len (s : ByteArray) (hs : s.size ≤ 120) : (toks s 0 false).length ≤ 121 := by
  have := toks_length s (s.size - 0) 0 false
  unfold toks
  omega
theorem wf_nil : WfL [] := fun k n h => by simp at h
theorem RdSt.new (s : ByteArray) (w : World) : RdSt s w.heap.size 0 [] (-1) (w.alloc (.cells #[.string s, .int .i64 0, .slice none 0 0, .int .i64 (-1)] 201)) :=
  ⟨.slice none 0 0, heap_alloc_new w _, World.ownsRow_nil _ _ _ _⟩
theorem RdSt.row {s : ByteArray} {b i : Nat} {L : List Nd} {bad : Int} {w : World} (h : RdSt s b i L bad w) (hL : 0 < L.length) : ∃ g cap, w.cell? ⟨b, 2, none⟩ = some (.slice (some ⟨g, 0, none⟩) L.length cap) ∧ NRow w g cap L := by
  obtain ⟨v, hb, ho⟩ := h
  obtain ⟨g, cap, rfl, h1, h2⟩ := ho.form hL
  refine ⟨g, cap, (rd_cells hb).2.2.1, ho.1, ?_⟩
  rcases ho.2 with h2 | ⟨g', cap', cur, hv, hg, r⟩
  · exact Or.inl h2
  · exact Or.inr ⟨g', cap', cur, hv, Nat.zero_le _, r⟩

set_option maxHeartbeats 2000000 in
set_option maxRecDepth 100000 in
theorem read_good (s : ByteArray) (w : World) (hs : s.size ≤ 120) (hg : good s = true) :
    Calls Tryz.prog 59 #[.string s] w fun e w' => ∃ g cap, e = .returned (.tuple #[.slice (some ⟨g, 0, none⟩) (top s).L.length cap, .int .i64 (-1)]) ∧ NRow w' g cap (top s).L ∧ Below w.heap.size w w' := by
  have hl := toks_len s hs
  have hok : (top s).ok = true := by unfold good at hg; simp at hg; exact hg.1
  have hhd : hd (top s).ts = -1 := by unfold good at hg; simp at hg; exact hg.2
  have hlast := pp_last 2000 0 0 (toks s 0 false) [] hok (Or.inl (by decide))
  have Hr := (rdr_all s w.heap.size hs 2000 2000 (Nat.le_refl _)).1
  have hlast : (top s).k + 1 = (top s).L.length := hlast
  have hlen : (top s).L.length ≤ 121 := by
    have := (pp_inv 2000 0 0 (toks s 0 false) []).len
    have e : (pp 2000 0 0 (toks s 0 false) []).L.length = (top s).L.length := rfl
    simp at this
    omega
  have X : Hid ((top s).ok = true ∧ hd (top s).ts = -1) := ⟨hok, hhd⟩
  clear hok hhd hg
  go_enter Tryz.func59, Tryz.ntmps59
  go_wp2_with fail
  refine (Hr (toks s 0 false) [] 0 false _ 900 (by omega) (Nat.zero_le _) rfl (RdSt.new s w) (by simp; omega) (by omega)).mono ?_
  rintro e w1 ⟨k1, i1, L1, rfl, hi1, hb1, hL1, hP⟩
  obtain ⟨o1, rfl, rfl, h1, ap1, o5⟩ : (top s).ok = true ∧ k1 = (top s).k ∧ L1 = (top s).L ∧ RdSt s w.heap.size i1 L1 (-1) w1 ∧ ∃ ap, (top s).ts = toks s i1 ap := by
    rcases hP with h | ⟨h, _⟩
    · exact h
    · have := X.out.1; unfold top at this; rw [h] at this; cases this
  clear hP o1
  generalize hR : top s = R at *
  have HR : Hid (top s = R) := hR
  clear hR
  have O5 : Hid (R.ts = toks s i1 ap1) := o5
  clear o5
  go_wp2_with fail
  refine (sign_pos s w.heap.size i1 R.L (-1) _ R.ts ap1 hs hi1 O5.out h1).mono ?_
  rintro e w2 ⟨c, j, rfl, h2, hb2, hc20, hA⟩
  have hj : j = s.size := by
    have h1 := hA.le
    have h2 := hA.sim
    rw [X.out.2] at h2
    obtain ⟨ap, h3⟩ := hA.at'
    apply Nat.le_antisymm h1
    apply Nat.le_of_not_lt
    intro hlt
    have hnb := hA.nb
    have := toks_cons s j ap hlt (by omega)
    rw [← h3] at this
    have q := X.out.2
    rw [this] at q
    simp [hd] at q
  subst hj
  have hpos : 0 < R.L.length := by omega
  obtain ⟨g, cap, cc, hN⟩ := h2.row hpos
  obtain ⟨c1, c3⟩ := rd_out h2
  have HN := hN
  clear h1 hA hN X O5
  have q1 : ((R.k : Int) != (R.L.length : Int) - 1) = false := by simp; omega
  go_wp2_with fail
  go_ret2
  rw [HR.out]
  exact ⟨g, cap, rfl, HN, ((below_alloc w _).trans hb1).trans hb2⟩

set_option maxHeartbeats 2000000 in
set_option maxRecDepth 100000 in
theorem read_bad (s : ByteArray) (w : World) (hs : s.size ≤ 120) (hg : good s = false) :
    Calls Tryz.prog 59 #[.string s] w fun e w' => e = .returned (.tuple #[.slice none 0 0, .int .i64 (hp (top s).ts)]) ∧ Below w.heap.size w w' := by
  have hl := toks_len s hs
  have Hr := (rdr_all s w.heap.size hs 2000 2000 (Nat.le_refl _)).1
  have X : Hid (good s = false) := hg
  clear hg
  go_enter Tryz.func59, Tryz.ntmps59
  go_wp2_with fail
  refine (Hr (toks s 0 false) [] 0 false _ 900 (by omega) (Nat.zero_le _) rfl (RdSt.new s w) (by simp; omega) (by omega)).mono ?_
  rintro e w1 ⟨k1, i1, L1, rfl, hi1, hb1, hL1, hP⟩
  rcases hP with ⟨o1, o2, o3, h1, ap1, o5⟩ | ⟨o1, h1⟩
  · have hne : hd (top s).ts ≠ -1 := by
      intro e
      have := X.out
      unfold good at this
      rw [show (top s).ok = true from o1, e] at this
      revert this; decide
    have O5 : Hid ((top s).ts = toks s i1 ap1) := o5
    have HNE : Hid (hd (top s).ts ≠ -1) := hne
    clear o1 o2 o3 o5 hne X
    generalize hR : top s = R at *
    have HR : Hid (top s = R) := hR
    clear hR
    go_wp2_with fail
    refine (sign_pos s w.heap.size i1 L1 (-1) _ R.ts ap1 hs hi1 O5.out h1).mono ?_
    rintro e w2 ⟨c, j, rfl, h2, hb2, hc20, hA⟩
    have hj : j < s.size := by
      apply Nat.lt_of_not_le
      intro hle
      apply HNE.out
      obtain ⟨ap, h3⟩ := hA.at'
      rw [h3, toks_end s j ap hle]
      rfl
    have HPL : Hid (hp R.ts = j) := hA.pl
    obtain ⟨c1, c3⟩ := rd_out h2
    have hle := hA.le
    clear h1 hA O5 HNE
    go_wp2_with fail
    refine (fail_any s w.heap.size j L1 (-1) _ hs hle h2).mono ?_
    rintro e w3 ⟨rfl, h3, hb3⟩
    rw [if_pos (by decide)] at h3
    obtain ⟨c1, c3⟩ := rd_out h3
    go_wp2_with fail
    go_quiet (fail)
    go_wp2_with fail
    go_ret2
    rw [HR.out, HPL.out]
    exact ⟨rfl, below_drewN ((((below_alloc w _).trans hb1).trans hb2).trans hb3) _⟩
  · have h1' : RdSt s w.heap.size i1 L1 (hp (top s).ts) w1 := h1
    clear o1 h1 X
    obtain ⟨pl, hpl⟩ : ∃ x, hp (top s).ts = x := ⟨_, rfl⟩
    rw [hpl] at h1'
    have HPL : Hid (hp (top s).ts = pl) := hpl
    clear hpl
    go_wp2_with fail
    refine (sign_any s w.heap.size i1 L1 _ _ hs hi1 h1').mono ?_
    rintro e w2 ⟨rfl, h2, hb2⟩
    obtain ⟨c1, c3⟩ := rd_out h2
    have q1 : ¬ (pl : Int) < 0 := by omega
    have q2 : decide ((pl : Int) < 0) = false := by simp
    have q3 : (0 : Int) ≤ (pl : Int) := by omega
    clear h1'
    go_wp2_with fail
    go_quiet (fail)
    go_wp2_with fail
    go_ret2
    rw [HPL.out]
    exact ⟨rfl, below_drewN (((below_alloc w _).trans hb1).trans hb2) _⟩

/-- What the document prints. -/
def refT (s : ByteArray) : ByteArray := if 120 < s.size then ByteArray.empty else if good s then fm (top s).L (top s).k else ByteArray.empty
def refE (s : ByteArray) : Int := if 120 < s.size then 1 else if good s then 0 else 2
def refP (s : ByteArray) : Int := if 120 < s.size then 0 else if good s then 0 else hp (top s).ts

theorem top_size (s : ByteArray) (hs : s.size ≤ 120) (hg : good s = true) : WfL (top s).L ∧ (fm (top s).L (top s).k).size ≤ 726 ∧ (top s).k + 1 = (top s).L.length ∧ (top s).L.length ≤ 121 := by
  have hl := toks_len s hs
  have hok : (top s).ok = true := by unfold good at hg; simp at hg; exact hg.1
  have ps := pp_size 2000 0 0 (toks s 0 false) [] wf_nil (by omega) hok
  have hlast := pp_last 2000 0 0 (toks s 0 false) [] hok (Or.inl (by decide))
  have hlen := (pp_inv 2000 0 0 (toks s 0 false) []).len
  have hsz := ps.sz (by decide)
  simp at hlen
  exact ⟨ps.wf, by unfold top; omega, hlast, by unfold top; omega⟩

set_option maxHeartbeats 2000000 in
set_option maxRecDepth 100000 in
theorem refPrint_any (s : ByteArray) (w : World) :
    Calls Tryz.prog 49 #[.string s] w fun e w' => e = .returned (.tuple #[.string (refT s), .int .i64 (refE s), .int .i64 (refP s)]) ∧ Below w.heap.size w w' := by
  unfold refT refE refP
  by_cases h120 : 120 < s.size
  · rw [if_pos h120, if_pos h120, if_pos h120]
    go_enter Tryz.func49, Tryz.ntmps49
    go_wp2_with fail
    go_ret3
    exact ⟨rfl, Below.refl _ _⟩
  · rw [if_neg h120, if_neg h120, if_neg h120]
    by_cases hg : good s = true
    · rw [if_pos hg, if_pos hg, if_pos hg]
      obtain ⟨t1, t2, t3, t4⟩ := top_size s (by omega) hg
      have cr := read_good s w (by omega) hg
      clear hg
      generalize top s = R at *
      have T3 : Hid (R.k + 1 = R.L.length) := t3
      obtain ⟨F, hF⟩ : ∃ F, fm R.L R.k = F := ⟨_, rfl⟩
      have HF : Hid (fm R.L R.k = F) := hF
      rw [hF]
      have cf := (form_all (R.k + 1)).1
      clear hF
      go_enter Tryz.func49, Tryz.ntmps49
      go_wp2_with fail
      refine cr.mono ?_
      rintro e w1 ⟨g, cap, rfl, hN, hb1⟩
      go_wp2_with fail
      rw [show ((R.L.length : Nat) : Int) - 1 = (R.k : Nat) by omega]
      refine (cf R.L R.k g cap _ t1 (by omega) (by omega) (by omega) (by omega) hN).mono ?_
      rintro e w2 ⟨rfl, hb2⟩
      rw [HF.out]
      go_wp2_with fail
      go_ret3
      exact ⟨rfl, hb1.trans (hb2.mono hb1.size)⟩
    · rw [if_neg hg, if_neg hg, if_neg hg]
      have cr := read_bad s w (by omega) (by simpa using hg)
      clear hg
      generalize hp (top s).ts = pl at *
      have q1 : (0 : Int) ≤ (pl : Int) := by omega
      go_enter Tryz.func49, Tryz.ntmps49
      go_wp2_with fail
      refine cr.mono ?_
      rintro e w1 ⟨rfl, hb1⟩
      go_wp2_with fail
      go_ret3
      exact ⟨rfl, hb1⟩
end Go.Proofs.YtodabmkcihafhaaGreatDoor

/- Plain: the tree of a text that is an expression. -/
namespace Go.Proofs.YtodabmkcihafhaaGreatDoor

theorem toksF_rise (s : ByteArray) : ∀ (f i : Nat) (ap : Bool), s.size ≤ i + f → Rise (toksF s f i ap) ∧ (i ≤ s.size → After i (toksF s f i ap)) := by
  intro f
  induction f with
  | zero =>
    intro i ap h
    refine ⟨by simp [toksF, Rise], fun hi t ht => ?_⟩
    simp [toksF] at ht
    subst ht
    simp only
    omega
  | succ f ih =>
    intro i ap h
    simp only [toksF]
    split
    · rename_i hlt
      have hd := dec_pos s i hlt
      split
      · have r := ih (i + (Utf8.decode s i).2) true (by omega)
        refine ⟨r.1, fun hi t ht => ?_⟩
        by_cases hle : i + (Utf8.decode s i).2 ≤ s.size
        · have := r.2 hle t ht
          omega
        · have e := toksF_stable s f 0 (i + (Utf8.decode s i).2) true (by omega) (by omega)
          rw [e] at ht
          simp [toksF] at ht
          subst ht
          exact hi
      · have r := ih (i + (Utf8.decode s i).2) false (by omega)
        have aft : After (i + 1) (toksF s f (i + (Utf8.decode s i).2) false) := by
          intro t ht
          by_cases hle : i + (Utf8.decode s i).2 ≤ s.size
          · have := r.2 hle t ht
            omega
          · have e := toksF_stable s f 0 (i + (Utf8.decode s i).2) false (by omega) (by omega)
            rw [e] at ht
            simp [toksF] at ht
            subst ht
            simp only
            omega
        refine ⟨List.pairwise_cons.2 ⟨fun t ht => aft t ht, r.1⟩, fun hi t ht => ?_⟩
        rcases List.mem_cons.1 ht with rfl | ht
        · exact Nat.le_refl _
        · have := aft t ht
          omega
    · refine ⟨by simp [Rise], fun hi t ht => ?_⟩
      simp at ht
      subst ht
      exact hi

def e0 : Ex := .leaf 105 0
/-- The tree of a text (of one that is none: whatever). -/
def treeT (s : ByteArray) : Ex := (pt 2000 0 e0 (toks s 0 false)).e
theorem top_tree (s : ByteArray) (hg : good s = true) : (top s).L = (treeT s).flat 0 ∧ (top s).k + 1 = (treeT s).size ∧ ExOk (treeT s) ∧ ∃ hi, PlOk 0 hi (treeT s) := by
  have hok : (top s).ok = true := by unfold good at hg; simp at hg; exact hg.1
  obtain ⟨a1, a2, a3⟩ := pp_pt 2000 0 0 (toks s 0 false) [] [] e0 (Or.inl ⟨by decide, rfl⟩) (fun h => by omega) (fun _ => rfl)
  have hb := a3 hok
  have hr := toksF_rise s (s.size - 0) 0 false (by omega)
  have hi := pt_inv 2000 0 e0 (toks s 0 false) 0 hr.1 (fun _ => hr.2 (Nat.zero_le _)) (fun h => by omega)
  have hok2 : (pt 2000 0 e0 (toks s 0 false)).ok = true := by rw [← a1]; exact hok
  obtain ⟨i1, i2, h, _, i3, _⟩ := hi hok2
  refine ⟨?_, ?_, i1, h, i3⟩
  · have := hb.1
    simp only [List.nil_append, List.length_nil] at this
    exact this
  · have := hb.2
    simp only [List.length_nil, Nat.zero_add] at this
    exact this

/-! ### What a node may be -/
def NdOk (n : Nd) : Prop := (n.op = 48 ∧ 0 ≤ n.num ∧ n.num ≤ 4000 ∧ 1 ≤ n.den ∧ n.den ≤ 4) ∨ n.op = 105 ∨ isNm n.op = true ∨ (isUn n.op = true ∧ n.b = 0) ∨ isBin n.op = true
theorem dig_fold : ∀ (l : List Int) (a : Int) (k : Nat), (∀ c ∈ l, isDig c = true) → l.length ≤ k → 0 ≤ a → 0 ≤ l.foldl (fun n c => 10 * n + (c - 48)) a ∧ l.foldl (fun n c => 10 * n + (c - 48)) a + 1 ≤ (a + 1) * 10 ^ l.length := by
  intro l
  induction l with
  | nil => intro a k _ _ h; simp; omega
  | cons c r ih =>
    intro a k hd hl ha
    have hc := hd c (by simp)
    unfold isDig at hc
    simp at hc
    obtain ⟨q1, q2⟩ := ih (10 * a + (c - 48)) k (fun x hx => hd x (by simp [hx])) (by simp at hl; omega) (by omega)
    simp only [List.foldl_cons, List.length_cons]
    refine ⟨q1, Int.le_trans q2 ?_⟩
    rw [Int.pow_succ, Int.mul_comm ((10 : Int) ^ r.length) 10, ← Int.mul_assoc]
    exact Int.mul_le_mul_of_nonneg_right (by omega) (Int.pow_nonneg (by decide))
theorem nume_bound (l : List Int) (h : NumeOk l) : 0 ≤ (numVal l).1 ∧ (numVal l).1 ≤ 4000 ∧ 1 ≤ (numVal l).2 ∧ (numVal l).2 ≤ 4 := by
  have key : ∀ (m : List Int), (∀ c ∈ m, isDig c = true) → m.length ≤ 3 → 0 ≤ m.foldl (fun n c => 10 * n + (c - 48)) 0 ∧ m.foldl (fun n c => 10 * n + (c - 48)) 0 ≤ 999 := by
    intro m hm hl
    obtain ⟨q1, q2⟩ := dig_fold m 0 3 hm hl (by decide)
    refine ⟨q1, ?_⟩
    have : (10 : Int) ^ m.length ≤ 1000 := by
      have : m.length = 0 ∨ m.length = 1 ∨ m.length = 2 ∨ m.length = 3 := by omega
      rcases this with e | e | e | e <;> rw [e] <;> decide
    omega
  have fin : ∀ n : Int, 0 ≤ n → n ≤ 999 → ∀ lc : Option Int, 0 ≤ (match lc with | some c => if c = 189 then (2 * n + 1, (2 : Int)) else if c = 188 then (4 * n + 1, 4) else if c = 190 then (4 * n + 3, 4) else (n, 1) | none => (n, 1)).1 ∧ (match lc with | some c => if c = 189 then (2 * n + 1, (2 : Int)) else if c = 188 then (4 * n + 1, 4) else if c = 190 then (4 * n + 3, 4) else (n, 1) | none => (n, 1)).1 ≤ 4000 ∧ 1 ≤ (match lc with | some c => if c = 189 then (2 * n + 1, (2 : Int)) else if c = 188 then (4 * n + 1, 4) else if c = 190 then (4 * n + 3, 4) else (n, 1) | none => (n, 1)).2 ∧ (match lc with | some c => if c = 189 then (2 * n + 1, (2 : Int)) else if c = 188 then (4 * n + 1, 4) else if c = 190 then (4 * n + 3, 4) else (n, 1) | none => (n, 1)).2 ≤ 4 := by
    intro n h0 h1 lc
    cases lc with
    | none => simp only; omega
    | some c =>
      simp only
      split
      · simp only; omega
      · split
        · simp only; omega
        · split
          · simp only; omega
          · simp only; omega
  unfold numVal
  simp only
  have hfl : (l.filter isDig).length ≤ 3 := by
    rcases h with ⟨c, rfl, hc⟩ | ⟨d, ds, fr, rfl, hd, _, hds, hdd, hfr⟩
    · exact Nat.le_trans (List.length_filter_le _ _) (by simp)
    · have hfr0 : (fr.filter isDig).length = 0 := by
        rcases hfr with rfl | ⟨c, rfl, hc⟩
        · rfl
        · have : isDig c = false := by
            unfold isFrac at hc
            unfold isDig
            simp at hc ⊢
            omega
          simp [this]
      have h1 : (ds.filter isDig).length ≤ ds.length := List.length_filter_le _ _
      simp only [List.filter_cons, hd, if_true, List.filter_append, List.length_cons, List.length_append]
      omega
  obtain ⟨k1, k2⟩ := key (l.filter isDig) (fun c hc => (List.mem_filter.1 hc).2) hfl
  exact fin _ k1 k2 _
theorem flat_ok : ∀ (e : Ex) (o : Nat), ExOk e → ∀ n ∈ e.flat o, NdOk n := by
  intro e
  induction e with
  | num l p =>
    intro o h n hn
    simp [Ex.flat] at hn
    subst hn
    have := nume_bound l h
    exact Or.inl ⟨rfl, this.1, this.2.1, this.2.2.1, this.2.2.2⟩
  | leaf c p =>
    intro o h n hn
    simp [Ex.flat] at hn
    subst hn
    rcases h with h | h
    · exact Or.inr (Or.inl h)
    · exact Or.inr (Or.inr (Or.inl h))
  | un c p e ih =>
    intro o h n hn
    simp [Ex.flat] at hn
    rcases hn with hn | rfl
    · exact ih o h.2 n hn
    · exact Or.inr (Or.inr (Or.inr (Or.inl ⟨h.1, rfl⟩)))
  | bin c p l r ihl ihr =>
    intro o h n hn
    simp [Ex.flat] at hn
    rcases hn with hn | hn | rfl
    · exact ihl o h.2.1 n hn
    · exact ihr _ h.2.2 n hn
    · exact Or.inr (Or.inr (Or.inr (Or.inr h.1)))
end Go.Proofs.YtodabmkcihafhaaGreatDoor
