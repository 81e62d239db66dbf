/- The program's parser: its state; ahead, joined, take. -/
import Derived.Test.YtodabmkcihafhaaToks
namespace Go.Proofs.Ytodabmkcihafhaa
open Go.RowKit
set_option linter.unusedVariables false

/-- The list of signs ends with the one that stands for none. -/
def EndOk (ts : List Tok) : Prop := ∃ pre t, ts = pre ++ [t] ∧ t.c = -1
theorem EndOk.ne {ts : List Tok} (h : EndOk ts) : 1 ≤ ts.length := by
  obtain ⟨pre, t, rfl, _⟩ := h
  simp
theorem EndOk.tail {ts : List Tok} (h : EndOk ts) (hh : hd ts ≠ -1) : EndOk ts.tail ∧ 2 ≤ ts.length := by
  obtain ⟨pre, t, rfl, ht⟩ := h
  cases pre with
  | nil => exact absurd ht (by simpa [hd] using hh)
  | cons a r => exact ⟨⟨r, t, rfl, ht⟩, by simp⟩
theorem hd_of_jn {ts : List Tok} (h : jn ts ≠ -1) : hd ts = jn ts := by
  cases ts with
  | nil => exact absurd rfl h
  | cons t r =>
    unfold jn hd at *
    simp only at *
    split at h
    · exact absurd rfl h
    · rename_i hh; rw [if_neg hh]

def RangeOk (ts : List Tok) : Prop := ∀ t ∈ ts, -1 ≤ t.c ∧ t.c ≤ 1114111
theorem RangeOk.tail {ts : List Tok} (h : RangeOk ts) : RangeOk ts.tail := fun t ht => h t (List.mem_of_mem_tail ht)
theorem RangeOk.hd {ts : List Tok} (h : RangeOk ts) : -1 ≤ hd ts ∧ hd ts ≤ 1114111 := by
  cases ts with
  | nil => exact ⟨by decide, by decide⟩
  | cons t r => exact h t (by simp)
theorem RangeOk.jn {ts : List Tok} (h : RangeOk ts) : -1 ≤ jn ts ∧ jn ts ≤ 1114111 := by
  cases ts with
  | nil => exact ⟨by decide, by decide⟩
  | cons t r =>
    have := h t (by simp)
    unfold Go.Proofs.Ytodabmkcihafhaa.jn
    simp only
    split <;> omega

def TkRow (w : World) (g o : Nat) (ts : List Tok) : Prop := ∀ j t, ts[j]? = some t → w.cell? ⟨g, o + 3 * j, none⟩ = some (.int .i32 t.c) ∧ w.cell? ⟨g, o + 3 * j + 1, none⟩ = some (.int .i64 t.p) ∧ w.cell? ⟨g, o + 3 * j + 2, none⟩ = some (.bool t.a)

/-- The parser, in block p; the signs that are left, in a block below. -/
def PSt (p : Nat) (ts : List Tok) (w : World) : Prop :=
  ∃ g o cap, w.heap[p]? = some (.cells #[.slice (some ⟨g, o, none⟩) ts.length cap] 59 (0, 0)) ∧ g < p ∧ ts.length ≤ cap ∧ cap ≤ maxLen ∧ TkRow w g o ts ∧ EndOk ts ∧ RangeOk ts

theorem PSt.lt {p : Nat} {ts : List Tok} {w : World} (h : PSt p ts w) : p < w.heap.size := by
  obtain ⟨g, o, cap, hb, _⟩ := h
  exact (Array.getElem?_eq_some_iff.1 hb).1
/-- What lies below and the parser's own block unturned: the parser as it was. -/
theorem PSt.ext {p : Nat} {ts : List Tok} {w w' : World} (h : PSt p ts w) (hb : Below (p + 1) w w') : PSt p ts w' := by
  obtain ⟨g, o, cap, h1, h2, h3, h4, h5, h6, h7⟩ := h
  refine ⟨g, o, cap, by rw [hb.block p (by omega)]; exact h1, h2, h3, h4, ?_, h6, h7⟩
  intro j t ht
  obtain ⟨a, b, c⟩ := h5 j t ht
  exact ⟨by rw [hb.cell (by simp; omega)]; exact a, by rw [hb.cell (by simp; omega)]; exact b, by rw [hb.cell (by simp; omega)]; exact c⟩
theorem PSt.above {p : Nat} {ts : List Tok} {w w' : World} (h : PSt p ts w) (hb : Below w.heap.size w w') : PSt p ts w' := h.ext (hb.mono h.lt)
theorem PSt.cells {p : Nat} {ts : List Tok} {w : World} (h : PSt p ts w) : ∃ g o cap pl ap, w.cell? ⟨p, 0, none⟩ = some (.slice (some ⟨g, o, none⟩) ts.length cap) ∧ w.frozen? ⟨p, 0, none⟩ = false ∧ g < p ∧ 1 ≤ ts.length ∧ ts.length ≤ cap ∧ cap ≤ maxLen ∧
    w.cell? ⟨g, o, none⟩ = some (.int .i32 (hd ts)) ∧ w.cell? ⟨g, o + 1, none⟩ = some (.int .i64 ((pl : Nat) : Int)) ∧ w.cell? ⟨g, o + 2, none⟩ = some (.bool ap) ∧ pl = hp ts ∧ jn ts = (if ap then -1 else hd ts) := by
  obtain ⟨g, o, cap, h1, h2, h3, h4, h5, h6, h7⟩ := h
  have hne := h6.ne
  cases ts with
  | nil => simp at hne
  | cons t r =>
    obtain ⟨a, b, c⟩ := h5 0 t rfl
    exact ⟨g, o, cap, t.p, t.a, by simp [World.cell?, h1], by simp [World.frozen?, h1], h2, hne, h3, h4, a, b, c, rfl, rfl⟩
theorem PSt.endOk {p : Nat} {ts : List Tok} {w : World} (h : PSt p ts w) : EndOk ts ∧ RangeOk ts := by
  obtain ⟨g, o, cap, h1, h2, h3, h4, h5, h6, h7⟩ := h
  exact ⟨h6, h7⟩

theorem fldS0 (x y : Value) (w : World) : (Instr.field 64 (.agg #[x, y]) 0).run Try.prog w = .ok x w := by kernel_rfl
theorem below_set {p : Nat} {w0 w : World} (h : Below p w0 w) (v : Value) : Below p w0 (w.setCell ⟨p, 0, none⟩ v) := h.setCell (p := ⟨p, 0, none⟩) (Nat.le_refl p) v

set_option maxHeartbeats 1000000 in
theorem ahead_any (p : Nat) (ts : List Tok) (w : World) (h : PSt p ts w) :
    Calls Try.prog 21 #[.pointer (some ⟨p, 0, none⟩)] w fun e w' => e = .returned (.int .i32 (hd ts)) ∧ w' = w := by
  obtain ⟨g, o, cap, pl, ap, c0, f0, hg, hne, hc, hm, d0, d1, d2, _, _⟩ := h.cells
  generalize hd ts = c at *
  generalize ts.length = n at *
  go_enter Try.func21, Try.ntmps21
  go_wp2_with fail
  go_ret
  exact ⟨rfl, rfl⟩
set_option maxHeartbeats 1000000 in
theorem joined_any (p : Nat) (ts : List Tok) (w : World) (h : PSt p ts w) :
    Calls Try.prog 57 #[.pointer (some ⟨p, 0, none⟩)] w fun e w' => e = .returned (.int .i32 (jn ts)) ∧ w' = w := by
  obtain ⟨g, o, cap, pl, ap, c0, f0, hg, hne, hc, hm, d0, d1, d2, _, hj⟩ := h.cells
  rw [hj]
  clear hj
  have ca := ahead_any p ts w h
  clear h
  generalize hd ts = c at *
  generalize ts.length = n at *
  cases ap with
  | true =>
    go_enter Try.func57, Try.ntmps57
    go_wp2_with fail
    go_ret
    exact ⟨rfl, rfl⟩
  | false =>
    go_enter Try.func57, Try.ntmps57
    go_wp2_with fail
    refine ca.mono ?_
    rintro e w' ⟨rfl, hw'⟩
    have hw' := hw'.symm
    subst hw'
    go_wp2_with fail
    go_ret
    exact ⟨rfl, rfl⟩
set_option maxHeartbeats 1000000 in
theorem take_any (p : Nat) (ts : List Tok) (w : World) (h : PSt p ts w) (hh : hd ts ≠ -1) :
    Calls Try.prog 38 #[.pointer (some ⟨p, 0, none⟩)] w fun e w' => e = .returned (.agg #[.int .i32 (hd ts), .int .i64 (hp ts)]) ∧ PSt p ts.tail w' ∧ w.grownBy w' (some p) ∧ Below p w w' := by
  have hlt := h.lt
  obtain ⟨W, hW⟩ : ∃ W, W = w.alloc (.cells #[.int .i32 0, .int .i64 0] 64) := ⟨_, rfl⟩
  have hWs : W.heap.size = w.heap.size + 1 := by rw [hW]; simp
  have hgW : w.grownBy W (some p) := by rw [hW]; exact gb_alloc (gb_refl w _) _
  have hR : W.heap[w.heap.size]? = some (.cells #[.int .i32 0, .int .i64 0] 64 (0, 0)) := by rw [hW]; exact heap_alloc_new w _
  have h : PSt p ts W := h.above (by rw [hW]; exact (Below.refl _ w).alloc (Nat.le_refl _) _)
  obtain ⟨g, o, cap, h1, h2, h3, h4, h5, h6, h7⟩ := h
  obtain ⟨k1, k2⟩ := h6.tail hh
  have c0 : W.cell? ⟨p, 0, none⟩ = some (.slice (some ⟨g, o, none⟩) ts.length cap) := by simp [World.cell?, h1]
  have f0 : W.frozen? ⟨p, 0, none⟩ = false := by simp [World.frozen?, h1]
  have z0 : W.cell? ⟨w.heap.size, 0, none⟩ = some (.int .i32 0) := by simp [World.cell?, hR]
  have z1 : W.cell? ⟨w.heap.size, 1, none⟩ = some (.int .i64 0) := by simp [World.cell?, hR]
  have fz0 : W.frozen? ⟨w.heap.size, 0, none⟩ = false := by simp [World.frozen?, hR]
  have fz1 : W.frozen? ⟨w.heap.size, 1, none⟩ = false := by simp [World.frozen?, hR]
  have d0 : W.cell? ⟨g, o, none⟩ = some (.int .i32 (hd ts)) := by
    cases ts with
    | nil => simp at k2
    | cons t r => exact (h5 0 t rfl).1
  have d1 : W.cell? ⟨g, o + 1, none⟩ = some (.int .i64 (hp ts)) := by
    cases ts with
    | nil => simp at k2
    | cons t r => exact (h5 0 t rfl).2.1
  have key : ∀ X : World, X.heap[p]? = some (.cells #[.slice (some ⟨g, o + 3, none⟩) (ts.length - 1) (cap - 1)] 59 (0, 0)) → (∀ j, j < p → X.heap[j]? = W.heap[j]?) → PSt p ts.tail X := by
    intro X hX hXg
    refine ⟨g, o + 3, cap - 1, by simpa using hX, h2, by simp; omega, by omega, ?_, k1, h7.tail⟩
    intro j t ht
    have ht2 : ts[j + 1]? = some t := by rw [← ht]; simp
    obtain ⟨a, b, c⟩ := h5 (j + 1) t ht2
    have hc : ∀ i, X.cell? ⟨g, i, none⟩ = W.cell? ⟨g, i, none⟩ := fun i => World.cell?_of_block (hXg g h2)
    rw [hc, hc, hc, show o + 3 + 3 * j = o + 3 * (j + 1) by omega]
    exact ⟨a, b, c⟩
  have hcap : ¬ cap = 1 := by omega
  have hcap2 : 1 < cap := by omega
  have HK : Hid (∀ X : World, X.heap[p]? = some (.cells #[.slice (some ⟨g, o + 3, none⟩) (ts.length - 1) (cap - 1)] 59 (0, 0)) → (∀ j, j < p → X.heap[j]? = W.heap[j]?) → PSt p ts.tail X) := key
  have H1 : Hid (W.heap[p]? = some (.cells #[.slice (some ⟨g, o, none⟩) ts.length cap] 59 (0, 0))) := h1
  clear h1 h5 h6 h7 k1 key hh hR
  subst hW
  generalize hd ts = c at *
  generalize hp ts = pl at *
  generalize ts.length = n at *
  go_enter Try.func38, Try.ntmps38
  go_wp2_with fail
  have hG : w.grownBy (((w.setCell ⟨p, 0, none⟩ (.slice (some ⟨g, o + 3, none⟩) (n - 1) (cap - 1))).alloc (.cells #[.int .i32 c, .int .i64 pl] 64)).alloc (.cells #[.int .i32 c, .int .i64 pl] 64)) (some p) := gb_alloc (gb_alloc (gb_set (gb_refl w _) 0 _) _) _
  have hs : (w.setCell ⟨p, 0, none⟩ (.slice (some ⟨g, o + 3, none⟩) (n - 1) (cap - 1))).heap.size = w.heap.size := by simp [World.setCell]
  refine bodyPost_ret (v := .agg #[.int .i32 c, .int .i64 pl]) (by simp [results, Try.results38, go_sem]) rfl ⟨rfl, HK.out _ ?_ ?_, hG, gb_to_below hG (Nat.le_refl _) (by omega)⟩
  · rw [Below.heap_alloc _ _ _ (by simp; omega), Below.heap_alloc _ _ _ (by simp; omega)]
    have := H1.out
    rw [Below.heap_alloc _ _ _ hlt] at this
    simp [World.setCell, Array.getElem?_modify, this]
  · intro j hj
    rw [hG.block j (by omega) (by simp; omega), Below.heap_alloc _ _ _ (by omega)]
end Go.Proofs.Ytodabmkcihafhaa
