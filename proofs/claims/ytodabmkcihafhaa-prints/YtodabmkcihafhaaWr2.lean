/- The program's Write: write, writeAs, Write. -/
import Derived.Test.YtodabmkcihafhaaWr
namespace Go.Proofs.Ytodabmkcihafhaa
open Go.RowKit
set_option linter.unusedVariables false

def WaC (B b : Nat) (A : Value) (least : Nat) (X : ByteArray) : Prop := ∀ (t : ByteArray) (W : World), t.size + X.size ≤ 5000 → BSt B b t W → B ≤ W.heap.size →
  Calls Try.prog 24 #[.pointer (some ⟨b, 0, none⟩), A, .int .i64 least] W (WrPost B b (t ++ X) W)
theorem others_cells {b : Nat} {w w' : World} (h : Lib.OthersKept 5 (some b) w w') {H : Nat} {cs : Array Value} {T : TypeId} (hT : T ≠ 5) (hH : H ≠ b) (hh : w.heap[H]? = some (.cells cs T (0, 0))) : w'.heap[H]? = some (.cells cs T (0, 0)) :=
  h H _ hh (fun e => hH (Option.some.inj e)) (fun c fz e => hT (by injection e))
theorem others_alloc {b : Nat} {w w' : World} (o : Obj) (h : Lib.OthersKept 5 (some b) (w.alloc o) w') : Lib.OthersKept 5 (some b) w w' :=
  ((Lib.OthersKept.refl _ _ w).alloc o).trans h

set_option maxHeartbeats 2000000 in
set_option maxRecDepth 1000000 in
theorem w_num (B b : Nat) (t : ByteArray) (s : ByteArray) (w : World) (h : BSt B b t w) (hBw : B ≤ w.heap.size) (hl : t.size + s.size ≤ 5000) :
    Calls Try.prog 12 #[.pointer (some ⟨b, 0, none⟩), .iface 68 (.agg #[.string s])] w (WrPost B b (t ++ s) w) := by
  have qNumeral := taNumeralNumeral (.agg #[.string s])
  go_enter Try.func12, Try.ntmps12
  go_wp2_with fail
  refine (wstring_st B b t s _ (h.alloc _) (by omega) (by simp; omega)).mono ?_
  rintro e w1 ⟨⟨v, rfl⟩, h1, hb1, ho1⟩
  go_wp2_with fail
  go_end0
  exact ⟨rfl, h1, ((Below.refl _ _).alloc hBw _).trans hb1, others_alloc _ ho1⟩
set_option maxHeartbeats 2000000 in
set_option maxRecDepth 1000000 in
theorem w_unit (B b : Nat) (t : ByteArray)  (w : World) (h : BSt B b t w) (hBw : B ≤ w.heap.size) (hl : t.size ≤ 5000) :
    Calls Try.prog 12 #[.pointer (some ⟨b, 0, none⟩), .iface 74 (.agg #[])] w (WrPost B b (t ++ Utf8.encode ((105 : Nat) : Int)) w) := by
  have qNumeral := taUnitNumeral (.agg #[])
  have qUnit := taUnitUnit (.agg #[])
  go_enter Try.func12, Try.ntmps12
  go_wp2_with fail
  refine (wrune_st B b 105 t _ (by decide) (h.alloc _) (by omega) (by simp; omega)).mono ?_
  rintro e w1 ⟨⟨v, rfl⟩, h1, hb1, ho1⟩
  go_wp2_with fail
  go_end0
  exact ⟨rfl, h1, ((Below.refl _ _).alloc hBw _).trans hb1, others_alloc _ ho1⟩
set_option maxHeartbeats 2000000 in
set_option maxRecDepth 1000000 in
theorem w_name (B b : Nat) (t : ByteArray) (c : Nat) (q : Nat) (w : World) (h : BSt B b t w) (hBw : B ≤ w.heap.size) (hl : t.size ≤ 5000) (hc : c < 55296) :
    Calls Try.prog 12 #[.pointer (some ⟨b, 0, none⟩), .iface 76 (.agg #[.int .i32 c, .int .i64 q])] w (WrPost B b (t ++ Utf8.encode (c : Int)) w) := by
  have qNumeral := taNameNumeral (.agg #[.int .i32 c, .int .i64 q])
  have qUnit := taNameUnit (.agg #[.int .i32 c, .int .i64 q])
  have qName := taNameName (.agg #[.int .i32 c, .int .i64 q])
  go_enter Try.func12, Try.ntmps12
  go_wp2_with fail
  refine (wrune_st B b c t _ hc (h.alloc _) (by omega) (by simp; omega)).mono ?_
  rintro e w1 ⟨⟨v, rfl⟩, h1, hb1, ho1⟩
  go_wp2_with fail
  go_end0
  exact ⟨rfl, h1, ((Below.refl _ _).alloc hBw _).trans hb1, others_alloc _ ho1⟩
set_option maxHeartbeats 2000000 in
set_option maxRecDepth 1000000 in
theorem w_mark (B b : Nat) (t : ByteArray) (c : Nat) (q : Nat) (T : TypeId) (y : Value) (X : ByteArray) (w : World) (h : BSt B b t w) (hBw : B ≤ w.heap.size) (hl : t.size + X.size ≤ 5000) (hc : c < 55296) (cA : WaC B b (.iface T y) 3 X) :
    Calls Try.prog 12 #[.pointer (some ⟨b, 0, none⟩), .iface 78 (.agg #[.iface T y, .int .i32 c, .int .i64 q])] w (WrPost B b (t ++ X ++ Utf8.encode (c : Int)) w) := by
  have qNumeral := taMarkedNumeral (.agg #[.iface T y, .int .i32 c, .int .i64 q])
  have qUnit := taMarkedUnit (.agg #[.iface T y, .int .i32 c, .int .i64 q])
  have qName := taMarkedName (.agg #[.iface T y, .int .i32 c, .int .i64 q])
  have qMarked := taMarkedMarked (.agg #[.iface T y, .int .i32 c, .int .i64 q])
  go_enter Try.func12, Try.ntmps12
  go_wp2_with fail
  refine (cA t _ (by omega) (h.alloc _) (by simp; omega)).mono ?_
  rintro e w1 ⟨rfl, h1, hb1, ho1⟩
  have hH : w1.heap[w.heap.size]? = some (.cells #[.iface T y, .int .i32 c, .int .i64 q] 78 (0, 0)) := others_cells ho1 (by decide) (by have := h.lt; omega) (heap_alloc_new w _)
  have z1 : w1.cell? ⟨w.heap.size, 1, none⟩ = some (.int .i32 c) := by simp [World.cell?, hH]
  have hb01 : Below B w w1 := ((Below.refl _ _).alloc hBw _).trans hb1
  have ho01 := others_alloc _ ho1
  have hBw1 : B ≤ w1.heap.size := Nat.le_trans hBw hb01.size
  clear hH ho1 hb1 h
  go_wp2_with fail
  refine (wrune_st B b c (t ++ X) _ hc h1 (by rw [ByteArray.size_append]; omega) hBw1).mono ?_
  rintro e w2 ⟨⟨v, rfl⟩, h2, hb2, ho2⟩
  go_wp2_with fail
  go_end0
  exact ⟨rfl, h2, hb01.trans hb2, ho01.trans ho2⟩
set_option maxHeartbeats 2000000 in
set_option maxRecDepth 1000000 in
theorem w_neg (B b : Nat) (t : ByteArray) (T : TypeId) (y : Value) (X : ByteArray) (w : World) (h : BSt B b t w) (hBw : B ≤ w.heap.size) (hl : t.size + (Utf8.encode ((8722 : Nat) : Int)).size + X.size ≤ 5000) (cA : WaC B b (.iface T y) 2 X) :
    Calls Try.prog 12 #[.pointer (some ⟨b, 0, none⟩), .iface 82 (.agg #[.iface T y])] w (WrPost B b (t ++ Utf8.encode ((8722 : Nat) : Int) ++ X) w) := by
  have qNumeral := taNegatedNumeral (.agg #[.iface T y])
  have qUnit := taNegatedUnit (.agg #[.iface T y])
  have qName := taNegatedName (.agg #[.iface T y])
  have qMarked := taNegatedMarked (.agg #[.iface T y])
  have qNegated := taNegatedNegated (.agg #[.iface T y])
  go_enter Try.func12, Try.ntmps12
  go_wp2_with fail
  refine (wrune_st B b 8722 t _ (by decide) (h.alloc _) (by omega) (by simp; omega)).mono ?_
  rintro e w1 ⟨⟨v, rfl⟩, h1, hb1, ho1⟩
  have hH : w1.heap[w.heap.size]? = some (.cells #[.iface T y] 82 (0, 0)) := others_cells ho1 (by decide) (by have := h.lt; omega) (heap_alloc_new w _)
  have z1 : w1.cell? ⟨w.heap.size, 0, none⟩ = some (.iface T y) := by simp [World.cell?, hH]
  have hb01 : Below B w w1 := ((Below.refl _ _).alloc hBw _).trans hb1
  have ho01 := others_alloc _ ho1
  have hBw1 : B ≤ w1.heap.size := Nat.le_trans hBw hb01.size
  clear hH ho1 hb1 h
  have he4 := enc_size ((8722 : Nat) : Int)
  go_wp2_with fail
  refine (cA (t ++ Utf8.encode ((8722 : Nat) : Int)) _ (by rw [ByteArray.size_append]; omega) h1 hBw1).mono ?_
  rintro e w2 ⟨rfl, h2, hb2, ho2⟩
  go_wp2_with fail
  go_end0
  exact ⟨rfl, h2, hb01.trans hb2, ho01.trans ho2⟩
set_option maxHeartbeats 2000000 in
set_option maxRecDepth 1000000 in
theorem w_prd (B b : Nat) (t : ByteArray) (c : Nat) (q : Nat) (T U : TypeId) (y z : Value) (X Y : ByteArray) (w : World) (h : BSt B b t w) (hBw : B ≤ w.heap.size) (hl : t.size + X.size + (Utf8.encode (c : Int)).size + Y.size ≤ 5000) (hc : c < 55296) (cA : WaC B b (.iface T y) 1 X) (cB : WaC B b (.iface U z) 2 Y) :
    Calls Try.prog 12 #[.pointer (some ⟨b, 0, none⟩), .iface 84 (.agg #[.iface T y, .int .i32 c, .int .i64 q, .iface U z])] w (WrPost B b (t ++ X ++ Utf8.encode (c : Int) ++ Y) w) := by
  have qNumeral := taProductNumeral (.agg #[.iface T y, .int .i32 c, .int .i64 q, .iface U z])
  have qUnit := taProductUnit (.agg #[.iface T y, .int .i32 c, .int .i64 q, .iface U z])
  have qName := taProductName (.agg #[.iface T y, .int .i32 c, .int .i64 q, .iface U z])
  have qMarked := taProductMarked (.agg #[.iface T y, .int .i32 c, .int .i64 q, .iface U z])
  have qNegated := taProductNegated (.agg #[.iface T y, .int .i32 c, .int .i64 q, .iface U z])
  have qProduct := taProductProduct (.agg #[.iface T y, .int .i32 c, .int .i64 q, .iface U z])
  go_enter Try.func12, Try.ntmps12
  go_wp2_with fail
  refine (cA t _ (by omega) (h.alloc _) (by simp; omega)).mono ?_
  rintro e w1 ⟨rfl, h1, hb1, ho1⟩
  have hH : w1.heap[w.heap.size]? = some (.cells #[.iface T y, .int .i32 c, .int .i64 q, .iface U z] 84 (0, 0)) := others_cells ho1 (by decide) (by have := h.lt; omega) (heap_alloc_new w _)
  have z1 : w1.cell? ⟨w.heap.size, 1, none⟩ = some (.int .i32 c) := by simp [World.cell?, hH]
  have hb01 : Below B w w1 := ((Below.refl _ _).alloc hBw _).trans hb1
  have ho01 := others_alloc _ ho1
  have hBw1 : B ≤ w1.heap.size := Nat.le_trans hBw hb01.size
  have HH : Hid (w1.heap[w.heap.size]? = some (.cells #[.iface T y, .int .i32 c, .int .i64 q, .iface U z] 84 (0, 0))) := hH
  have hlt := h.lt
  clear hH ho1 hb1 h
  go_wp2_with fail
  refine (wrune_st B b c (t ++ X) _ hc h1 (by rw [ByteArray.size_append]; omega) hBw1).mono ?_
  rintro e w2 ⟨⟨v, rfl⟩, h2, hb2, ho2⟩
  have hH2 : w2.heap[w.heap.size]? = some (.cells #[.iface T y, .int .i32 c, .int .i64 q, .iface U z] 84 (0, 0)) := others_cells ho2 (by decide) (by omega) HH.out
  have z2 : w2.cell? ⟨w.heap.size, 3, none⟩ = some (.iface U z) := by simp [World.cell?, hH2]
  have hb02 := hb01.trans hb2
  have ho02 := ho01.trans ho2
  have hBw2 : B ≤ w2.heap.size := Nat.le_trans hBw1 hb2.size
  have he4 := enc_size ((c : Nat) : Int)
  clear hH2 ho2 hb2 z1 HH h1 ho01 hb01
  go_wp2_with fail
  refine (cB (t ++ X ++ Utf8.encode (c : Int)) _ (by rw [ByteArray.size_append, ByteArray.size_append]; omega) h2 hBw2).mono ?_
  rintro e w3 ⟨rfl, h3, hb3, ho3⟩
  go_wp2_with fail
  go_end0
  exact ⟨rfl, h3, hb02.trans hb3, ho02.trans ho3⟩
set_option maxHeartbeats 2000000 in
set_option maxRecDepth 1000000 in
theorem w_sum (B b : Nat) (t : ByteArray) (c : Nat) (q : Nat) (T U : TypeId) (y z : Value) (X Y : ByteArray) (w : World) (h : BSt B b t w) (hBw : B ≤ w.heap.size) (hl : t.size + X.size + (Utf8.encode (c : Int)).size + Y.size ≤ 5000) (hc : c < 55296) (cA : WaC B b (.iface T y) 0 X) (cB : WaC B b (.iface U z) 1 Y) :
    Calls Try.prog 12 #[.pointer (some ⟨b, 0, none⟩), .iface 85 (.agg #[.iface T y, .int .i32 c, .int .i64 q, .iface U z])] w (WrPost B b (t ++ X ++ Utf8.encode (c : Int) ++ Y) w) := by
  have qNumeral := taSumNumeral (.agg #[.iface T y, .int .i32 c, .int .i64 q, .iface U z])
  have qUnit := taSumUnit (.agg #[.iface T y, .int .i32 c, .int .i64 q, .iface U z])
  have qName := taSumName (.agg #[.iface T y, .int .i32 c, .int .i64 q, .iface U z])
  have qMarked := taSumMarked (.agg #[.iface T y, .int .i32 c, .int .i64 q, .iface U z])
  have qNegated := taSumNegated (.agg #[.iface T y, .int .i32 c, .int .i64 q, .iface U z])
  have qProduct := taSumProduct (.agg #[.iface T y, .int .i32 c, .int .i64 q, .iface U z])
  have qSum := taSumSum (.agg #[.iface T y, .int .i32 c, .int .i64 q, .iface U z])
  go_enter Try.func12, Try.ntmps12
  go_wp2_with fail
  refine (cA t _ (by omega) (h.alloc _) (by simp; omega)).mono ?_
  rintro e w1 ⟨rfl, h1, hb1, ho1⟩
  have hH : w1.heap[w.heap.size]? = some (.cells #[.iface T y, .int .i32 c, .int .i64 q, .iface U z] 85 (0, 0)) := others_cells ho1 (by decide) (by have := h.lt; omega) (heap_alloc_new w _)
  have z1 : w1.cell? ⟨w.heap.size, 1, none⟩ = some (.int .i32 c) := by simp [World.cell?, hH]
  have hb01 : Below B w w1 := ((Below.refl _ _).alloc hBw _).trans hb1
  have ho01 := others_alloc _ ho1
  have hBw1 : B ≤ w1.heap.size := Nat.le_trans hBw hb01.size
  have HH : Hid (w1.heap[w.heap.size]? = some (.cells #[.iface T y, .int .i32 c, .int .i64 q, .iface U z] 85 (0, 0))) := hH
  have hlt := h.lt
  clear hH ho1 hb1 h
  go_wp2_with fail
  refine (wrune_st B b c (t ++ X) _ hc h1 (by rw [ByteArray.size_append]; omega) hBw1).mono ?_
  rintro e w2 ⟨⟨v, rfl⟩, h2, hb2, ho2⟩
  have hH2 : w2.heap[w.heap.size]? = some (.cells #[.iface T y, .int .i32 c, .int .i64 q, .iface U z] 85 (0, 0)) := others_cells ho2 (by decide) (by omega) HH.out
  have z2 : w2.cell? ⟨w.heap.size, 3, none⟩ = some (.iface U z) := by simp [World.cell?, hH2]
  have hb02 := hb01.trans hb2
  have ho02 := ho01.trans ho2
  have hBw2 : B ≤ w2.heap.size := Nat.le_trans hBw1 hb2.size
  have he4 := enc_size ((c : Nat) : Int)
  clear hH2 ho2 hb2 z1 HH h1 ho01 hb01
  go_wp2_with fail
  refine (cB (t ++ X ++ Utf8.encode (c : Int)) _ (by rw [ByteArray.size_append, ByteArray.size_append]; omega) h2 hBw2).mono ?_
  rintro e w3 ⟨rfl, h3, hb3, ho3⟩
  go_wp2_with fail
  go_end0
  exact ⟨rfl, h3, hb02.trans hb3, ho02.trans ho3⟩

def CWr (f : Nat) : Prop := ∀ (L : List Nd) (k B b : Nat) (t : ByteArray) (w : World), WfL L → k < L.length → k < f → t.size + (fm L k).size ≤ 5000 → BSt B b t w → B ≤ w.heap.size →
  Calls Try.prog 12 #[.pointer (some ⟨b, 0, none⟩), den L k] w (WrPost B b (t ++ fm L k) w)
def CWa (f : Nat) : Prop := ∀ (L : List Nd) (k B b least : Nat), WfL L → k < L.length → k < f → least ≤ 3 → WaC B b (den L k) least (brk (rankP (opAt L k)) least (fm L k))

theorem enc40 : Utf8.encode ((40 : Nat) : Int) = ⟨#[40]⟩ := by decide +kernel
theorem enc41 : Utf8.encode ((41 : Nat) : Int) = ⟨#[41]⟩ := by decide +kernel

set_option maxHeartbeats 2000000 in
set_option maxRecDepth 100000 in
theorem wa_step (f : Nat) (ih : CWr f) : CWa f := by
  intro L k B b least hwf hk hkf hl t w hsz h hBw
  obtain ⟨n, hn⟩ : ∃ n, L[k]? = some n := ⟨L[k], List.getElem?_eq_getElem hk⟩
  have hop : opAt L k = n.op := by unfold opAt; rw [hn]
  have hd := den_eq L k n hwf hn
  have lv := levelOf_any n (den L n.a) (den L n.b) w
  rw [← hd] at lv
  rw [hop] at hsz ⊢
  obtain ⟨T, y, hI⟩ := den_isI L k hwf hk
  have hr3 : rankP n.op ≤ 3 := by unfold rankP; repeat' split
                                  all_goals omega
  have wr := fun t w h1 h2 h3 => ih L k B b t w hwf hk hkf h1 h2 h3
  rw [hI] at lv wr ⊢
  generalize fm L k = F at *
  generalize rankP n.op = r at *
  have WRH : Hid (∀ (t : ByteArray) (w : World), t.size + F.size ≤ 5000 → BSt B b t w → B ≤ w.heap.size → Calls Try.prog 12 #[.pointer (some ⟨b, 0, none⟩), .iface T y] w (WrPost B b (t ++ F) w)) := wr
  clear wr hd hop hI ih
  by_cases hlt : r < least
  · have e1 : brk r least F = ⟨#[40]⟩ ++ F ++ ⟨#[41]⟩ := by unfold brk; rw [if_pos hlt]
    have s40 : (ByteArray.mk #[40]).size = 1 := rfl
    have s41 : (ByteArray.mk #[41]).size = 1 := rfl
    rw [e1] at hsz ⊢
    rw [ByteArray.size_append, ByteArray.size_append, s40, s41] at hsz
    have q1 : ¬ (least : Int) ≤ (r : Int) := by omega
    clear e1
    go_enter Try.func24, Try.ntmps24
    go_wp2_with fail
    refine lv.mono ?_
    rintro e w1 ⟨rfl, hw1⟩
    have hw1 := hw1.symm
    subst hw1
    clear lv
    go_wp2_with fail
    refine (wrune_st B b 40 t _ (by decide) h (by omega) hBw).mono ?_
    rintro e w2 ⟨⟨v, rfl⟩, h2, hb2, ho2⟩
    rw [enc40] at h2
    have hBw2 : B ≤ w2.heap.size := Nat.le_trans hBw hb2.size
    go_wp2_with fail
    refine (WRH.out (t ++ ⟨#[40]⟩) _ (by rw [ByteArray.size_append, s40]; omega) h2 hBw2).mono ?_
    rintro e w3 ⟨rfl, h3, hb3, ho3⟩
    have hBw3 : B ≤ w3.heap.size := Nat.le_trans hBw2 hb3.size
    go_wp2_with fail
    refine (wrune_st B b 41 (t ++ ⟨#[40]⟩ ++ F) _ (by decide) h3 (by rw [ByteArray.size_append, ByteArray.size_append, s40]; omega) hBw3).mono ?_
    rintro e w4 ⟨⟨v, rfl⟩, h4, hb4, ho4⟩
    rw [enc41] at h4
    go_wp2_with fail
    go_end0
    refine ⟨rfl, ?_, (hb2.trans hb3).trans hb4, (ho2.trans ho3).trans ho4⟩
    rw [← ByteArray.append_assoc, ← ByteArray.append_assoc]
    exact h4
  · have e1 : brk r least F = F := by unfold brk; rw [if_neg hlt]
    rw [e1] at hsz ⊢
    have q1 : (least : Int) ≤ (r : Int) := by omega
    clear e1
    go_enter Try.func24, Try.ntmps24
    go_wp2_with fail
    refine lv.mono ?_
    rintro e w1 ⟨rfl, hw1⟩
    have hw1 := hw1.symm
    subst hw1
    clear lv
    go_wp2_with fail
    refine (WRH.out t _ (by omega) h hBw).mono ?_
    rintro e w3 ⟨rfl, h3, hb3, ho3⟩
    go_wp2_with fail
    go_end0
    exact ⟨rfl, h3, hb3, ho3⟩

theorem wr_step (f : Nat) (ih : CWa f) : CWr (f + 1) := by
  intro L k B b t w hwf hk hkf hsz h hBw
  obtain ⟨n, hn⟩ : ∃ n, L[k]? = some n := ⟨L[k], List.getElem?_eq_getElem hk⟩
  obtain ⟨w0, w1, w2, w3⟩ := hwf k n hn
  obtain ⟨c, hc⟩ := Int.eq_ofNat_of_zero_le w0
  have hfm := fm_eq L k n hwf hn
  have hdn := den_eq L k n hwf hn
  have hc5 : c < 55296 := by omega
  have sub : ∀ a least, a < k → least ≤ 3 → WaC B b (den L a) least (brk (rankP (opAt L a)) least (fm L a)) := fun a least ha hl => ih L a B b least hwf (by omega) (by omega) hl
  unfold nodeF at hfm
  unfold nodeD at hdn
  rw [hc] at hfm hdn
  rw [hdn]
  rw [hfm] at hsz ⊢
  by_cases h1 : (c : Int) = 43 ∨ (c : Int) = 8722
  · rw [if_pos h1] at hsz ⊢
    rw [if_pos h1]
    obtain ⟨q1, q2⟩ := w2 (by unfold isBin; rw [hc]; rcases h1 with e | e <;> simp [e])
    obtain ⟨T, y, hI⟩ := den_isI L n.a hwf (by omega)
    obtain ⟨U, z, hJ⟩ := den_isI L n.b hwf (by omega)
    have sa := sub n.a 0 q1 (by decide)
    have sb := sub n.b 1 q2 (by decide)
    rw [hI] at sa
    rw [hJ] at sb
    rw [hI, hJ, ← ByteArray.append_assoc, ← ByteArray.append_assoc]
    rw [ByteArray.size_append, ByteArray.size_append] at hsz
    exact w_sum B b t c n.pl T U y z _ _ w h hBw (by omega) hc5 sa sb
  · rw [if_neg h1] at hsz ⊢
    rw [if_neg h1]
    by_cases h2 : (c : Int) = 215 ∨ (c : Int) = 247
    · rw [if_pos h2] at hsz ⊢
      rw [if_pos h2]
      obtain ⟨q1, q2⟩ := w2 (by unfold isBin; rw [hc]; rcases h2 with e | e <;> simp [e])
      obtain ⟨T, y, hI⟩ := den_isI L n.a hwf (by omega)
      obtain ⟨U, z, hJ⟩ := den_isI L n.b hwf (by omega)
      have sa := sub n.a 1 q1 (by decide)
      have sb := sub n.b 2 q2 (by decide)
      rw [hI] at sa
      rw [hJ] at sb
      rw [hI, hJ, ← ByteArray.append_assoc, ← ByteArray.append_assoc]
      rw [ByteArray.size_append, ByteArray.size_append] at hsz
      exact w_prd B b t c n.pl T U y z _ _ w h hBw (by omega) hc5 sa sb
    · rw [if_neg h2] at hsz ⊢
      rw [if_neg h2]
      by_cases h3 : (c : Int) = 110
      · rw [if_pos h3] at hsz ⊢
        rw [if_pos h3]
        have q1 := w3 (by unfold isUn; rw [hc]; simp [h3])
        obtain ⟨T, y, hI⟩ := den_isI L n.a hwf (by omega)
        have sa := sub n.a 2 q1 (by decide)
        rw [hI] at sa
        rw [hI, ← ByteArray.append_assoc]
        rw [ByteArray.size_append] at hsz
        exact w_neg B b t T y _ w h hBw (by rw [show ((8722 : Nat) : Int) = 8722 from rfl]; omega) sa
      · rw [if_neg h3] at hsz ⊢
        rw [if_neg h3]
        by_cases h4 : (c : Int) = 178 ∨ (c : Int) = 8242
        · rw [if_pos h4] at hsz ⊢
          rw [if_pos h4]
          have q1 := w3 (by unfold isUn; rw [hc]; rcases h4 with e | e <;> simp [e])
          obtain ⟨T, y, hI⟩ := den_isI L n.a hwf (by omega)
          have sa := sub n.a 3 q1 (by decide)
          rw [hI] at sa
          rw [hI, ← ByteArray.append_assoc]
          rw [ByteArray.size_append] at hsz
          exact w_mark B b t c n.pl T y _ w h hBw (by omega) hc5 sa
        · rw [if_neg h4] at hsz ⊢
          rw [if_neg h4]
          by_cases h5 : (c : Int) = 48
          · rw [if_pos h5] at hsz ⊢
            rw [if_pos h5]
            exact w_num B b t n.text w h hBw (by omega)
          · rw [if_neg h5] at hsz ⊢
            rw [if_neg h5]
            by_cases h6 : (c : Int) = 105
            · rw [if_pos h6]
              obtain rfl : c = 105 := by omega
              exact w_unit B b t w h hBw (by omega)
            · rw [if_neg h6]
              exact w_name B b t c n.pl w h hBw (by omega) hc5
theorem wr_all : ∀ f, CWr f ∧ CWa f := by
  intro f
  induction f with
  | zero =>
    refine ⟨?_, ?_⟩
    · intro L k B b t w _ _ h; omega
    · intro L k B b least _ _ h; omega
  | succ f ih =>
    have := wr_step f ih.2
    exact ⟨this, wa_step (f + 1) this⟩

set_option maxHeartbeats 2000000 in
set_option maxRecDepth 100000 in
theorem write_any (L : List Nd) (k : Nat) (w : World) (hwf : WfL L) (hk : k < L.length) (hsz : (fm L k).size ≤ 5000) :
    Calls Try.prog 8 #[den L k] w fun e w' => e = .returned (.string (fm L k)) ∧ Below w.heap.size w w' := by
  obtain ⟨T, y, hI⟩ := den_isI L k hwf hk
  have c := (wr_all (k + 1)).1 L k w.heap.size w.heap.size ByteArray.empty (w.alloc (.cells #[.pointer none, .slice none 0 0] 43)) hwf hk (by omega) (by simpa using hsz) (Lib.IsBuilderF.of (Lib.fresh_isBuilder 43 5 w)) (by simp)
  rw [hI] at c ⊢
  rw [ByteArray.empty_append] at c
  generalize fm L k = F at *
  go_enter Try.func8, Try.ntmps8
  go_wp2_with fail
  refine c.mono ?_
  rintro e w1 ⟨rfl, h1, hb1, ho1⟩
  have hb01 : Below w.heap.size w w1 := ((Below.refl _ _).alloc (Nat.le_refl _) _).trans hb1
  have h1' : Lib.IsBuilderF 43 5 w.heap.size w.heap.size (Lib.byteCells F.data.toList) w1 := by rw [← Lib.strCells_eq]; exact h1
  clear c h1 hb1 ho1
  go_wp2_with fail
  refine (bstring_any w.heap.size w.heap.size F.data.toList _ h1' hb01.size).mono ?_
  rintro e w2 ⟨rfl, _, hb2, _⟩
  go_wp2_with fail
  go_ret
  exact ⟨rfl, hb01.trans hb2⟩
end Go.Proofs.Ytodabmkcihafhaa
