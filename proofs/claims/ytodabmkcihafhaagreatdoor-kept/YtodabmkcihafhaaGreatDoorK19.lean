import Derived.ProofKit
import Derived.OpenShut
import Derived.ShutString
import Derived.Test.YtodabmkcihafhaaGreatDoorK11
import Derived.Test.YtodabmkcihafhaaGreatDoorK18
import Derived.Test.YtodabmkcihafhaaGreatDoorK5
import Derived.Test.YtodabmkcihafhaaGreatDoorK17
import Derived.Test.YtodabmkcihafhaaGreatDoorK10

/- The program's Write: write, writeAs, Write. -/
namespace Go.Proofs.YtodabmkcihafhaaGreatDoor
open Go.RowKit
set_option linter.unusedVariables false

def WaC (B b : Nat) (A : Value) (least : Nat) (X : ByteArray) : Prop := ∀ (t : ByteArray) (W : World), t.size + X.size ≤ 5000 → BSt B b t W → B ≤ W.heap.size →
  Calls Tryz.prog 81 #[.pointer (some ⟨b, 0, none⟩), A, .int .i64 least] W (WrPost B b (t ++ X) W)
theorem others_cells {b : Nat} {w w' : World} (h : Lib.OthersKept 5 (some b) w w') {H : Nat} {cs : Array Value} {T : TypeId} (hT : T ≠ 5) (hH : H ≠ b) (hh : w.heap[H]? = some (.cells cs T (0, 0))) : w'.heap[H]? = some (.cells cs T (0, 0)) :=
  h H _ hh (fun e => hH (Option.some.inj e)) (fun c fz e => hT (by injection e))
theorem others_alloc {b : Nat} {w w' : World} (o : Obj) (h : Lib.OthersKept 5 (some b) (w.alloc o) w') : Lib.OthersKept 5 (some b) w w' :=
  ((Lib.OthersKept.refl _ _ w).alloc o).trans h

set_option maxHeartbeats 2000000 in
set_option maxRecDepth 1000000 in
theorem w_num (B b : Nat) (t : ByteArray) (s : ByteArray) (w : World) (h : BSt B b t w) (hBw : B ≤ w.heap.size) (hl : t.size + s.size ≤ 5000) :
    Calls Tryz.prog 53 #[.pointer (some ⟨b, 0, none⟩), .iface 178 (.agg #[.string s])] w (WrPost B b (t ++ s) w) := by
  have qNumeral := taNumeralNumeral (.agg #[.string s])
  go_enter Tryz.func53, Tryz.ntmps53
  go_wp2_with fail
  refine (wstring_st B b t s _ (h.alloc _) (by omega) (by simp; omega)).mono ?_
  rintro e w1 ⟨⟨v, rfl⟩, h1, hb1, ho1⟩
  go_wp2_with fail
  go_end0
  exact ⟨rfl, h1, ((Below.refl _ _).alloc hBw _).trans hb1, others_alloc _ ho1⟩
set_option maxHeartbeats 2000000 in
set_option maxRecDepth 1000000 in
theorem w_unit (B b : Nat) (t : ByteArray)  (w : World) (h : BSt B b t w) (hBw : B ≤ w.heap.size) (hl : t.size ≤ 5000) :
    Calls Tryz.prog 53 #[.pointer (some ⟨b, 0, none⟩), .iface 183 (.agg #[])] w (WrPost B b (t ++ Utf8.encode ((105 : Nat) : Int)) w) := by
  have qNumeral := taUnitNumeral (.agg #[])
  have qUnit := taUnitUnit (.agg #[])
  go_enter Tryz.func53, Tryz.ntmps53
  go_wp2_with fail
  refine (wrune_st B b 105 t _ (by decide) (h.alloc _) (by omega) (by simp; omega)).mono ?_
  rintro e w1 ⟨⟨v, rfl⟩, h1, hb1, ho1⟩
  go_wp2_with fail
  go_end0
  exact ⟨rfl, h1, ((Below.refl _ _).alloc hBw _).trans hb1, others_alloc _ ho1⟩
set_option maxHeartbeats 2000000 in
set_option maxRecDepth 1000000 in
theorem w_name (B b : Nat) (t : ByteArray) (c : Nat) (q : Nat) (w : World) (h : BSt B b t w) (hBw : B ≤ w.heap.size) (hl : t.size ≤ 5000) (hc : c < 55296) :
    Calls Tryz.prog 53 #[.pointer (some ⟨b, 0, none⟩), .iface 185 (.agg #[.int .i32 c, .int .i64 q])] w (WrPost B b (t ++ Utf8.encode (c : Int)) w) := by
  have qNumeral := taNameNumeral (.agg #[.int .i32 c, .int .i64 q])
  have qUnit := taNameUnit (.agg #[.int .i32 c, .int .i64 q])
  have qName := taNameName (.agg #[.int .i32 c, .int .i64 q])
  go_enter Tryz.func53, Tryz.ntmps53
  go_wp2_with fail
  refine (wrune_st B b c t _ hc (h.alloc _) (by omega) (by simp; omega)).mono ?_
  rintro e w1 ⟨⟨v, rfl⟩, h1, hb1, ho1⟩
  go_wp2_with fail
  go_end0
  exact ⟨rfl, h1, ((Below.refl _ _).alloc hBw _).trans hb1, others_alloc _ ho1⟩
set_option maxHeartbeats 2000000 in
set_option maxRecDepth 1000000 in
theorem w_mark (B b : Nat) (t : ByteArray) (c : Nat) (q : Nat) (T : TypeId) (y : Value) (X : ByteArray) (w : World) (h : BSt B b t w) (hBw : B ≤ w.heap.size) (hl : t.size + X.size ≤ 5000) (hc : c < 55296) (cA : WaC B b (.iface T y) 3 X) :
    Calls Tryz.prog 53 #[.pointer (some ⟨b, 0, none⟩), .iface 187 (.agg #[.iface T y, .int .i32 c, .int .i64 q])] w (WrPost B b (t ++ X ++ Utf8.encode (c : Int)) w) := by
  have qNumeral := taMarkedNumeral (.agg #[.iface T y, .int .i32 c, .int .i64 q])
  have qUnit := taMarkedUnit (.agg #[.iface T y, .int .i32 c, .int .i64 q])
  have qName := taMarkedName (.agg #[.iface T y, .int .i32 c, .int .i64 q])
  have qMarked := taMarkedMarked (.agg #[.iface T y, .int .i32 c, .int .i64 q])
  go_enter Tryz.func53, Tryz.ntmps53
  go_wp2_with fail
  refine (cA t _ (by omega) (h.alloc _) (by simp; omega)).mono ?_
  rintro e w1 ⟨rfl, h1, hb1, ho1⟩
  have hH : w1.heap[w.heap.size]? = some (.cells #[.iface T y, .int .i32 c, .int .i64 q] 187 (0, 0)) := others_cells ho1 (by decide) (by have := h.lt; omega) (heap_alloc_new w _)
  have z1 : w1.cell? ⟨w.heap.size, 1, none⟩ = some (.int .i32 c) := by simp [World.cell?, hH]
  have hb01 : Below B w w1 := ((Below.refl _ _).alloc hBw _).trans hb1
  have ho01 := others_alloc _ ho1
  have hBw1 : B ≤ w1.heap.size := Nat.le_trans hBw hb01.size
  clear hH ho1 hb1 h
  go_wp2_with fail
  refine (wrune_st B b c (t ++ X) _ hc h1 (by rw [ByteArray.size_append]; omega) hBw1).mono ?_
  rintro e w2 ⟨⟨v, rfl⟩, h2, hb2, ho2⟩
  go_wp2_with fail
  go_end0
  exact ⟨rfl, h2, hb01.trans hb2, ho01.trans ho2⟩
set_option maxHeartbeats 2000000 in
set_option maxRecDepth 1000000 in
theorem w_neg (B b : Nat) (t : ByteArray) (T : TypeId) (y : Value) (X : ByteArray) (w : World) (h : BSt B b t w) (hBw : B ≤ w.heap.size) (hl : t.size + (Utf8.encode ((8722 : Nat) : Int)).size + X.size ≤ 5000) (cA : WaC B b (.iface T y) 2 X) :
    Calls Tryz.prog 53 #[.pointer (some ⟨b, 0, none⟩), .iface 191 (.agg #[.iface T y])] w (WrPost B b (t ++ Utf8.encode ((8722 : Nat) : Int) ++ X) w) := by
  have qNumeral := taNegatedNumeral (.agg #[.iface T y])
  have qUnit := taNegatedUnit (.agg #[.iface T y])
  have qName := taNegatedName (.agg #[.iface T y])
  have qMarked := taNegatedMarked (.agg #[.iface T y])
  have qNegated := taNegatedNegated (.agg #[.iface T y])
  go_enter Tryz.func53, Tryz.ntmps53
  go_wp2_with fail
  refine (wrune_st B b 8722 t _ (by decide) (h.alloc _) (by omega) (by simp; omega)).mono ?_
  rintro e w1 ⟨⟨v, rfl⟩, h1, hb1, ho1⟩
  have hH : w1.heap[w.heap.size]? = some (.cells #[.iface T y] 191 (0, 0)) := others_cells ho1 (by decide) (by have := h.lt; omega) (heap_alloc_new w _)
  have z1 : w1.cell? ⟨w.heap.size, 0, none⟩ = some (.iface T y) := by simp [World.cell?, hH]
  have hb01 : Below B w w1 := ((Below.refl _ _).alloc hBw _).trans hb1
  have ho01 := others_alloc _ ho1
  have hBw1 : B ≤ w1.heap.size := Nat.le_trans hBw hb01.size
  clear hH ho1 hb1 h
  have he4 := enc_size ((8722 : Nat) : Int)
  go_wp2_with fail
  refine (cA (t ++ Utf8.encode ((8722 : Nat) : Int)) _ (by rw [ByteArray.size_append]; omega) h1 hBw1).mono ?_
  rintro e w2 ⟨rfl, h2, hb2, ho2⟩
  go_wp2_with fail
  go_end0
  exact ⟨rfl, h2, hb01.trans hb2, ho01.trans ho2⟩
set_option maxHeartbeats 2000000 in
set_option maxRecDepth 1000000 in
theorem w_prd (B b : Nat) (t : ByteArray) (c : Nat) (q : Nat) (T U : TypeId) (y z : Value) (X Y : ByteArray) (w : World) (h : BSt B b t w) (hBw : B ≤ w.heap.size) (hl : t.size + X.size + (Utf8.encode (c : Int)).size + Y.size ≤ 5000) (hc : c < 55296) (cA : WaC B b (.iface T y) 1 X) (cB : WaC B b (.iface U z) 2 Y) :
    Calls Tryz.prog 53 #[.pointer (some ⟨b, 0, none⟩), .iface 193 (.agg #[.iface T y, .int .i32 c, .int .i64 q, .iface U z])] w (WrPost B b (t ++ X ++ Utf8.encode (c : Int) ++ Y) w) := by
  have qNumeral := taProductNumeral (.agg #[.iface T y, .int .i32 c, .int .i64 q, .iface U z])
  have qUnit := taProductUnit (.agg #[.iface T y, .int .i32 c, .int .i64 q, .iface U z])
  have qName := taProductName (.agg #[.iface T y, .int .i32 c, .int .i64 q, .iface U z])
  have qMarked := taProductMarked (.agg #[.iface T y, .int .i32 c, .int .i64 q, .iface U z])
  have qNegated := taProductNegated (.agg #[.iface T y, .int .i32 c, .int .i64 q, .iface U z])
  have qProduct := taProductProduct (.agg #[.iface T y, .int .i32 c, .int .i64 q, .iface U z])
  go_enter Tryz.func53, Tryz.ntmps53
  go_wp2_with fail
  refine (cA t _ (by omega) (h.alloc _) (by simp; omega)).mono ?_
  rintro e w1 ⟨rfl, h1, hb1, ho1⟩
  have hH : w1.heap[w.heap.size]? = some (.cells #[.iface T y, .int .i32 c, .int .i64 q, .iface U z] 193 (0, 0)) := others_cells ho1 (by decide) (by have := h.lt; omega) (heap_alloc_new w _)
  have z1 : w1.cell? ⟨w.heap.size, 1, none⟩ = some (.int .i32 c) := by simp [World.cell?, hH]
  have hb01 : Below B w w1 := ((Below.refl _ _).alloc hBw _).trans hb1
  have ho01 := others_alloc _ ho1
  have hBw1 : B ≤ w1.heap.size := Nat.le_trans hBw hb01.size
  have HH : Hid (w1.heap[w.heap.size]? = some (.cells #[.iface T y, .int .i32 c, .int .i64 q, .iface U z] 193 (0, 0))) := hH
  have hlt := h.lt
  clear hH ho1 hb1 h
  go_wp2_with fail
  refine (wrune_st B b c (t ++ X) _ hc h1 (by rw [ByteArray.size_append]; omega) hBw1).mono ?_
  rintro e w2 ⟨⟨v, rfl⟩, h2, hb2, ho2⟩
  have hH2 : w2.heap[w.heap.size]? = some (.cells #[.iface T y, .int .i32 c, .int .i64 q, .iface U z] 193 (0, 0)) := others_cells ho2 (by decide) (by omega) HH.out
  have z2 : w2.cell? ⟨w.heap.size, 3, none⟩ = some (.iface U z) := by simp [World.cell?, hH2]
  have hb02 := hb01.trans hb2
  have ho02 := ho01.trans ho2
  have hBw2 : B ≤ w2.heap.size := Nat.le_trans hBw1 hb2.size
  have he4 := enc_size ((c : Nat) : Int)
  clear hH2 ho2 hb2 z1 HH h1 ho01 hb01
  go_wp2_with fail
  refine (cB (t ++ X ++ Utf8.encode (c : Int)) _ (by rw [ByteArray.size_append, ByteArray.size_append]; omega) h2 hBw2).mono ?_
  rintro e w3 ⟨rfl, h3, hb3, ho3⟩
  go_wp2_with fail
  go_end0
  exact ⟨rfl, h3, hb02.trans hb3, ho02.trans ho3⟩
set_option maxHeartbeats 2000000 in
set_option maxRecDepth 1000000 in
theorem w_sum (B b : Nat) (t : ByteArray) (c : Nat) (q : Nat) (T U : TypeId) (y z : Value) (X Y : ByteArray) (w : World) (h : BSt B b t w) (hBw : B ≤ w.heap.size) (hl : t.size + X.size + (Utf8.encode (c : Int)).size + Y.size ≤ 5000) (hc : c < 55296) (cA : WaC B b (.iface T y) 0 X) (cB : WaC B b (.iface U z) 1 Y) :
    Calls Tryz.prog 53 #[.pointer (some ⟨b, 0, none⟩), .iface 194 (.agg #[.iface T y, .int .i32 c, .int .i64 q, .iface U z])] w (WrPost B b (t ++ X ++ Utf8.encode (c : Int) ++ Y) w) := by
  have qNumeral := taSumNumeral (.agg #[.iface T y, .int .i32 c, .int .i64 q, .iface U z])
  have qUnit := taSumUnit (.agg #[.iface T y, .int .i32 c, .int .i64 q, .iface U z])
  have qName := taSumName (.agg #[.iface T y, .int .i32 c, .int .i64 q, .iface U z])
  have qMarked := taSumMarked (.agg #[.iface T y, .int .i32 c, .int .i64 q, .iface U z])
  have qNegated := taSumNegated (.agg #[.iface T y, .int .i32 c, .int .i64 q, .iface U z])
  have qProduct := taSumProduct (.agg #[.iface T y, .int .i32 c, .int .i64 q, .iface U z])
  have qSum := taSumSum (.agg #[.iface T y, .int .i32 c, .int .i64 q, .iface U z])
  go_enter Tryz.func53, Tryz.ntmps53
  go_wp2_with fail
  refine (cA t _ (by omega) (h.alloc _) (by simp; omega)).mono ?_
  rintro e w1 ⟨rfl, h1, hb1, ho1⟩
  have hH : w1.heap[w.heap.size]? = some (.cells #[.iface T y, .int .i32 c, .int .i64 q, .iface U z] 194 (0, 0)) := others_cells ho1 (by decide) (by have := h.lt; omega) (heap_alloc_new w _)
  have z1 : w1.cell? ⟨w.heap.size, 1, none⟩ = some (.int .i32 c) := by simp [World.cell?, hH]
  have hb01 : Below B w w1 := ((Below.refl _ _).alloc hBw _).trans hb1
  have ho01 := others_alloc _ ho1
  have hBw1 : B ≤ w1.heap.size := Nat.le_trans hBw hb01.size
  have HH : Hid (w1.heap[w.heap.size]? = some (.cells #[.iface T y, .int .i32 c, .int .i64 q, .iface U z] 194 (0, 0))) := hH
  have hlt := h.lt
  clear hH ho1 hb1 h
  go_wp2_with fail
  refine (wrune_st B b c (t ++ X) _ hc h1 (by rw [ByteArray.size_append]; omega) hBw1).mono ?_
  rintro e w2 ⟨⟨v, rfl⟩, h2, hb2, ho2⟩
  have hH2 : w2.heap[w.heap.size]? = some (.cells #[.iface T y, .int .i32 c, .int .i64 q, .iface U z] 194 (0, 0)) := others_cells ho2 (by decide) (by omega) HH.out
  have z2 : w2.cell? ⟨w.heap.size, 3, none⟩ = some (.iface U z) := by simp [World.cell?, hH2]
  have hb02 := hb01.trans hb2
  have ho02 := ho01.trans ho2
  have hBw2 : B ≤ w2.heap.size := Nat.le_trans hBw1 hb2.size
  have he4 := enc_size ((c : Nat) : Int)
  clear hH2 ho2 hb2 z1 HH h1 ho01 hb01
  go_wp2_with fail
  refine (cB (t ++ X ++ Utf8.encode (c : Int)) _ (by rw [ByteArray.size_append, ByteArray.size_append]; omega) h2 hBw2).mono ?_
  rintro e w3 ⟨rfl, h3, hb3, ho3⟩
  go_wp2_with fail
  go_end0
  exact ⟨rfl, h3, hb02.trans hb3, ho02.trans ho3⟩

def CWr (f : Nat) : Prop := ∀ (L : List Nd) (k B b : Nat) (t : ByteArray) (w : World), WfL L → k < L.length → k < f → t.size + (fm L k).size ≤ 5000 → BSt B b t w → B ≤ w.heap.size →
  Calls Tryz.prog 53 #[.pointer (some ⟨b, 0, none⟩), den L k] w (WrPost B b (t ++ fm L k) w)
def CWa (f : Nat) : Prop := ∀ (L : List Nd) (k B b least : Nat), WfL L → k < L.length → k < f → least ≤ 3 → WaC B b (den L k) least (brk (rankP (opAt L k)) least (fm L k))

theorem enc40 : Utf8.encode ((40 : Nat) : Int) = ⟨#[40]⟩ := by decide +kernel
theorem enc41 : Utf8.encode ((41 : Nat) : Int) = ⟨#[41]⟩ := by decide +kernel

set_option maxHeartbeats 2000000 in
set_option maxRecDepth 100000 in
theorem wa_step (f : Nat) (ih : CWr f) : CWa f := by
  intro L k B b least hwf hk hkf hl t w hsz h hBw
  obtain ⟨n, hn⟩ : ∃ n, L[k]? = some n := ⟨L[k], List.getElem?_eq_getElem hk⟩
  have hop : opAt L k = n.op := by unfold opAt; rw [hn]
  have hd := den_eq L k n hwf hn
  have lv := levelOf_any n (den L n.a) (den L n.b) w
  rw [← hd] at lv
  rw [hop] at hsz ⊢
  obtain ⟨T, y, hI⟩ := den_isI L k hwf hk
  have hr3 : rankP n.op ≤ 3 := by unfold rankP; repeat' split
                                  all_goals omega
  have wr := fun t w h1 h2 h3 => ih L k B b t w hwf hk hkf h1 h2 h3
  rw [hI] at lv wr ⊢
  generalize fm L k = F at *
  generalize rankP n.op = r at *
  have WRH : Hid (∀ (t : ByteArray) (w : World), t.size + F.size ≤ 5000 → BSt B b t w → B ≤ w.heap.size → Calls Tryz.prog 53 #[.pointer (some ⟨b, 0, none⟩), .iface T y] w (WrPost B b (t ++ F) w)) := wr
  clear wr hd hop hI ih
  by_cases hlt : r < least
  · have e1 : brk r least F = ⟨#[40]⟩ ++ F ++ ⟨#[41]⟩ := by unfold brk; rw [if_pos hlt]
    have s40 : (ByteArray.mk #[40]).size = 1 := rfl
    have s41 : (ByteArray.mk #[41]).size = 1 := rfl
    rw [e1] at hsz ⊢
    rw [ByteArray.size_append, ByteArray.size_append, s40, s41] at hsz
    have q1 : ¬ (least : Int) ≤ (r : Int) := by omega
    clear e1
    go_enter Tryz.func81, Tryz.ntmps81
    go_wp2_with fail
    refine lv.mono ?_
    rintro e w1 ⟨rfl, hw1⟩
    have hw1 := hw1.symm
    subst hw1
    clear lv
    go_wp2_with fail
    refine (wrune_st B b 40 t _ (by decide) h (by omega) hBw).mono ?_
    rintro e w2 ⟨⟨v, rfl⟩, h2, hb2, ho2⟩
    rw [enc40] at h2
    have hBw2 : B ≤ w2.heap.size := Nat.le_trans hBw hb2.size
    go_wp2_with fail
    refine (WRH.out (t ++ ⟨#[40]⟩) _ (by rw [ByteArray.size_append, s40]; omega) h2 hBw2).mono ?_
    rintro e w3 ⟨rfl, h3, hb3, ho3⟩
    have hBw3 : B ≤ w3.heap.size := Nat.le_trans hBw2 hb3.size
    go_wp2_with fail
    refine (wrune_st B b 41 (t ++ ⟨#[40]⟩ ++ F) _ (by decide) h3 (by rw [ByteArray.size_append, ByteArray.size_append, s40]; omega) hBw3).mono ?_
    rintro e w4 ⟨⟨v, rfl⟩, h4, hb4, ho4⟩
    rw [enc41] at h4
    go_wp2_with fail
    go_end0
    refine ⟨rfl, ?_, (hb2.trans hb3).trans hb4, (ho2.trans ho3).trans ho4⟩
    rw [← ByteArray.append_assoc, ← ByteArray.append_assoc]
    exact h4
  · have e1 : brk r least F = F := by unfold brk; rw [if_neg hlt]
    rw [e1] at hsz ⊢
    have q1 : (least : Int) ≤ (r : Int) := by omega
    clear e1
    go_enter Tryz.func81, Tryz.ntmps81
    go_wp2_with fail
    refine lv.mono ?_
    rintro e w1 ⟨rfl, hw1⟩
    have hw1 := hw1.symm
    subst hw1
    clear lv
    go_wp2_with fail
    refine (WRH.out t _ (by omega) h hBw).mono ?_
    rintro e w3 ⟨rfl, h3, hb3, ho3⟩
    go_wp2_with fail
    go_end0
    exact ⟨rfl, h3, hb3, ho3⟩

theorem wr_step (f : Nat) (ih : CWa f) : CWr (f + 1) := by
  intro L k B b t w hwf hk hkf hsz h hBw
  obtain ⟨n, hn⟩ : ∃ n, L[k]? = some n := ⟨L[k], List.getElem?_eq_getElem hk⟩
  obtain ⟨w0, w1, w2, w3⟩ := hwf k n hn
  obtain ⟨c, hc⟩ := Int.eq_ofNat_of_zero_le w0
  have hfm := fm_eq L k n hwf hn
  have hdn := den_eq L k n hwf hn
  have hc5 : c < 55296 := by omega
  have sub : ∀ a least, a < k → least ≤ 3 → WaC B b (den L a) least (brk (rankP (opAt L a)) least (fm L a)) := fun a least ha hl => ih L a B b least hwf (by omega) (by omega) hl
  unfold nodeF at hfm
  unfold nodeD at hdn
  rw [hc] at hfm hdn
  rw [hdn]
  rw [hfm] at hsz ⊢
  by_cases h1 : (c : Int) = 43 ∨ (c : Int) = 8722
  · rw [if_pos h1] at hsz ⊢
    rw [if_pos h1]
    obtain ⟨q1, q2⟩ := w2 (by unfold isBin; rw [hc]; rcases h1 with e | e <;> simp [e])
    obtain ⟨T, y, hI⟩ := den_isI L n.a hwf (by omega)
    obtain ⟨U, z, hJ⟩ := den_isI L n.b hwf (by omega)
    have sa := sub n.a 0 q1 (by decide)
    have sb := sub n.b 1 q2 (by decide)
    rw [hI] at sa
    rw [hJ] at sb
    rw [hI, hJ, ← ByteArray.append_assoc, ← ByteArray.append_assoc]
    rw [ByteArray.size_append, ByteArray.size_append] at hsz
    exact w_sum B b t c n.pl T U y z _ _ w h hBw (by omega) hc5 sa sb
  · rw [if_neg h1] at hsz ⊢
    rw [if_neg h1]
    by_cases h2 : (c : Int) = 215 ∨ (c : Int) = 247
    · rw [if_pos h2] at hsz ⊢
      rw [if_pos h2]
      obtain ⟨q1, q2⟩ := w2 (by unfold isBin; rw [hc]; rcases h2 with e | e <;> simp [e])
      obtain ⟨T, y, hI⟩ := den_isI L n.a hwf (by omega)
      obtain ⟨U, z, hJ⟩ := den_isI L n.b hwf (by omega)
      have sa := sub n.a 1 q1 (by decide)
      have sb := sub n.b 2 q2 (by decide)
      rw [hI] at sa
      rw [hJ] at sb
      rw [hI, hJ, ← ByteArray.append_assoc, ← ByteArray.append_assoc]
      rw [ByteArray.size_append, ByteArray.size_append] at hsz
      exact w_prd B b t c n.pl T U y z _ _ w h hBw (by omega) hc5 sa sb
    · rw [if_neg h2] at hsz ⊢
      rw [if_neg h2]
      by_cases h3 : (c : Int) = 110
      · rw [if_pos h3] at hsz ⊢
        rw [if_pos h3]
        have q1 := w3 (by unfold isUn; rw [hc]; simp [h3])
        obtain ⟨T, y, hI⟩ := den_isI L n.a hwf (by omega)
        have sa := sub n.a 2 q1 (by decide)
        rw [hI] at sa
        rw [hI, ← ByteArray.append_assoc]
        rw [ByteArray.size_append] at hsz
        exact w_neg B b t T y _ w h hBw (by rw [show ((8722 : Nat) : Int) = 8722 from rfl]; omega) sa
      · rw [if_neg h3] at hsz ⊢
        rw [if_neg h3]
        by_cases h4 : (c : Int) = 178 ∨ (c : Int) = 8242
        · rw [if_pos h4] at hsz ⊢
          rw [if_pos h4]
          have q1 := w3 (by unfold isUn; rw [hc]; rcases h4 with e | e <;> simp [e])
          obtain ⟨T, y, hI⟩ := den_isI L n.a hwf (by omega)
          have sa := sub n.a 3 q1 (by decide)
          rw [hI] at sa
          rw [hI, ← ByteArray.append_assoc]
          rw [ByteArray.size_append] at hsz
          exact w_mark B b t c n.pl T y _ w h hBw (by omega) hc5 sa
        · rw [if_neg h4] at hsz ⊢
          rw [if_neg h4]
          by_cases h5 : (c : Int) = 48
          · rw [if_pos h5] at hsz ⊢
            rw [if_pos h5]
            exact w_num B b t n.text w h hBw (by omega)
          · rw [if_neg h5] at hsz ⊢
            rw [if_neg h5]
            by_cases h6 : (c : Int) = 105
            · rw [if_pos h6]
              obtain rfl : c = 105 := by omega
              exact w_unit B b t w h hBw (by omega)
            · rw [if_neg h6]
              exact w_name B b t c n.pl w h hBw (by omega) hc5
theorem wr_all : ∀ f, CWr f ∧ CWa f := by
  intro f
  induction f with
  | zero =>
    refine ⟨?_, ?_⟩
    · intro L k B b t w _ _ h; omega
    · intro L k B b least _ _ h; omega
  | succ f ih =>
    have := wr_step f ih.2
    exact ⟨this, wa_step (f + 1) this⟩

set_option maxHeartbeats 2000000 in
set_option maxRecDepth 100000 in
theorem write_any (L : List Nd) (k : Nat) (w : World) (hwf : WfL L) (hk : k < L.length) (hsz : (fm L k).size ≤ 5000) :
    Calls Tryz.prog 33 #[den L k] w fun e w' => e = .returned (.string (fm L k)) ∧ Below w.heap.size w w' := by
  obtain ⟨T, y, hI⟩ := den_isI L k hwf hk
  have c := (wr_all (k + 1)).1 L k w.heap.size w.heap.size ByteArray.empty (w.alloc (.cells #[.pointer none, .slice none 0 0] 123)) hwf hk (by omega) (by simpa using hsz) (Lib.IsBuilderF.of (Lib.fresh_isBuilder 123 5 w)) (by simp)
  rw [hI] at c ⊢
  rw [ByteArray.empty_append] at c
  generalize fm L k = F at *
  go_enter Tryz.func33, Tryz.ntmps33
  go_wp2_with fail
  refine c.mono ?_
  rintro e w1 ⟨rfl, h1, hb1, ho1⟩
  have hb01 : Below w.heap.size w w1 := ((Below.refl _ _).alloc (Nat.le_refl _) _).trans hb1
  have h1' : Lib.IsBuilderF 123 5 w.heap.size w.heap.size (Lib.byteCells F.data.toList) w1 := by rw [← Lib.strCells_eq]; exact h1
  clear c h1 hb1 ho1
  go_wp2_with fail
  refine (bstring_any w.heap.size w.heap.size F.data.toList _ h1' hb01.size).mono ?_
  rintro e w2 ⟨rfl, _, hb2, _⟩
  go_wp2_with fail
  go_ret
  exact ⟨rfl, hb01.trans hb2⟩
end Go.Proofs.YtodabmkcihafhaaGreatDoor

/- The program's read and Print. -/
namespace Go.Proofs.YtodabmkcihafhaaGreatDoor
open Go.ChangeShapes Go.WideShapes Go.ChangeAt Go.RowKit
open Go.ChangeMaps (open_string shut_string)
set_option linter.unusedVariables false

set_option maxHeartbeats 2000000 in
set_option maxRecDepth 100000 in
theorem read_any (s : ByteArray) (w : World) :
    Calls Tryz.prog 32 #[.string s] w fun e w' => e = .returned (.tuple #[if 120 < s.size then .nilIface else if good s then den (top s).L (top s).k else .nilIface, .int .i64 (refE s), .int .i64 (refP s)]) ∧ Below w.heap.size w w' := by
  unfold refE refP
  by_cases h120 : 120 < s.size
  · rw [if_pos h120, if_pos h120, if_pos h120]
    go_enter Tryz.func32, Tryz.ntmps32
    go_wp2_with fail
    go_ret3
    exact ⟨rfl, Below.refl _ _⟩
  · rw [if_neg h120, if_neg h120, if_neg h120]
    have c := parse_any s w (by omega)
    unfold parseR at c
    by_cases hg : good s = true
    · rw [if_pos hg] at c
      rw [if_pos hg, if_pos hg, if_pos hg]
      obtain ⟨t1, t2, t3, t4⟩ := top_size s (by omega) hg
      obtain ⟨T, y, hI⟩ := den_isI (top s).L (top s).k t1 (by omega)
      rw [hI] at c ⊢
      clear hg t1 t2 t3 t4 hI
      go_enter Tryz.func32, Tryz.ntmps32
      go_wp2_with fail
      refine c.mono ?_
      rintro e w1 ⟨rfl, hb1⟩
      go_wp2_with fail
      go_ret3
      exact ⟨rfl, hb1⟩
    · rw [if_neg hg] at c
      rw [if_neg hg, if_neg hg, if_neg hg]
      generalize hp (top s).ts = pl at *
      clear hg
      go_enter Tryz.func32, Tryz.ntmps32
      go_wp2_with fail
      refine c.mono ?_
      rintro e w1 ⟨rfl, hb1⟩
      go_wp2_with fail
      go_ret3
      exact ⟨rfl, hb1⟩
set_option maxHeartbeats 2000000 in
set_option maxRecDepth 100000 in
theorem print_any (s : ByteArray) (w : World) :
    Calls Tryz.prog 13 #[.string s] w fun e w' => e = .returned (.tuple #[.string (refT s), .int .i64 (refE s), .int .i64 (refP s)]) ∧ Below w.heap.size w w' := by
  have rd := read_any s w
  unfold refT
  by_cases h120 : 120 < s.size
  · rw [if_pos h120] at rd ⊢
    have e1 : (refE s != 0) = true := by unfold refE; rw [if_pos h120]; rfl
    generalize refE s = E at *
    generalize refP s = Pl at *
    clear h120
    go_enter Tryz.func13, Tryz.ntmps13
    go_wp2_with fail
    refine rd.mono ?_
    rintro e w1 ⟨rfl, hb1⟩
    go_wp2_with fail
    go_ret3
    exact ⟨rfl, hb1⟩
  · rw [if_neg h120] at rd ⊢
    by_cases hg : good s = true
    · rw [if_pos hg] at rd ⊢
      obtain ⟨t1, t2, t3, t4⟩ := top_size s (by omega) hg
      have e1 : refE s = 0 := by unfold refE; rw [if_neg h120, if_pos hg]
      have e2 : refP s = 0 := by unfold refP; rw [if_neg h120, if_pos hg]
      rw [e1, e2] at rd ⊢
      have cw := fun W => write_any (top s).L (top s).k W t1 (by omega) (by omega)
      obtain ⟨T, y, hI⟩ := den_isI (top s).L (top s).k t1 (by omega)
      rw [hI] at rd
      simp only [hI] at cw
      generalize fm (top s).L (top s).k = F at *
      have CW : Hid (∀ W, Calls Tryz.prog 33 #[.iface T y] W fun e w' => e = .returned (.string F) ∧ Below W.heap.size W w') := cw
      clear cw hg t1 t2 t3 t4 e1 e2 hI
      go_enter Tryz.func13, Tryz.ntmps13
      go_wp2_with fail
      refine rd.mono ?_
      rintro e w1 ⟨rfl, hb1⟩
      go_wp2_with fail
      refine (CW.out _).mono ?_
      rintro e w2 ⟨rfl, hb2⟩
      go_wp2_with fail
      go_ret3
      exact ⟨rfl, hb1.trans (hb2.mono hb1.size)⟩
    · rw [if_neg hg] at rd ⊢
      have e1 : (refE s != 0) = true := by unfold refE; rw [if_neg h120, if_neg hg]; rfl
      generalize refE s = E at *
      generalize refP s = Pl at *
      clear hg
      go_enter Tryz.func13, Tryz.ntmps13
      go_wp2_with fail
      refine rd.mono ?_
      rintro e w1 ⟨rfl, hb1⟩
      go_wp2_with fail
      go_ret3
      exact ⟨rfl, hb1⟩

theorem num_any (e : Int) (w : World) : Calls Tryz.prog 15 #[.int .i64 e] w fun r w' => r = .returned (.int .i64 e) ∧ w' = w := by
  go_enter Tryz.func15, Tryz.ntmps15
  go_wp2_with fail
  go_ret
  exact ⟨rfl, rfl⟩

end Go.Proofs.YtodabmkcihafhaaGreatDoor

/- The program's page.number. -/
namespace Go.Proofs.YtodabmkcihafhaaGreatDoor
open Go.RowKit
set_option linter.unusedVariables false

structure NW (N : Nat) (aZ aB : Addr) (P m T r : Nat) (names : List (Int × Num)) (w : World) (z : Array Value) (W : World) : Prop where
  pw : Pw N aZ aB P m T r names W
  hz : W.heap[w.heap.size]? = some (.cells z 82 (0, 0))
  hr : r < w.heap.size
  hk : Kp (· = r) w W
section
variable {N : Nat} {aZ aB : Addr} {P m T r : Nat} {names : List (Int × Num)} {w : World} {z : Array Value} {W W' : World}
theorem NW.below (h : NW N aZ aB P m T r names w z W) (g : Below W.heap.size W W') : NW N aZ aB P m T r names w z W' :=
  ⟨h.pw.below g, (g.block _ (Array.getElem?_eq_some_iff.1 h.hz).1).trans h.hz, h.hr, h.hk.below g⟩
theorem NW.drew (h : NW N aZ aB P m T r names w z W) : NW N aZ aB P m T r names w z W.drew := h.below ((Below.refl _ W).drew)
theorem NW.kept (h : NW N aZ aB P m T r names w z W) (g : Kp (· = r) W W') (ht : Tb T r names W') : NW N aZ aB P m T r names w z W' :=
  ⟨h.pw.kept g ht, (g.block _ (Array.getElem?_eq_some_iff.1 h.hz).1 (by have := h.hr; omega)).trans h.hz, h.hr, h.hk.trans g⟩
theorem NW.setz {a b c d : Value} (h : NW N aZ aB P m T r names w #[a, b, c, d] W) (x : Num) :
    ((((W.setCell ⟨w.heap.size, 0, none⟩ (.int .i64 x.re.n)).setCell ⟨w.heap.size, 1, none⟩ (.int .i64 x.re.d)).setCell ⟨w.heap.size, 2, none⟩ (.int .i64 x.im.n)).setCell ⟨w.heap.size, 3, none⟩ (.int .i64 x.im.d)).heap[w.heap.size]? = some (.cells (numC x) 82 (0, 0)) ∧
    Tb T r names ((((W.setCell ⟨w.heap.size, 0, none⟩ (.int .i64 x.re.n)).setCell ⟨w.heap.size, 1, none⟩ (.int .i64 x.re.d)).setCell ⟨w.heap.size, 2, none⟩ (.int .i64 x.im.n)).setCell ⟨w.heap.size, 3, none⟩ (.int .i64 x.im.d)) ∧
    Kp (· = r) w ((((W.setCell ⟨w.heap.size, 0, none⟩ (.int .i64 x.re.n)).setCell ⟨w.heap.size, 1, none⟩ (.int .i64 x.re.d)).setCell ⟨w.heap.size, 2, none⟩ (.int .i64 x.im.n)).setCell ⟨w.heap.size, 3, none⟩ (.int .i64 x.im.d)) := by
  have hr := h.hr
  refine ⟨four_set h.hz _ _ _ _, ?_, (((h.hk.setCell (p := ⟨w.heap.size, 0, none⟩) (Or.inr (Nat.le_refl _)) _).setCell (p := ⟨w.heap.size, 1, none⟩) (Or.inr (Nat.le_refl _)) _).setCell (p := ⟨w.heap.size, 2, none⟩) (Or.inr (Nat.le_refl _)) _).setCell (p := ⟨w.heap.size, 3, none⟩) (Or.inr (Nat.le_refl _)) _⟩
  obtain ⟨es, clock, h1, h2⟩ := h.pw.tb.hr
  have nT : T ≠ w.heap.size := fun e => by
    have := h.hz
    rw [← e, h.pw.tb.ht] at this
    simp at this
  have nr : r ≠ w.heap.size := by omega
  refine ⟨?_, es, clock, ?_, h2⟩
  · rw [Below.heap_setCell _ _ _ _ nT, Below.heap_setCell _ _ _ _ nT, Below.heap_setCell _ _ _ _ nT, Below.heap_setCell _ _ _ _ nT]; exact h.pw.tb.ht
  · rw [Below.heap_setCell _ _ _ _ nr, Below.heap_setCell _ _ _ _ nr, Below.heap_setCell _ _ _ _ nr, Below.heap_setCell _ _ _ _ nr]; exact h1
end
theorem page_cell {w : World} {P m T : Nat} (h : w.heap[P]? = some (.cells #[.map (some m), .pointer (some ⟨T, 0, none⟩)] 118 (0, 0))) : w.cell? ⟨P, 1, none⟩ = some (.pointer (some ⟨T, 0, none⟩)) := by simp [World.cell?, h]

def rdN (s : ByteArray) : Value := if 120 < s.size then .nilIface else if good s then den (top s).L (top s).k else .nilIface
theorem rdN_ok {s : ByteArray} (h : s.size ≤ 120) (hg : good s = true) : rdN s = exV (treeT s) := by
  unfold rdN
  rw [if_neg (by omega), if_pos hg]
  exact (top_flat s hg).1
theorem rdN_err {s : ByteArray} (h : refE s ≠ 0) : rdN s = .nilIface := by
  unfold rdN
  unfold refE at h
  split
  · rfl
  · rename_i h1
    rw [if_neg h1] at h
    split
    · rename_i h2
      rw [if_pos h2] at h
      exact absurd rfl h
    · rfl
set_option maxHeartbeats 4000000 in
set_option maxRecDepth 100000 in
theorem pnumber_any (N : Nat) (aZ aB : Addr) (P m T r : Nat) (names : List (Int × Num)) (s : ByteArray) (w : World) (h : Pw N aZ aB P m T r names w) :
    Calls Tryz.prog 35 #[.pointer (some ⟨P, 0, none⟩), .string s] w fun e w' => e = .returned (ansV (valS names s)) ∧ Tb T r names w' ∧ Kp (· = r) w w' := by
  have h0 : NW N aZ aB P m T r names w #[.int .i64 0, .int .i64 0, .int .i64 0, .int .i64 0] (w.alloc (.cells #[.int .i64 0, .int .i64 0, .int .i64 0, .int .i64 0] 82)) :=
    ⟨h.below (fr_below w _), heap_alloc_new w _, by obtain ⟨es, c, h1, _⟩ := h.tb.hr; exact (Array.getElem?_eq_some_iff.1 h1).1, (Kp.refl _ w).alloc _⟩
  have CG : Hid (∀ W, Tb T r names W → Calls Tryz.prog 55 #[.pointer (some ⟨T, 0, none⟩), .string s] W fun e w' => ∃ v ok, e = .returned (.tuple #[.agg (numC v), .bool ok]) ∧ ((ok = true ∧ valS names s = .ok v) ∨ (ok = false ∧ v = ⟨⟨0, 0⟩, ⟨0, 0⟩⟩)) ∧ Below W.heap.size W w') := fun W hT => get_any T r names s W hT
  clear h
  go_enter Tryz.func35, Tryz.ntmps35
  go_upto_region 1 with fail
  generalize w.alloc _ = W at *
  have pc := page_cell h0.pw.hP
  have H0 := hidMk h0
  clear h0
  go_wp2_with fail
  refine (CG.out _ H0.out.pw.tb).mono ?_
  rintro e w1 ⟨v, ok, rfl, hc, hb1⟩
  have h1 := H0.out.below hb1
  have HC := hidMk hc
  clear H0 hb1 hc CG pc
  go_upto_region 2 with fail
  have h2 := h1.below (fr_below w1 (.cells (numC v) 82))
  have hx2 := heap_alloc_new w1 (.cells (numC v) 82)
  generalize w1.alloc _ = W2 at *
  generalize w1.heap.size = bx at *
  obtain ⟨x0, x1, x2, x3⟩ := four_cells hx2
  obtain ⟨z0, z1, z2, z3⟩ := four_cells h2.hz
  obtain ⟨f0, f1, f2, f3⟩ := four_frozen h2.hz
  have H2 := hidMk h2
  clear h2 hx2 h1
  rcases HC.out with ⟨rfl, hv⟩ | ⟨rfl, hv⟩
  · have HV : Hid (ansV (valS names s) = .tuple #[.agg (numC v), .int .i64 0, .int .i64 0]) := by
      show _ = _
      rw [hv]
      rfl
    clear HC hv
    go_wp2_with fail
    refine bp_gen (fun W' => W'.heap[w.heap.size]? = some (.cells (numC v) 82 (0, 0)) ∧ Tb T r names W' ∧ Kp (· = r) w W') (H2.out.setz v) ?_
    rintro W ⟨hz, ht, hk⟩
    obtain ⟨z0, z1, z2, z3⟩ := four_cells hz
    rw [HV.out]
    exact bodyPost_ret (v := .tuple #[.agg (numC v), .int .i64 0, .int .i64 0]) (by simp [results, Tryz.results35, go_sem, z0, z1, z2, z3]) rfl ⟨rfl, ht, hk⟩
  · clear HC hv x0 x1 x2 x3 z0 z1 z2 z3 f0 f1 f2 f3
    have CR : Hid (∀ W, Calls Tryz.prog 32 #[.string s] W fun e w' => e = .returned (.tuple #[rdN s, .int .i64 (refE s), .int .i64 (refP s)]) ∧ Below W.heap.size W w') := fun W => read_any s W
    rcases valS_read names s with ⟨hE, hs, hg, hv⟩ | ⟨hE, p, hp, hv⟩
    · have hP0 : refP s = 0 := by
        unfold refP
        rw [if_neg (by omega), if_pos hg]
      rw [hE, hP0, rdN_ok hs hg] at CR
      have hok := (top_tree s hg).2.2.1
      have CW : Hid (∀ W, Pg N aZ aB P m names W → Calls Tryz.prog 56 #[.pointer (some ⟨P, 0, none⟩), exV (treeT s)] W fun x w' => x = .returned (ansV (valS names s)) ∧ Below W.heap.size W w') := fun W hW => by
        rw [hv]
        exact work_any N aZ aB P m names (treeT s) W H2.out.pw.nm hok hW
      have hII := hidMk (exV_iface (treeT s))
      have HVS : Hid ((∃ x, valS names s = .ok x) ∨ ∃ q p, valS names s = .err q p ∧ q ≠ 0) := by
        rw [hv]
        unfold valT
        cases missT (envOf names) (treeT s) with
        | some p => exact Or.inr ⟨3, p, rfl, by decide⟩
        | none =>
          have ev := ev_ok (env_ok H2.out.pw.nm) (treeT s) hok
          cases he : evT (envOf names) (treeT s) with
          | ok x => exact Or.inl ⟨x, rfl⟩
          | err q p =>
            have := ev.2 q p he
            exact Or.inr ⟨q, p, rfl, by omega⟩
      have HSZ := hidMk hs
      have CK := hidMk (fun v W hT hv => keep_any T r names s v W hT hv)
      have CC := hidMk (fun W => clone_any s W (by omega))
      generalize exV (treeT s) = vt at *
      clear hE hs hg hv hP0 hok
      obtain ⟨TT, yy, rfl⟩ := hII.out
      go_wp2_with fail
      refine (CR.out _).mono ?_
      rintro e w3 ⟨rfl, hb3⟩
      have h3 := H2.out.below hb3
      clear H2 hb3 CR
      have H3 := hidMk h3
      go_wp2_with fail
      refine (CW.out _ h3.pw.pg).mono ?_
      rintro e w4 ⟨rfl, hb4⟩
      have h4 := H3.out.below hb4
      clear H3 h3 hb4 CW
      rcases HVS.out with ⟨x, hv⟩ | ⟨q, p, hv, hq⟩
      · have HV : Hid (ansV (valS names s) = .tuple #[.agg (numC x), .int .i64 0, .int .i64 0]) := by
          show _ = _
          rw [hv]
          rfl
        have HVX := hidMk hv
        rw [HV.out]
        clear hv
        go_upto_region 8 with fail
        have h5 := h4.below (fr_below w4 (.cells (numC x) 82))
        have hx5 := heap_alloc_new w4 (.cells (numC x) 82)
        generalize w4.alloc _ = W5 at *
        generalize w4.heap.size = by5 at *
        clear h4
        have H5 := hidMk h5
        have HX5 := hidMk hx5
        clear h5 hx5
        go_upto_region 9 with fail
        have nby : by5 ≠ r := fun e => by
          obtain ⟨es, clock, h1, _⟩ := H5.out.pw.tb.hr
          have := HX5.out
          rw [e, h1] at this
          cases this
        have NBY := hidMk nby
        clear nby
        refine region_inv (nt := 55) _
          (fun j v => match j with
            | 0 => v = .pointer (some ⟨P, 0, none⟩)
            | 1 => v = .pointer (some ⟨P, 0, none⟩)
            | 2 => v = .pointer (some ⟨P, 1, none⟩)
            | 3 => v = .pointer (some ⟨T, 0, none⟩)
            | 4 => v = .string s
            | 5 => v = .string s
            | 6 => v = .agg (numC x)
            | 7 => v = .tuple #[]
            | _ => True)
          (fun b u w' => Hid (NW N aZ aB P m T r names w #[.int .i64 0, .int .i64 0, .int .i64 0, .int .i64 0] w' ∧ w'.heap[by5]? = some (.cells (numC x) 82 (0, 0))))
          (act_of rfl rfl) (by kernel_rfl) (by kernel_rfl) (by kernel_rfl) ⟨H5.out.drew, HX5.out⟩ ?_ ?_
        · intro i o b u w' ho hbi hall hU hW K hK
          have hA : actOf 55 u = ⟨#[u 0, u 1, u 2, u 3, u 4, u 5, u 6, u 7, u 8, u 9, u 10, u 11, u 12, u 13, u 14, u 15, u 16, u 17, u 18, u 19, u 20, u 21, u 22, u 23, u 24, u 25, u 26, u 27, u 28, u 29, u 30, u 31, u 32, u 33, u 34, u 35, u 36, u 37, u 38, u 39, u 40, u 41, u 42, u 43, u 44, u 45, u 46, u 47, u 48, u 49, u 50, u 51, u 52, u 53, u 54], []⟩ := rfl
          rw [hA] at hK ⊢
          have c0 : u 0 = .pointer (some ⟨P, 0, none⟩) := hU.oldB 0 (by kernel_rfl)
          have c1 : u 1 = .string s := hU.oldB 1 (by kernel_rfl)
          have c12 : u 12 = .pointer (some ⟨by5, 0, none⟩) := hU.oldB 12 (by kernel_rfl)
          have got := hU.got
          have HW := hW
          have HKK := hidMk hK
          clear hU hA hK hW
          have pc := page_cell HW.out.1.pw.hP
          obtain ⟨x0, x1, x2, x3⟩ := four_cells HW.out.2
          rcases i with _ | _ | _ | _ | _ | _ | _ | _ | i
          · cases ho
            go_simp
            exact HKK.out _ _ _ (by rw [c0, c1, c12]; rfl) (fun _ => rfl) ⟨HW.out.1, HW.out.2⟩
          · cases ho
            have g44 : u 44 = .pointer (some ⟨P, 0, none⟩) := got 0 44 rfl (hall ⟨0, .data⟩ (by simp) rfl)
            go_simp
            exact HKK.out _ _ _ (by rw [c0, c1, c12, g44]; rfl) (fun _ => rfl) ⟨HW.out.1, HW.out.2⟩
          · cases ho
            have g45 : u 45 = .pointer (some ⟨P, 0, none⟩) := got 1 45 rfl (hall ⟨1, .data⟩ (by simp) rfl)
            go_simp
            exact HKK.out _ _ _ (by rw [c0, c1, c12, g45]; rfl) (fun _ => rfl) ⟨HW.out.1, HW.out.2⟩
          · cases ho
            have g46 : u 46 = .pointer (some ⟨P, 1, none⟩) := got 2 46 rfl (hall ⟨2, .data⟩ (by simp) rfl)
            go_simp
            exact HKK.out _ _ _ (by rw [c0, c1, c12, g46]; rfl) (fun _ => rfl) ⟨HW.out.1, HW.out.2⟩
          · cases ho
            go_simp
            exact HKK.out _ _ _ (by rw [c0, c1, c12]; rfl) (fun _ => rfl) ⟨HW.out.1, HW.out.2⟩
          · cases ho
            have g48 : u 48 = .string s := got 4 48 rfl (hall ⟨4, .data⟩ (by simp) rfl)
            go_simp
            refine (CC.out _).mono ?_
            rintro e w9 ⟨rfl, hb9⟩
            exact HKK.out _ _ _ (by rw [c0, c1, c12, g48]; rfl) (fun _ => rfl) ⟨HW.out.1.below hb9, (hb9.block _ (Array.getElem?_eq_some_iff.1 HW.out.2).1).trans HW.out.2⟩
          · cases ho
            go_simp
            exact HKK.out _ _ _ (by rw [c0, c1, c12]; rfl) (fun _ => rfl) ⟨HW.out.1, HW.out.2⟩
          · cases ho
            have g47 : u 47 = .pointer (some ⟨T, 0, none⟩) := got 3 47 rfl (hall ⟨3, .data⟩ (by simp) rfl)
            have g49 : u 49 = .string s := got 5 49 rfl (hall ⟨5, .data⟩ (by simp) rfl)
            have g50 : u 50 = .agg (numC x) := got 6 50 rfl (hall ⟨6, .data⟩ (by simp) rfl)
            go_simp
            refine (CK.out x _ HW.out.1.pw.tb HVX.out).mono ?_
            rintro e w9 ⟨rfl, ht9, hk9⟩
            exact HKK.out _ _ _ (by rw [c0, c1, c12, g47, g49, g50]; rfl) (fun _ => rfl) ⟨HW.out.1.kept hk9 ht9, (hk9.block _ (Array.getElem?_eq_some_iff.1 HW.out.2).1 NBY.out).trans HW.out.2⟩
          · simp at ho
        · intro b u w' hall hU hW
          have hA : actOf 55 u = ⟨#[u 0, u 1, u 2, u 3, u 4, u 5, u 6, u 7, u 8, u 9, u 10, u 11, u 12, u 13, u 14, u 15, u 16, u 17, u 18, u 19, u 20, u 21, u 22, u 23, u 24, u 25, u 26, u 27, u 28, u 29, u 30, u 31, u 32, u 33, u 34, u 35, u 36, u 37, u 38, u 39, u 40, u 41, u 42, u 43, u 44, u 45, u 46, u 47, u 48, u 49, u 50, u 51, u 52, u 53, u 54], []⟩ := rfl
          have e0 : u 0 = .pointer (some ⟨P, 0, none⟩) := hU.oldB 0 (by kernel_rfl)
          have e1 : u 1 = .string s := hU.oldB 1 (by kernel_rfl)
          have e2 : u 2 = undef := hU.oldB 2 (by kernel_rfl)
          have e3 : u 3 = undef := hU.oldB 3 (by kernel_rfl)
          have e4 : u 4 = .pointer (some ⟨w.heap.size, 0, none⟩) := hU.oldB 4 (by kernel_rfl)
          have e5 : u 5 = .int .i64 0 := hU.oldB 5 (by kernel_rfl)
          have e6 : u 6 = .int .i64 0 := hU.oldB 6 (by kernel_rfl)
          have e7 : u 7 = .pointer (some ⟨bx, 0, none⟩) := hU.oldB 7 (by kernel_rfl)
          have e8 : u 8 = .bool false := hU.oldB 8 (by kernel_rfl)
          have e9 : u 9 = .iface TT yy := hU.oldB 9 (by kernel_rfl)
          have e10 : u 10 = .int .i64 0 := hU.oldB 10 (by kernel_rfl)
          have e11 : u 11 = .int .i64 0 := hU.oldB 11 (by kernel_rfl)
          have e12 : u 12 = .pointer (some ⟨by5, 0, none⟩) := hU.oldB 12 (by kernel_rfl)
          have e13 : u 13 = .tuple #[.agg (numC v), .bool false] := hU.oldB 13 (by kernel_rfl)
          have e14 : u 14 = .pointer (some ⟨P, 0, none⟩) := hU.oldB 14 (by kernel_rfl)
          have e15 : u 15 = .pointer (some ⟨P, 0, none⟩) := hU.oldB 15 (by kernel_rfl)
          have e16 : u 16 = .pointer (some ⟨P, 1, none⟩) := hU.oldB 16 (by kernel_rfl)
          have e17 : u 17 = .pointer (some ⟨T, 0, none⟩) := hU.oldB 17 (by kernel_rfl)
          have e18 : u 18 = .string s := hU.oldB 18 (by kernel_rfl)
          have e19 : u 19 = .tuple #[.agg (numC v), .bool false] := hU.oldB 19 (by kernel_rfl)
          have e20 : u 20 = .agg (numC v) := hU.oldB 20 (by kernel_rfl)
          have e21 : u 21 = .bool false := hU.oldB 21 (by kernel_rfl)
          have e22 : u 22 = .bool false := hU.oldB 22 (by kernel_rfl)
          have e23 : u 23 = undef := hU.oldB 23 (by kernel_rfl)
          have e24 : u 24 = .tuple #[.iface TT yy, .int .i64 0, .int .i64 0] := hU.oldB 24 (by kernel_rfl)
          have e25 : u 25 = .string s := hU.oldB 25 (by kernel_rfl)
          have e26 : u 26 = .tuple #[.iface TT yy, .int .i64 0, .int .i64 0] := hU.oldB 26 (by kernel_rfl)
          have e27 : u 27 = .iface TT yy := hU.oldB 27 (by kernel_rfl)
          have e28 : u 28 = .int .i64 0 := hU.oldB 28 (by kernel_rfl)
          have e29 : u 29 = .int .i64 0 := hU.oldB 29 (by kernel_rfl)
          have e30 : u 30 = .int .i64 0 := hU.oldB 30 (by kernel_rfl)
          have e31 : u 31 = .bool false := hU.oldB 31 (by kernel_rfl)
          have e32 : u 32 = undef := hU.oldB 32 (by kernel_rfl)
          have e33 : u 33 = undef := hU.oldB 33 (by kernel_rfl)
          have e34 : u 34 = undef := hU.oldB 34 (by kernel_rfl)
          have e35 : u 35 = .tuple #[.agg (numC x), .int .i64 0, .int .i64 0] := hU.oldB 35 (by kernel_rfl)
          have e36 : u 36 = .pointer (some ⟨P, 0, none⟩) := hU.oldB 36 (by kernel_rfl)
          have e37 : u 37 = .iface TT yy := hU.oldB 37 (by kernel_rfl)
          have e38 : u 38 = .tuple #[.agg (numC x), .int .i64 0, .int .i64 0] := hU.oldB 38 (by kernel_rfl)
          have e39 : u 39 = .agg (numC x) := hU.oldB 39 (by kernel_rfl)
          have e40 : u 40 = .int .i64 0 := hU.oldB 40 (by kernel_rfl)
          have e41 : u 41 = .int .i64 0 := hU.oldB 41 (by kernel_rfl)
          have e42 : u 42 = .int .i64 0 := hU.oldB 42 (by kernel_rfl)
          have e43 : u 43 = .bool true := hU.oldB 43 (by kernel_rfl)
          have e52 : u 52 = undef := hU.oldB 52 (by kernel_rfl)
          have e53 : u 53 = undef := hU.oldB 53 (by kernel_rfl)
          have e54 : u 54 = undef := hU.oldB 54 (by kernel_rfl)
          rw [hA, e0, e1, e2, e3, e4, e5, e6, e7, e8, e9, e10, e11, e12, e13, e14, e15, e16, e17, e18, e19, e20, e21, e22, e23, e24, e25, e26, e27, e28, e29, e30, e31, e32, e33, e34, e35, e36, e37, e38, e39, e40, e41, e42, e43, e52, e53, e54]
          clear hA e0 e1 e2 e3 e4 e5 e6 e7 e8 e9 e10 e11 e12 e13 e14 e15 e16 e17 e18 e19 e20 e21 e22 e23 e24 e25 e26 e27 e28 e29 e30 e31 e32 e33 e34 e35 e36 e37 e38 e39 e40 e41 e42 e43 e52 e53 e54
          have H6 := hidMk hW.out.1
          have HX6 := hidMk hW.out.2
          clear hU hW hall H5 HX5 CK CC
          obtain ⟨x0, x1, x2, x3⟩ := four_cells HX6.out
          obtain ⟨z0, z1, z2, z3⟩ := four_cells H6.out.hz
          obtain ⟨f0, f1, f2, f3⟩ := four_frozen H6.out.hz
          go_wp2_with fail
          refine bp_gen (fun W' => W'.heap[w.heap.size]? = some (.cells (numC x) 82 (0, 0)) ∧ Tb T r names W' ∧ Kp (· = r) w W') (H6.out.setz x) ?_
          rintro W ⟨hz, ht, hk⟩
          obtain ⟨z0, z1, z2, z3⟩ := four_cells hz
          rw [HV.out]
          exact bodyPost_ret (v := .tuple #[.agg (numC x), .int .i64 0, .int .i64 0]) (by simp [results, Tryz.results35, go_sem, z0, z1, z2, z3]) rfl ⟨rfl, ht, hk⟩
      · have HV : Hid (ansV (valS names s) = .tuple #[.agg (numC ⟨⟨0, 0⟩, ⟨0, 0⟩⟩), .int .i64 q, .int .i64 p]) := by
          show _ = _
          rw [hv]
          rfl
        rw [HV.out]
        have hne : (q == 0) = false := by simpa using hq
        clear hv hq
        go_upto_region 8 with fail
        have h5 := h4.below (fr_below w4 (.cells (numC ⟨⟨0, 0⟩, ⟨0, 0⟩⟩) 82))
        have hx5 := heap_alloc_new w4 (.cells (numC ⟨⟨0, 0⟩, ⟨0, 0⟩⟩) 82)
        generalize w4.alloc _ = W5 at *
        generalize w4.heap.size = by5 at *
        clear h4
        obtain ⟨x0, x1, x2, x3⟩ := four_cells hx5
        obtain ⟨z0, z1, z2, z3⟩ := four_cells h5.hz
        obtain ⟨f0, f1, f2, f3⟩ := four_frozen h5.hz
        have H5 := hidMk h5
        clear h5 hx5
        go_wp2_with fail
        refine bp_gen (fun W' => W'.heap[w.heap.size]? = some (.cells (numC ⟨⟨0, 0⟩, ⟨0, 0⟩⟩) 82 (0, 0)) ∧ Tb T r names W' ∧ Kp (· = r) w W') (H5.out.setz ⟨⟨0, 0⟩, ⟨0, 0⟩⟩) ?_
        rintro W ⟨hz, ht, hk⟩
        obtain ⟨z0, z1, z2, z3⟩ := four_cells hz
        rw [HV.out]
        exact bodyPost_ret (v := .tuple #[.agg (numC ⟨⟨0, 0⟩, ⟨0, 0⟩⟩), .int .i64 q, .int .i64 p]) (by simp [results, Tryz.results35, go_sem, z0, z1, z2, z3]) rfl ⟨rfl, ht, hk⟩
    · rw [rdN_err hE, hp] at CR
      have HV : Hid (ansV (valS names s) = .tuple #[.agg (numC ⟨⟨0, 0⟩, ⟨0, 0⟩⟩), .int .i64 (refE s), .int .i64 p]) := by
        show _ = _
        rw [hv]
        rfl
      have hne : (refE s != 0) = true := by simpa using hE
      generalize refE s = E at *
      clear hE hp hv
      go_wp2_with fail
      refine (CR.out _).mono ?_
      rintro e w3 ⟨rfl, hb3⟩
      have h3 := H2.out.below hb3
      obtain ⟨z0, z1, z2, z3⟩ := four_cells h3.hz
      obtain ⟨f0, f1, f2, f3⟩ := four_frozen h3.hz
      have H3 := hidMk h3
      clear H2 hb3 CR h3
      go_wp2_with fail
      refine bp_gen (fun W' => W'.heap[w.heap.size]? = some (.cells (numC ⟨⟨0, 0⟩, ⟨0, 0⟩⟩) 82 (0, 0)) ∧ Tb T r names W' ∧ Kp (· = r) w W') (H3.out.setz ⟨⟨0, 0⟩, ⟨0, 0⟩⟩) ?_
      rintro W ⟨hz, ht, hk⟩
      obtain ⟨z0, z1, z2, z3⟩ := four_cells hz
      rw [HV.out]
      exact bodyPost_ret (v := .tuple #[.agg (numC ⟨⟨0, 0⟩, ⟨0, 0⟩⟩), .int .i64 E, .int .i64 p]) (by simp [results, Tryz.results35, go_sem, z0, z1, z2, z3]) rfl ⟨rfl, ht, hk⟩
end Go.Proofs.YtodabmkcihafhaaGreatDoor
