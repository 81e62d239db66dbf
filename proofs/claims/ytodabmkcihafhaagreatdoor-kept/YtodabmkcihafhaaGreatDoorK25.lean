import Derived.Test.YtodabmkcihafhaaGreatDoorRows
import Derived.Test.YtodabmkcihafhaaGreatDoorCards
import Derived.Test.YtodabmkcihafhaaGreatDoorTie
import Derived.ProofKit
import Derived.ChangeSame
import Derived.ChangeVars
import Derived.JoinedOf
import Derived.RowKit
import Derived.LaidLaws
import Derived.LaidHandle
import Derived.Stop.LaidTwo
import Derived.OpenShut
import Derived.ShutString
import Derived.SevenTiedAt
import Derived.Lay
import Derived.LaidSub
import Derived.Test.YtodabmkcihafhaaGreatDoorK24
import Derived.Test.YtodabmkcihafhaaGreatDoorK6

/- The laws' alike. -/
namespace Go.Proofs.YtodabmkcihafhaaGreatDoor
open Go.RowKit
set_option linter.unusedVariables false

/-- Two texts are worked to the same, if both can be worked. -/
def Alike (a b : ByteArray) : Prop := vB a = true → vB b = true → vN a = vN b
set_option maxHeartbeats 2000000 in
set_option maxRecDepth 100000 in
theorem alike_fn (N : Nat) (aZ aB : Addr) (a b : ByteArray) (w : World) (hS : Sen N aZ aB w) (hN : N ≤ w.heap.size) (h : Alike a b) :
    Calls Tryz.prog 20 #[.string a, .string b] w fun e w' => e = .returned (.bool true) ∧ Below w.heap.size w w' := by
  have CV := hidMk (fun t W (hb : Below w.heap.size w W) => value_fn N aZ aB t W (hS.below hb hN) (Nat.le_trans hN hb.size))
  have HA := hidMk h
  clear hS hN h
  unfold Alike at HA
  go_enter Tryz.func20, Tryz.ntmps20
  go_wp2_with fail
  refine (CV.out a w (Below.refl _ _)).mono ?_
  rintro e w1 ⟨rfl, hb1⟩
  generalize vN a = x at *
  generalize vB a = p at *
  go_upto_region 2 with fail
  have hx2 := heap_alloc_new w1 (.cells (numC x) 27)
  have hb2 := hb1.trans ((fr_below w1 (.cells (numC x) 27)).mono hb1.size)
  generalize w1.alloc _ = W2 at *
  generalize w1.heap.size = b5 at *
  have HX := hidMk hx2
  have HB := hidMk hb2
  clear hb1 hx2 hb2
  go_wp2_with fail
  refine (CV.out b W2 HB.out).mono ?_
  rintro e w3 ⟨rfl, hb3⟩
  have hx3 := (hb3.block _ (Array.getElem?_eq_some_iff.1 HX.out).1).trans HX.out
  have hbb3 := HB.out.trans (hb3.mono HB.out.size)
  generalize vN b = y at *
  generalize vB b = q at *
  clear HX HB hb3 CV
  go_upto_region 3 with fail
  have hx4 := (Below.heap_alloc w3 (.cells (numC y) 27) _ (Array.getElem?_eq_some_iff.1 hx3).1).trans hx3
  have hy4 := heap_alloc_new w3 (.cells (numC y) 27)
  have hb4 := hbb3.trans ((fr_below w3 (.cells (numC y) 27)).mono hbb3.size)
  generalize w3.alloc _ = W4 at *
  generalize w3.heap.size = b7 at *
  obtain ⟨x0, x1, x2, x3⟩ := four_cells hx4
  obtain ⟨y0, y1, y2, y3⟩ := four_cells hy4
  have HB4 := hidMk hb4
  clear hx3 hbb3 hx4 hy4 hb4
  cases p with
  | false =>
    clear HA
    go_wp2_with fail
    go_ret
    exact ⟨rfl, HB4.out⟩
  | true =>
    cases q with
    | false =>
      clear HA
      go_wp2_with fail
      go_ret
      exact ⟨rfl, HB4.out⟩
    | true =>
      have he := HA.out rfl rfl
      subst he
      have heq := eq4_same x.re.n x.re.d x.im.n x.im.d W4
      clear HA
      go_wp2_with fail
      go_ret
      exact ⟨rfl, HB4.out⟩
end Go.Proofs.YtodabmkcihafhaaGreatDoor

/- Plain: the numbers of joined texts. -/
namespace Go.Proofs.YtodabmkcihafhaaGreatDoor
set_option linter.unusedVariables false

theorem nm0 : ∀ q ∈ ([] : List (Int × Num)), q.2.Ok := fun q hq => by simp at hq
theorem vB_ok {s : ByteArray} (h : vB s = true) : valS [] s = .ok (vN s) := by
  rcases valS_cases [] s nm0 with ⟨x, hv⟩ | ⟨q, p, hv, hq⟩
  · unfold vN
    rw [hv]
    rfl
  · unfold vB at h
    rw [hv] at h
    have : q = 0 := by simpa [ansE] using h
    exact absurd this hq
theorem vB_of {s : ByteArray} {x : Num} (h : valS [] s = .ok x) : vB s = true ∧ vN s = x := by
  unfold vB vN
  rw [h]
  exact ⟨rfl, rfl⟩
abbrev en0 : Env := envOf []
theorem val_tree {s : ByteArray} (hs : s.size ≤ 120) (hg : good s = true) : valS [] s = valT en0 (treeT s) := by
  unfold valS
  rw [if_neg (by omega), if_pos hg]
theorem valT_ok {e : Ex} {x : Num} (h : valT en0 e = .ok x) : missT en0 e = none ∧ evT en0 e = .ok x := by
  unfold valT at h
  cases hm : missT en0 e with
  | some p => rw [hm] at h; cases h
  | none => rw [hm] at h; exact ⟨rfl, h⟩
theorem valT_mk {e : Ex} {x : Num} (h1 : missT en0 e = none) (h2 : evT en0 e = .ok x) : valT en0 e = .ok x := by
  unfold valT
  rw [h1]
  exact h2
theorem ev_unshift {env : Env} {k : Nat} {e : Ex} {x : Num} (h : evT env (e.shift k) = .ok x) : evT env e = .ok x := by
  obtain ⟨h1, h2⟩ := evT_shift env k e
  cases he : evT env e with
  | ok y =>
    rw [h1 y he] at h
    injection h with h
    rw [h]
  | err q p =>
    obtain ⟨p', hp⟩ := h2 q p he
    rw [hp] at h
    cases h
theorem miss_unshift {env : Env} {k : Nat} {e : Ex} (h : missT env (e.shift k) = none) : missT env e = none := by
  rw [missT_shift] at h
  cases hm : missT env e with
  | none => rfl
  | some p => rw [hm] at h; cases h
theorem valT_unshift {k : Nat} {e : Ex} {x : Num} (h : valT en0 (e.shift k) = .ok x) : valT en0 e = .ok x := by
  obtain ⟨h1, h2⟩ := valT_ok h
  exact valT_mk (miss_unshift h1) (ev_unshift h2)
theorem valT_ok_num {e : Ex} (he : ExOk e) {x : Num} (h : valT en0 e = .ok x) : x.Ok := (ev_ok (env_ok nm0) e he).1 x (valT_ok h).2
theorem at_ok' {g : Got} {p : Nat} {x : Num} (h : g.at p = .ok x) : g = .ok x := by
  cases g with
  | ok y => injection h with h; rw [h]
  | err q => cases h
theorem valT_bin {c : Int} {p : Nat} {l r : Ex} {z : Num} (h : valT en0 (.bin c p l r) = .ok z) : ∃ x y, valT en0 l = .ok x ∧ valT en0 r = .ok y ∧ opP c x y = .ok z := by
  obtain ⟨h1, h2⟩ := valT_ok h
  simp only [missT] at h1
  simp only [evT] at h2
  cases hl : missT en0 l with
  | some q => rw [hl] at h1; cases h1
  | none =>
    rw [hl] at h1
    cases el : evT en0 l with
    | err q s => rw [el] at h2; cases h2
    | ok x =>
      rw [el] at h2
      cases er : evT en0 r with
      | err q s => rw [er] at h2; cases h2
      | ok y =>
        rw [er] at h2
        exact ⟨x, y, valT_mk hl el, valT_mk h1 er, at_ok' h2⟩
theorem valT_un {c : Int} {p : Nat} {e : Ex} {z : Num} (h : valT en0 (.un c p e) = .ok z) : ∃ x, valT en0 e = .ok x ∧ opP c x x = .ok z := by
  obtain ⟨h1, h2⟩ := valT_ok h
  simp only [missT] at h1
  simp only [evT] at h2
  cases el : evT en0 e with
  | err q s => rw [el] at h2; cases h2
  | ok x =>
    rw [el] at h2
    exact ⟨x, valT_mk h1 el, at_ok' h2⟩
theorem refE_ok {s : ByteArray} (h : refE s = 0) : s.size ≤ 120 ∧ good s = true := by
  rcases valS_read [] s with ⟨_, hs, hg, _⟩ | ⟨hE, _⟩
  · exact ⟨hs, hg⟩
  · exact absurd h hE
/-- A text that is an expression, and its number. -/
structure Has (s : ByteArray) (x : Num) : Prop where
  v : valS [] s = .ok x
  ok : x.Ok
theorem has_of {s : ByteArray} (h : vB s = true) : Has s (vN s) := by
  have hv := vB_ok h
  rcases valS_read [] s with ⟨_, hs, hg, hr⟩ | ⟨hE, p, hp, hr⟩
  · refine ⟨hv, ?_⟩
    rw [hr] at hv
    exact valT_ok_num (top_tree s hg).2.2.1 hv
  · rw [hr] at hv; cases hv
theorem Has.eq {s : ByteArray} {x y : Num} (h : Has s x) (k : Has s y) : x = y := by
  have := h.v.symm.trans k.v
  injection this
structure Joined (a : ByteArray) (c : Nat) (b : ByteArray) : Prop where
  ea : refE a = 0
  eb : refE b = 0
  sz : (jT a c b).size ≤ 120
theorem joined_of {a : ByteArray} {c : Nat} {b : ByteArray} (h : jB a c b = true) : Joined a c b := by
  unfold jB at h
  simp only [Bool.and_eq_true, beq_iff_eq, decide_eq_true_eq] at h
  exact ⟨h.1.1, h.1.2, by omega⟩
theorem joined_val {a : ByteArray} {c : Nat} {b : ByteArray} (h : Joined a c b) (hc : signs2 c) {z : Num} (hz : Has (jT a c b) z) : ∃ x y, Has a x ∧ Has b y ∧ opP c x y = .ok z := by
  obtain ⟨sa, ga⟩ := refE_ok h.ea
  obtain ⟨sb, gb⟩ := refE_ok h.eb
  obtain ⟨gj, p, q, r, ht⟩ := joined_tree a b c hc ga gb (jT a c b) (jT_eq a c b) h.sz
  have hv := hz.v
  rw [val_tree h.sz gj, ht] at hv
  obtain ⟨x, y, h1, h2, h3⟩ := valT_bin hv
  have h1' := valT_unshift h1
  have h2' := valT_unshift h2
  exact ⟨x, y, ⟨(val_tree sa ga).trans h1', valT_ok_num (top_tree a ga).2.2.1 h1'⟩, ⟨(val_tree sb gb).trans h2', valT_ok_num (top_tree b gb).2.2.1 h2'⟩, h3⟩
theorem joined_good {a : ByteArray} {c : Nat} {b : ByteArray} (h : Joined a c b) (hc : signs2 c) : refE (jT a c b) = 0 := by
  obtain ⟨sa, ga⟩ := refE_ok h.ea
  obtain ⟨sb, gb⟩ := refE_ok h.eb
  obtain ⟨gj, _⟩ := joined_tree a b c hc ga gb (jT a c b) (jT_eq a c b) h.sz
  have := h.sz
  unfold refE
  rw [if_neg (by omega), if_pos gj]
theorem ring1 {a b : ByteArray} (h1 : Joined a 43 b) (h2 : Joined b 43 a) : Alike (jT a 43 b) (jT b 43 a) := by
  intro v1 v2
  obtain ⟨x, y, hx, hy, e1⟩ := joined_val h1 (Or.inl rfl) (has_of v1)
  obtain ⟨y', x', hy', hx', e2⟩ := joined_val h2 (Or.inl rfl) (has_of v2)
  obtain rfl := hx.eq hx'
  obtain rfl := hy.eq hy'
  exact ring_one hx.ok hy.ok e1 e2
theorem ring2 {a b : ByteArray} (h1 : Joined a 215 b) (h2 : Joined b 215 a) : Alike (jT a 215 b) (jT b 215 a) := by
  intro v1 v2
  obtain ⟨x, y, hx, hy, e1⟩ := joined_val h1 (Or.inr (Or.inr (Or.inl rfl))) (has_of v1)
  obtain ⟨y', x', hy', hx', e2⟩ := joined_val h2 (Or.inr (Or.inr (Or.inl rfl))) (has_of v2)
  obtain rfl := hx.eq hx'
  obtain rfl := hy.eq hy'
  exact ring_two hx.ok hy.ok e1 e2
theorem ring3 {a b : ByteArray} (h1 : Joined a 43 b) (h2 : Joined (jT a 43 b) 8722 b) : Alike (jT (jT a 43 b) 8722 b) a := by
  intro v1 v2
  obtain ⟨u, y, hu, hy, e2⟩ := joined_val h2 (Or.inr (Or.inl rfl)) (has_of v1)
  obtain ⟨x, y', hx, hy', e1⟩ := joined_val h1 (Or.inl rfl) hu
  obtain rfl := hy.eq hy'
  rw [ring_three hx.ok hy.ok e1 e2]
  exact hx.eq (has_of v2)
theorem ring4 {a b : ByteArray} (h1 : Joined a 215 b) (h2 : Joined (jT a 215 b) 247 b) : Alike (jT (jT a 215 b) 247 b) a := by
  intro v1 v2
  obtain ⟨u, y, hu, hy, e2⟩ := joined_val h2 (Or.inr (Or.inr (Or.inr rfl))) (has_of v1)
  obtain ⟨x, y', hx, hy', e1⟩ := joined_val h1 (Or.inr (Or.inr (Or.inl rfl))) hu
  obtain rfl := hy.eq hy'
  rw [ring_four hx.ok hy.ok e1 e2]
  exact hx.eq (has_of v2)
theorem ring5 {a b c : ByteArray} (h1 : Joined a 43 b) (h2 : Joined (jT a 43 b) 215 c) (h3 : Joined a 215 c) (h4 : Joined b 215 c) (h5 : Joined (jT a 215 c) 43 (jT b 215 c)) : Alike (jT (jT a 43 b) 215 c) (jT (jT a 215 c) 43 (jT b 215 c)) := by
  intro v1 v2
  have tm : signs2 215 := Or.inr (Or.inr (Or.inl rfl))
  obtain ⟨u, z, hu, hz, e2⟩ := joined_val h2 tm (has_of v1)
  obtain ⟨x, y, hx, hy, e1⟩ := joined_val h1 (Or.inl rfl) hu
  obtain ⟨p, q, hp, hq, e5⟩ := joined_val h5 (Or.inl rfl) (has_of v2)
  obtain ⟨x', z', hx', hz', e3⟩ := joined_val h3 tm hp
  obtain ⟨y', z'', hy', hz'', e4⟩ := joined_val h4 tm hq
  obtain rfl := hx.eq hx'
  obtain rfl := hy.eq hy'
  obtain rfl := hz.eq hz'
  obtain rfl := hz.eq hz''
  exact ring_five hx.ok hy.ok hz.ok e1 e2 e3 e4 e5
end Go.Proofs.YtodabmkcihafhaaGreatDoor

/- The law Kept, walked. -/
namespace Go.Proofs.YtodabmkcihafhaaGreatDoor
open Go.RowKit
set_option linter.unusedVariables false
theorem br1 (s t : ByteArray) : (⟨#[40]⟩ : ByteArray) ++ s ++ ⟨#[41, 43, 40]⟩ ++ t ++ ⟨#[41]⟩ = inBr s ++ Utf8.encode ((43 : Nat) : Int) ++ inBr t := by
  have e : (⟨#[41, 43, 40]⟩ : ByteArray) = ⟨#[41]⟩ ++ Utf8.encode ((43 : Nat) : Int) ++ ⟨#[40]⟩ := by decide
  rw [e]
  unfold inBr
  simp [ByteArray.append_assoc]
theorem br2 (A t : ByteArray) : A ++ ⟨#[43, 40]⟩ ++ t ++ ⟨#[41]⟩ = A ++ Utf8.encode ((43 : Nat) : Int) ++ inBr t := by
  have e : (⟨#[43, 40]⟩ : ByteArray) = Utf8.encode ((43 : Nat) : Int) ++ ⟨#[40]⟩ := by decide
  rw [e]
  unfold inBr
  simp [ByteArray.append_assoc]
theorem kept_join2 {s t : ByteArray} {x : Num} {n : Nat} (hn : 945 ≤ n ∧ n ≤ 969) (hv : valS [] s = .ok x) (hx : x.Ok) (ht : t.size ≤ 120) (gt : good t = true) (hsz : s.size + t.size + 10 ≤ 120) :
    Near2 (valS [((n : Int), x)] ((⟨#[40]⟩ : ByteArray) ++ s ++ ⟨#[41, 43, 40]⟩ ++ t ++ ⟨#[41]⟩)) (valS [((n : Int), x)] (Utf8.encode (n : Int) ++ ⟨#[43, 40]⟩ ++ t ++ ⟨#[41]⟩)) :=
  kept_join hn hv hx ht gt hsz (br1 s t) (br2 (Utf8.encode (n : Int)) t)
theorem near_ans {a b : Ans} (h : Near2 a b) : ∃ (z : Num) (q p p' : Int), ansV a = .tuple #[.agg (numC z), .int .i64 q, .int .i64 p] ∧ ansV b = .tuple #[.agg (numC z), .int .i64 q, .int .i64 p'] := by
  rcases h with ⟨z, rfl, rfl⟩ | ⟨q, p, p', rfl, rfl⟩
  · exact ⟨z, 0, 0, 0, rfl, rfl⟩
  · exact ⟨⟨⟨0, 0⟩, ⟨0, 0⟩⟩, q, p, p', rfl, rfl⟩
theorem catK (a b : ByteArray) (ha : a.size ≤ 1000) (hb : b.size ≤ 1000) (W : World) : (Op.stringOp .add a b).run Tryz.prog W = .ok (.string (a ++ b)) W := cat_run a b (by omega) W
set_option maxHeartbeats 16000000 in
set_option maxRecDepth 100000 in
theorem kept_law (N : Nat) (aZ aB : Addr) (s t : ByteArray) (name : Int) (w : World) (hS : Sen N aZ aB w) (hU : U8T w) (hN : N ≤ w.heap.size) (hn : (Lit.int .i64 name).wf = true) (hs : s.size ≤ 140737488351232) (ht : t.size ≤ 140737488351232) :
    Calls Tryz.prog 7 #[.string s, .string t, .int .i64 name] w fun e w' => e = .returned (.bool true) ∧ Below w.heap.size w w' := by
  have CB := hidMk (begun_fn N aZ aB w hS hN)
  have C1 := hidMk (fun W (hb : Below w.heap.size w W) => bw_new (N := N) (aZ := aZ) (aB := aB) (w0 := w) W (hS.below hb hN) hN (hU.kept hS (fun j hj => hb.block j (by omega))) hb)
  have CV := hidMk (fun K names x W (h : BW N aZ aB w K names W) => bw_value x h)
  have CL := hidMk (fun K names x y W (h : BW N aZ aB w K names W) => bw_let x y h)
  have CP := hidMk (fun t W => print_any t W)
  have CM := hidMk (fun e W => num_any e W)
  have CT := hidMk (fun c W (h : c < 55296) => text_fn c W h)
  have hrange : -9223372036854775808 ≤ name ∧ name ≤ 9223372036854775807 := by
    have h1 : IntKind.i64.min = -9223372036854775808 := by decide
    have h2 : IntKind.i64.max = 9223372036854775807 := by decide
    simp only [Lit.wf, Bool.and_eq_true, decide_eq_true_eq, h1, h2] at hn
    exact hn
  have wa : wrap64 ((s.size : Int) + t.size) = (s.size : Int) + t.size := by unfold wrap64; omega
  have wb : wrap64 ((s.size : Int) + t.size + 10) = (s.size : Int) + t.size + 10 := by unfold wrap64; omega
  clear hS hU hN hn
  go_enter Tryz.func7, Tryz.ntmps7
  go_wp2_with fail
  refine CB.out.mono ?_
  rintro e w1 ⟨rfl, hb1⟩
  have HB1 := hidMk hb1
  clear hb1 CB
  go_wp2_with fail
  refine (C1.out w1 HB1.out).mono ?_
  rintro e w2 ⟨K, rfl, hbw2⟩
  have H2 := hidMk hbw2
  clear HB1 hbw2 C1
  have hM : ∃ M : Int, 0 ≤ M ∧ M ≤ 9223372036854775807 ∧ ((name < 0 ∧ M = -(name + 1)) ∨ (¬ name < 0 ∧ M = name)) := by
    by_cases h : name < 0
    · exact ⟨-(name + 1), by omega, by omega, Or.inl ⟨h, rfl⟩⟩
    · exact ⟨name, by omega, by omega, Or.inr ⟨h, rfl⟩⟩
  obtain ⟨M, hM0, hM1, hM2⟩ := hM
  have hn1 : ∃ n1 : Nat, M.tmod 25 = n1 ∧ n1 < 25 := ⟨(M % 25).toNat, by rw [Int.tmod_eq_emod_of_nonneg hM0]; omega, by omega⟩
  obtain ⟨n1, hn1, hl1⟩ := hn1
  have hn2 : ∃ n2 : Nat, ((n1 : Int) + 1).tmod 25 = n2 ∧ n2 < 25 ∧ n2 ≠ n1 := ⟨(n1 + 1) % 25, by rw [Int.tmod_eq_emod_of_nonneg (by omega)]; omega, by omega, by omega⟩
  obtain ⟨n2, hn2, hl2, hne⟩ := hn2
  have e1 : (945 : Int) + (n1 : Int) = ((945 + n1 : Nat) : Int) := by omega
  have e2 : (945 : Int) + (n2 : Int) = ((945 + n2 : Nat) : Int) := by omega
  obtain ⟨c, hc⟩ : ∃ c : Nat, 945 + n1 = c := ⟨_, rfl⟩
  obtain ⟨d, hd⟩ : ∃ d : Nat, 945 + n2 = d := ⟨_, rfl⟩
  rw [hc] at e1
  rw [hd] at e2
  have hcr : 945 ≤ c ∧ c ≤ 969 := by omega
  have hdr : 945 ≤ d ∧ d ≤ 969 := by omega
  have hcd : d ≠ c := by omega
  have HNC := hidMk (nm_enc c hcr)
  have HV0 := hidMk (fun names => val_name names c hcr)
  have HV1 := hidMk (fun names => val_name names d hdr)
  rcases hM2 with ⟨hneg, hM2⟩ | ⟨hneg, hM2⟩
  all_goals go_upto_region 7 with fail
  all_goals rw [← hM2]
  all_goals clear hM2 hneg hrange
  all_goals go_upto_region 8 with fail
  all_goals
    clear e1
    go_wp2_with fail
    refine (CT.out c w2 (by omega)).mono ?_
    rintro e w3 ⟨rfl, hb3⟩
    have H3 := hidMk (H2.out.below hb3)
    clear H2 hb3
    go_wp2_with fail
    refine (CT.out d w3 (by omega)).mono ?_
    rintro e w4 ⟨rfl, hb4⟩
    have H4 := hidMk (H3.out.below hb4)
    clear H3 hb4 CT hn2 e2 hc hd hn1 hM0 hM1
    have HEC := hidMk (encN_size c hcr)
    have HJ := hidMk (fun x (hv : valS [] s = .ok x) (hx : x.Ok) (h1 : t.size ≤ 120) (h2 : good t = true) (h3 : s.size + t.size + 10 ≤ 120) => kept_join2 hcr hv hx h1 h2 h3)
    generalize Utf8.encode (c : Int) = A at *
    generalize Utf8.encode (d : Int) = D at *
    go_wp2_with fail
    refine (CV.out K [] s w4 H4.out).mono ?_
    rintro e w5 ⟨rfl, hbw5, _⟩
    have H5 := hidMk hbw5
    clear H4 hbw5
    rcases valS_cases [] s (fun q hq => by simp at hq) with ⟨x, hv⟩ | ⟨q, p, hv, hq⟩
    · have hx := valS_num (fun q hq => by simp at hq) hv
      have HL1 : Hid (letR [] A s = (0, 0, [((c : Int), x)])) := by
        show _ = _
        unfold letR
        rw [if_neg (by rw [HNC.out.1]; decide), hv]
        show (if ((envOf [] (nmP A)).isSome || decide (([] : List (Int × Num)).length < 8)) = true then (0, 0, putN [] (nmP A) x) else _) = _
        rw [if_pos (by simp), HNC.out.2]
        rfl
      have hVA : valS [((c : Int), x)] A = .ok x := by
        rw [HV0.out [((c : Int), x)]]
        simp [envOf]
      have hVD : valS [((c : Int), x)] D = .err 3 0 := by
        rw [HV1.out [((c : Int), x)]]
        have : envOf [((c : Int), x)] (d : Int) = none := by simp [envOf]; omega
        rw [this]
      have HL2 : Hid (letR [((c : Int), x)] A D = (3, 0, [((c : Int), x)])) := by
        show _ = _
        unfold letR
        rw [if_neg (by rw [HNC.out.1]; decide), hVD]
        rfl
      have HVS := hidMk (val_more hv [((c : Int), x)]).2.2.2.2
      have HVA := hidMk hVA
      have HVD := hidMk hVD
      have HJ2 := hidMk (HJ.out x hv hx)
      rw [hv]
      have e1 : ansV (.ok x) = .tuple #[.agg (numC x), .int .i64 0, .int .i64 0] := rfl
      have E1 := hidMk e1
      have E3 : Hid (ansV (.err 3 0) = .tuple #[.agg (numC ⟨⟨0, 0⟩, ⟨0, 0⟩⟩), .int .i64 3, .int .i64 0]) := rfl
      rw [e1]
      clear hv hx e1 HV0 HV1 HNC HJ hVA hVD
      go_upto_region 11 with fail
      have H6 := hidMk (H5.out.below (fr_below w5 (.cells (numC x) 27)))
      have HX6 := hidMk (heap_alloc_new w5 (.cells (numC x) 27))
      generalize w5.alloc _ = W6 at *
      generalize w5.heap.size = b12 at *
      clear H5
      go_wp2_with fail
      refine (CL.out K [] A s W6 H6.out).mono ?_
      rw [HL1.out]
      rintro e w7 ⟨rfl, hbw7, k7⟩
      have H7 := hidMk hbw7
      have HX7 := hidMk (k7 _ _ HX6.out)
      clear H6 hbw7 k7 HX6 HL1
      generalize [((c : Int), x)] = NM at *
      go_upto_region 14 with (go_at_call 15; refine (CM.out _ _).mono ?_; rintro e w8 ⟨rfl, rfl⟩)
      go_wp2_with fail
      refine (CV.out K NM A _ H7.out).mono ?_
      rw [HVA.out, E1.out]
      rintro e w8 ⟨rfl, hbw8, k8⟩
      clear H7
      go_upto_region 15 with fail
      have kk := K4.of_below (fr_below w8 (.cells (numC x) 27))
      have H9 := hidMk (hbw8.below (fr_below w8 (.cells (numC x) 27)))
      have HX9 := hidMk (kk _ _ (k8 _ _ HX7.out))
      have HY9 := hidMk (heap_alloc_new w8 (.cells (numC x) 27))
      generalize w8.alloc _ = W9 at *
      generalize w8.heap.size = b17 at *
      clear hbw8 k8 kk HX7
      go_upto_region 17 with (go_at_call 15; refine (CM.out _ _).mono ?_; rintro e w10 ⟨rfl, rfl⟩)
      go_wp2_with fail
      refine (CV.out K NM D _ H9.out).mono ?_
      rw [HVD.out, E3.out]
      rintro e w10 ⟨rfl, hbw10, k10⟩
      clear H9
      go_upto_region 18 with fail
      have kk := K4.of_below (fr_below w10 (.cells (numC ⟨⟨0, 0⟩, ⟨0, 0⟩⟩) 27))
      have H11 := hidMk (hbw10.below (fr_below w10 (.cells (numC ⟨⟨0, 0⟩, ⟨0, 0⟩⟩) 27)))
      have HX11 := hidMk (kk _ _ (k10 _ _ HX9.out))
      have HY11 := hidMk (kk _ _ (k10 _ _ HY9.out))
      have HZ11 := hidMk (heap_alloc_new w10 (.cells (numC ⟨⟨0, 0⟩, ⟨0, 0⟩⟩) 27))
      generalize w10.alloc _ = W11 at *
      generalize w10.heap.size = b20 at *
      clear hbw10 k10 kk HX9 HY9
      go_wp2_with fail
      refine (CL.out K NM A D W11 H11.out).mono ?_
      rw [HL2.out]
      rintro e w12 ⟨rfl, hbw12, k12⟩
      have H12 := hidMk hbw12
      have HX12 := hidMk (k12 _ _ HX11.out)
      have HY12 := hidMk (k12 _ _ HY11.out)
      have HZ12 := hidMk (k12 _ _ HZ11.out)
      clear H11 hbw12 k12 HX11 HY11 HZ11 HL2
      go_upto_region 19 with fail
      go_wp2_with fail
      refine (CV.out K NM A _ H12.out).mono ?_
      rw [HVA.out, E1.out]
      rintro e w13 ⟨rfl, hbw13, k13⟩
      clear H12
      go_upto_region 20 with fail
      have kk := K4.of_below (fr_below w13 (.cells (numC x) 27))
      have H14 := hidMk (hbw13.below (fr_below w13 (.cells (numC x) 27)))
      have HX14 := hidMk (kk _ _ (k13 _ _ HX12.out))
      have HY14 := hidMk (kk _ _ (k13 _ _ HY12.out))
      have HZ14 := hidMk (kk _ _ (k13 _ _ HZ12.out))
      have HU14 := hidMk (heap_alloc_new w13 (.cells (numC x) 27))
      generalize w13.alloc _ = W14 at *
      generalize w13.heap.size = b25 at *
      clear hbw13 k13 kk HX12 HY12 HZ12
      go_wp2_with fail
      refine (CV.out K NM s _ H14.out).mono ?_
      rw [HVS.out, E1.out]
      rintro e w15 ⟨rfl, hbw15, k15⟩
      clear H14
      go_upto_region 21 with fail
      have kk := K4.of_below (fr_below w15 (.cells (numC x) 27))
      have H16 := hidMk (hbw15.below (fr_below w15 (.cells (numC x) 27)))
      obtain ⟨x0, x1, x2, x3⟩ := four_cells (kk _ _ (k15 _ _ HX14.out))
      obtain ⟨y0, y1, y2, y3⟩ := four_cells (kk _ _ (k15 _ _ HY14.out))
      obtain ⟨z0, z1, z2, z3⟩ := four_cells (kk _ _ (k15 _ _ HZ14.out))
      obtain ⟨u0, u1, u2, u3⟩ := four_cells (kk _ _ (k15 _ _ HU14.out))
      obtain ⟨v0, v1, v2, v3⟩ := four_cells (heap_alloc_new w15 (.cells (numC x) 27))
      generalize w15.alloc _ = W16 at *
      generalize w15.heap.size = b28 at *
      clear hbw15 k15 kk HX14 HY14 HZ14 HU14
      have heq := eq4_same x.re.n x.re.d x.im.n x.im.d W16
      have heq0 := eq4_same 0 0 0 0 W16
      go_upto_region 23 with (go_at_call 15; refine (CM.out _ _).mono ?_; rintro e w10 ⟨rfl, rfl⟩)
      clear x0 x1 x2 x3 y0 y1 y2 y3 z0 z1 z2 z3 u0 u1 u2 u3 v0 v1 v2 v3 heq heq0
      go_wp2_with fail
      refine (CP.out t _).mono ?_
      rintro e w17 ⟨rfl, hb17⟩
      have H17 := hidMk (H16.out.below hb17)
      clear H16 hb17 CP CL
      by_cases hA : ¬ refE t = 0
      · have hne : (refE t != 0) = true := by simpa using hA
        clear hA
        go_wp2_with (go_at_call 15; refine (CM.out _ _).mono ?_; rintro e w18 ⟨rfl, rfl⟩)
        go_ret
        exact ⟨rfl, H17.out.hb⟩
      have hA : refE t = 0 := Decidable.of_not_not hA
      have HT := hidMk (refE_ok hA)
      rw [hA]
      by_cases hL : (s.size : Int) + t.size + 10 > 120
      · go_wp2_with (go_at_call 15; refine (CM.out _ _).mono ?_; rintro e w18 ⟨rfl, rfl⟩)
        go_ret
        exact ⟨rfl, H17.out.hb⟩
      obtain ⟨P1, Q1, R1, R2, E4, E6⟩ := near_ans (HJ2.out HT.out.1 HT.out.2 (by omega))
      have HE4 := hidMk E4
      have HE6 := hidMk E6
      clear E4 E6
      have hst : s.size + t.size ≤ 110 := by omega
      go_upto_region 26 with (go_at_call 15; refine (CM.out _ _).mono ?_; rintro e w18 ⟨rfl, rfl⟩)
      have o1 : (⟨#[40]⟩ : ByteArray).size = 1 := rfl
      have o2 : (⟨#[41]⟩ : ByteArray).size = 1 := rfl
      have o3 : (⟨#[41, 43, 40]⟩ : ByteArray).size = 3 := rfl
      have o4 : (⟨#[43, 40]⟩ : ByteArray).size = 2 := rfl
      have hA2 := HEC.out
      have r1 := catK ⟨#[40]⟩ s (by omega) (by omega) w18
      have r2 := catK (⟨#[40]⟩ ++ s) ⟨#[41, 43, 40]⟩ (by rw [ByteArray.size_append]; omega) (by omega) w18
      have r3 := catK (⟨#[40]⟩ ++ s ++ ⟨#[41, 43, 40]⟩) t (by rw [ByteArray.size_append, ByteArray.size_append]; omega) (by omega) w18
      have r4 := catK (⟨#[40]⟩ ++ s ++ ⟨#[41, 43, 40]⟩ ++ t) ⟨#[41]⟩ (by rw [ByteArray.size_append, ByteArray.size_append, ByteArray.size_append]; omega) (by omega) w18
      have K5 := hidMk (fun W => catK A ⟨#[43, 40]⟩ (by omega) (by omega) W)
      have K6 := hidMk (fun W => catK (A ++ ⟨#[43, 40]⟩) t (by rw [ByteArray.size_append]; omega) (by omega) W)
      have K7 := hidMk (fun W => catK (A ++ ⟨#[43, 40]⟩ ++ t) ⟨#[41]⟩ (by rw [ByteArray.size_append, ByteArray.size_append]; omega) (by omega) W)
      clear o1 o2 o3 o4 hA2 hst hL hA HT HJ2 wa wb
      go_wp2_with fail
      refine (CV.out K NM _ w18 H17.out).mono ?_
      rintro e w19 ⟨rfl, hbw18, k18⟩
      clear H17 r1 r2 r3 r4
      rw [HE4.out]
      clear HE4
      go_upto_region 27 with fail
      have H19 := hidMk (hbw18.below (fr_below w19 (.cells (numC P1) 27)))
      have HX19 := hidMk (heap_alloc_new w19 (.cells (numC P1) 27))
      generalize w19.alloc _ = W19 at *
      generalize w19.heap.size = b34 at *
      clear hbw18 k18
      have r5 := K5.out W19
      have r6 := K6.out W19
      have r7 := K7.out W19
      go_wp2_with fail
      refine (CV.out K NM _ W19 H19.out).mono ?_
      rw [HE6.out]
      rintro e w20 ⟨rfl, hbw20, k20⟩
      clear H19 r5 r6 r7
      go_upto_region 28 with fail
      have kk := K4.of_below (fr_below w20 (.cells (numC P1) 27))
      have H21 := hidMk (hbw20.below (fr_below w20 (.cells (numC P1) 27)))
      obtain ⟨x0, x1, x2, x3⟩ := four_cells (kk _ _ (k20 _ _ HX19.out))
      obtain ⟨y0, y1, y2, y3⟩ := four_cells (heap_alloc_new w20 (.cells (numC P1) 27))
      generalize w20.alloc _ = W21 at *
      generalize w20.heap.size = b37 at *
      clear hbw20 k20 kk HX19
      have heq := eq4_same P1.re.n P1.re.d P1.im.n P1.im.d W21
      go_wp2_with (go_at_call 15; refine (CM.out _ _).mono ?_; rintro e w22 ⟨rfl, rfl⟩)
      go_ret
      exact ⟨rfl, H21.out.hb⟩
    · have HL1 : Hid (letR [] A s = (q, (p : Int), [])) := by
        show _ = _
        unfold letR
        rw [if_neg (by rw [HNC.out.1]; decide), hv]
      have HA : Hid (valS [] A = .err 3 0) := HV0.out []
      rw [hv]
      have e1 : ansV (.err q p) = .tuple #[.agg (numC ⟨⟨0, 0⟩, ⟨0, 0⟩⟩), .int .i64 q, .int .i64 p] := rfl
      rw [e1]
      have hne0 : (q != 0) = true := by simpa using hq
      clear hv hq e1 HV0 HV1 HNC HJ
      go_upto_region 11 with fail
      have H6 := hidMk (H5.out.below (fr_below w5 (.cells (numC ⟨⟨0, 0⟩, ⟨0, 0⟩⟩) 27)))
      generalize w5.alloc _ = W6 at *
      clear H5
      go_wp2_with fail
      refine (CL.out K [] A s W6 H6.out).mono ?_
      rw [HL1.out]
      rintro e w7 ⟨rfl, hbw7, _⟩
      have H7 := hidMk hbw7
      clear H6 hbw7 CL HL1
      go_upto_region 14 with (go_at_call 15; refine (CM.out _ _).mono ?_; rintro e w8 ⟨rfl, rfl⟩)
      go_wp2_with fail
      refine (CV.out K [] A _ H7.out).mono ?_
      rw [HA.out]
      rintro e w9 ⟨rfl, hbw9, _⟩
      have e1 : ansV (.err 3 0) = .tuple #[.agg (numC ⟨⟨0, 0⟩, ⟨0, 0⟩⟩), .int .i64 3, .int .i64 0] := rfl
      rw [e1]
      have H9 := hidMk (hbw9.hb.trans ((fr_below w9 (.cells (numC ⟨⟨0, 0⟩, ⟨0, 0⟩⟩) 27)).mono hbw9.hb.size))
      clear H7 hbw9 e1
      go_upto_region 15 with fail
      generalize w9.alloc _ = W10 at *
      go_wp2_with (go_at_call 15; refine (CM.out _ _).mono ?_; rintro e w8 ⟨rfl, rfl⟩)
      go_ret
      exact ⟨rfl, H9.out⟩
end Go.Proofs.YtodabmkcihafhaaGreatDoor

/- What the listed variables give a walk; a world that has them. -/
namespace Go.Proofs.YtodabmkcihafhaaGreatDoor
open Go.ChangeShapes Go.WideShapes Go.ChangeAt Go.RowKit
open Go.ChangeMaps (open_string shut_string)
set_option linter.unusedVariables false

theorem own : ownKnob Tryz.prog.godebug = none := by kernel_rfl
theorem gZ : Tryz.prog.globalNamed "rill/number.ErrZero" = some 2 := by kernel_rfl
theorem gB : Tryz.prog.globalNamed "rill/number.ErrBig" = some 4 := by kernel_rfl
theorem gZt : (Tryz.prog.globals[2]?).map (·.type) = some 180 := by kernel_rfl
theorem gBt : (Tryz.prog.globals[4]?).map (·.type) = some 180 := by kernel_rfl
theorem cellsES : Tryz.prog.cellsOf 307 = 1 := by kernel_rfl
theorem cellsStr : Tryz.prog.cellsOf 9 = 1 := by kernel_rfl
theorem starES : "*" ++ "errors.errorString" = "*errors.errorString" := by decide
theorem rowES (u : TypeId) (h : Tryz.prog.typeName? 3 u = some "*errors.errorString") : u = 285 :=
  typeName_ptr_named (nm := "errors.errorString") (by rw [starES]; kernel_rfl) (by kernel_rfl) (by decide) u (by rw [starES]; exact h)
abbrev lst2 {H : Type} : List (String × DataW H) := [("rill/number.ErrZero", Rows.laid_rill_number_ErrZero), ("rill/number.ErrBig", Rows.laid_rill_number_ErrBig)]
theorem laid_met (os : Os) (args : Array Value) : laidMet Tryz.prog lst2 ((World.laidAll Tryz.prog os lst2).forCall (fun _ _ => 0) ⟨#[], args, []⟩).memory := laidMet_laidAll args (by kernel_rfl) (by kernel_rfl)
/-- The two errors, as the walks want them. -/
theorem sen_of {W : World} (h : laidMet Tryz.prog lst2 W) : ∃ aZ aB, Sen W.heap.size aZ aB W := by
  obtain ⟨a0, a1, s0, s1, c0, c1, t0, t1, hv0, hv1, hc0, hs0, hz0, hc1, hs1, hz1, hne, hb0, hb1⟩ := laid_sentinels2 h gZ gZt gB gBt Tryz.underlying180 rowES Tryz.underlying285 Tryz.underlying307 rfl rfl Tryz.underlying9 cellsES cellsStr
  have z := World.var?_cell gZ hv0 0
  have b := World.var?_cell gB hv1 0
  refine ⟨a0, a1, ⟨by simpa using z, by simpa using b, fun e => hne e.symm, ⟨c0, t0, hb0⟩, ⟨c1, t1, hb1⟩, ?_, (Array.getElem?_eq_some_iff.1 hb0).1, (Array.getElem?_eq_some_iff.1 hb1).1⟩⟩
  have h4 : 4 < W.heap.size := World.block_lt_of_cell? W ⟨4, 0, none⟩ (by simpa using b)
  omega
end Go.Proofs.YtodabmkcihafhaaGreatDoor

/- What the listed variables give a walk, where unicode/utf8's tables are listed too. -/
namespace Go.Proofs.YtodabmkcihafhaaGreatDoor
open Go.ChangeShapes Go.WideShapes Go.ChangeAt Go.RowKit
set_option linter.unusedVariables false
abbrev lst4 : List (String × DataW Unit) := [("unicode/utf8.acceptRanges", Rows.laid_unicode_utf8_acceptRanges), ("rill/number.ErrZero", Rows.laid_rill_number_ErrZero), ("rill/number.ErrBig", Rows.laid_rill_number_ErrBig), ("unicode/utf8.first", Rows.laid_unicode_utf8_first)]
theorem laid_met4 (os : Os) (args : Array Value) : laidMet Tryz.prog lst4 ((World.laidAll Tryz.prog os lst4).forCall (fun _ _ => 0) ⟨#[], args, []⟩).memory := laidMet_laidAll args (by kernel_rfl) (by kernel_rfl)
theorem sen_of4 {W : World} (h : laidMet Tryz.prog lst4 W) : ∃ aZ aB, Sen W.heap.size aZ aB W :=
  sen_of (h.filter (fun x => x.1 == "rill/number.ErrZero" || x.1 == "rill/number.ErrBig"))
theorem firstEq : Rows.laid_unicode_utf8_first = Lib.firstData := by kernel_rfl
theorem acceptEq : (Rows.laid_unicode_utf8_acceptRanges : DataW Unit) = Lib.acceptData := by kernel_rfl
theorem u8_of4 {W : World} (h : laidMet Tryz.prog lst4 W) : U8T W :=
  u8t_of_reads (firstEq ▸ Lib.laidMet.reads h (.tail _ (.tail _ (.tail _ (.head _))))) (acceptEq ▸ Lib.laidMet.reads h (.head _))
end Go.Proofs.YtodabmkcihafhaaGreatDoor
