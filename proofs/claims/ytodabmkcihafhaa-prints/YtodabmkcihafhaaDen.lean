/- The tree that the program builds for a list of nodes. -/
import Derived.Test.YtodabmkcihafhaaFormP
import GoSem.Claim
namespace Go.Proofs.Ytodabmkcihafhaa

/-- One node of the tree, its parts under names. -/
def nodeD (n : Nd) (a b : Value) : Value :=
  if n.op = 43 ∨ n.op = 8722 then .iface 85 (.agg #[a, .int .i32 n.op, .int .i64 n.pl, b])
  else if n.op = 215 ∨ n.op = 247 then .iface 84 (.agg #[a, .int .i32 n.op, .int .i64 n.pl, b])
  else if n.op = 110 then .iface 82 (.agg #[a])
  else if n.op = 178 ∨ n.op = 8242 then .iface 78 (.agg #[a, .int .i32 n.op, .int .i64 n.pl])
  else if n.op = 48 then .iface 68 (.agg #[.string n.text])
  else if n.op = 105 then .iface 74 (.agg #[])
  else .iface 76 (.agg #[.int .i32 n.op, .int .i64 n.pl])
def denF : Nat → List Nd → Nat → Value
  | 0, _, _ => .nilIface
  | f + 1, L, k =>
    match L[k]? with
    | none => .nilIface
    | some n => nodeD n (denF f L n.a) (denF f L n.b)
def den (L : List Nd) (k : Nat) : Value := denF (k + 1) L k

theorem denF_succ (f : Nat) (L : List Nd) (k : Nat) (n : Nd) (h : L[k]? = some n) : denF (f + 1) L k = nodeD n (denF f L n.a) (denF f L n.b) := by
  simp only [denF, h]
theorem nodeD_congr (n : Nd) {k : Nat} {a b a' b' : Value} (hw : WfN k n) (ha : n.a < k → a = a') (hb : n.b < k → b = b') : nodeD n a b = nodeD n a' b' := by
  obtain ⟨_, _, h1, h2⟩ := hw
  unfold nodeD
  by_cases c1 : n.op = 43 ∨ n.op = 8722
  · have hb1 : isBin n.op = true := by unfold isBin; rcases c1 with e | e <;> simp [e]
    obtain ⟨q1, q2⟩ := h1 hb1
    obtain rfl := ha q1
    obtain rfl := hb q2
    rfl
  · rw [if_neg c1, if_neg c1]
    by_cases c2 : n.op = 215 ∨ n.op = 247
    · have hb1 : isBin n.op = true := by unfold isBin; rcases c2 with e | e <;> simp [e]
      obtain ⟨q1, q2⟩ := h1 hb1
      obtain rfl := ha q1
      obtain rfl := hb q2
      rfl
    · rw [if_neg c2, if_neg c2]
      by_cases c3 : n.op = 110
      · have hu : isUn n.op = true := by unfold isUn; simp [c3]
        obtain rfl := ha (h2 hu)
        rfl
      · rw [if_neg c3, if_neg c3]
        by_cases c4 : n.op = 178 ∨ n.op = 8242
        · have hu : isUn n.op = true := by unfold isUn; rcases c4 with e | e <;> simp [e]
          obtain rfl := ha (h2 hu)
          rfl
        · rw [if_neg c4, if_neg c4]
theorem denF_append : ∀ (f : Nat) (L M : List Nd) (k : Nat), WfL L → k < L.length → denF f (L ++ M) k = denF f L k := by
  intro f
  induction f with
  | zero => intro L M k _ _; rfl
  | succ f ih =>
    intro L M k hw hk
    obtain ⟨n, hn⟩ : ∃ n, L[k]? = some n := ⟨L[k], List.getElem?_eq_getElem hk⟩
    have hn2 : (L ++ M)[k]? = some n := by rw [List.getElem?_append_left hk]; exact hn
    rw [denF_succ f L k n hn, denF_succ f (L ++ M) k n hn2]
    exact nodeD_congr n (hw k n hn) (fun h => ih L M _ hw (by omega)) (fun h => ih L M _ hw (by omega))
theorem denF_fuel : ∀ (f : Nat) (L : List Nd) (k : Nat), WfL L → k < L.length → k < f → denF (f + 1) L k = denF f L k := by
  intro f
  induction f with
  | zero => intro L k _ _ h; omega
  | succ f ih =>
    intro L k hw hk hf
    obtain ⟨n, hn⟩ : ∃ n, L[k]? = some n := ⟨L[k], List.getElem?_eq_getElem hk⟩
    rw [denF_succ (f + 1) L k n hn, denF_succ f L k n hn]
    exact nodeD_congr n (hw k n hn) (fun h => ih L _ hw (by omega) (by omega)) (fun h => ih L _ hw (by omega) (by omega))
theorem denF_den : ∀ (d : Nat) (L : List Nd) (k : Nat), WfL L → k < L.length → denF (k + 1 + d) L k = den L k := by
  intro d
  induction d with
  | zero => intro L k _ _; rfl
  | succ d ih =>
    intro L k hw hk
    rw [← Nat.add_assoc, denF_fuel (k + 1 + d) L k hw hk (by omega)]
    exact ih L k hw hk
theorem den_eq (L : List Nd) (k : Nat) (n : Nd) (hw : WfL L) (h : L[k]? = some n) : den L k = nodeD n (den L n.a) (den L n.b) := by
  have hk : k < L.length := (List.getElem?_eq_some_iff.1 h).1
  unfold den
  rw [denF_succ k L k n h]
  refine nodeD_congr n (hw k n h) (fun ha => ?_) (fun hb => ?_)
  · rw [show k = n.a + 1 + (k - n.a - 1) by omega]; exact denF_den _ L n.a hw (by omega)
  · rw [show k = n.b + 1 + (k - n.b - 1) by omega]; exact denF_den _ L n.b hw (by omega)
theorem den_append (L M : List Nd) (k : Nat) (hw : WfL L) (hk : k < L.length) : den (L ++ M) k = den L k := denF_append _ L M k hw hk
theorem den_last (L : List Nd) (n : Nd) (hw : WfL L) (hn : WfN L.length n) : den (L ++ [n]) L.length = nodeD n (den L n.a) (den L n.b) := by
  have hg : (L ++ [n])[L.length]? = some n := by simp
  rw [den_eq (L ++ [n]) L.length n (hw.snoc hn) hg]
  exact nodeD_congr n hn (fun ha => den_append _ _ _ hw ha) (fun hb => den_append _ _ _ hw hb)

/-- An interface's value. -/
def IsI (v : Value) : Prop := v = .nilIface ∨ ∃ T x, v = .iface T x
theorem nodeD_isI (n : Nd) (a b : Value) : ∃ T x, nodeD n a b = .iface T x := by
  unfold nodeD
  repeat' split
  all_goals exact ⟨_, _, rfl⟩
theorem den_isI (L : List Nd) (k : Nat) (hw : WfL L) (hk : k < L.length) : ∃ T x, den L k = .iface T x := by
  obtain ⟨n, hn⟩ : ∃ n, L[k]? = some n := ⟨L[k], List.getElem?_eq_getElem hk⟩
  rw [den_eq L k n hw hn]
  exact nodeD_isI n _ _
end Go.Proofs.Ytodabmkcihafhaa
