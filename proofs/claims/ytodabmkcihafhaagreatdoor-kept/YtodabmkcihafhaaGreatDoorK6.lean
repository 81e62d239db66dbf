import Derived.Shelf.Unicode.DecodeAny
import Derived.Lib.LaidU8
import Derived.Test.YtodabmkcihafhaaGreatDoorProg
import Derived.Test.YtodabmkcihafhaaGreatDoorRows
import Derived.WalkKit
import Derived.WalkSpells
import Derived.WalkLawsBesides
import Derived.Deep.LoopGhost
import Derived.RegionTactic
import Derived.ChangeAlike
import Derived.BigRegion
import Derived.Deep.RegionWith
import Derived.Lib.QuietBelow
import Derived.Test.YtodabmkcihafhaaGreatDoorK2
import Derived.Test.YtodabmkcihafhaaGreatDoorK5
import Derived.Test.YtodabmkcihafhaaGreatDoorK3

/- Plain: texts in brackets, with signs: how they are read. -/
namespace Go.Proofs.YtodabmkcihafhaaGreatDoor
set_option linter.unusedVariables false

theorem toks_need (s : ByteArray) (h : s.size ≤ 120) : need 0 (toks s 0 false) ≤ 2000 := by
  have := toks_len s h
  simp [need]
  omega
theorem treeT_PT (s : ByteArray) (h : s.size ≤ 120) : treeT s = (PT 0 e0 (toks s 0 false)).e := by
  unfold treeT
  rw [pt_PT e0 (toks_need s h)]
theorem good_PT (s : ByteArray) (h : s.size ≤ 120) : good s = ((PT 0 e0 (toks s 0 false)).ok && hd (PT 0 e0 (toks s 0 false)).ts == -1) := by
  obtain ⟨a1, a2, a3⟩ := pp_pt 2000 0 0 (toks s 0 false) [] [] e0 (Or.inl ⟨by decide, rfl⟩) (fun h => by omega) (fun _ => rfl)
  rw [← pt_PT e0 (toks_need s h), ← a1, ← a2]
  rfl
theorem good_of {s : ByteArray} (h : s.size ≤ 120) {e : Ex} {t : Tok} {r : List Tok} (ht : t.c = -1) (hp : PT 0 e0 (toks s 0 false) = ⟨true, e, t :: r⟩) : good s = true ∧ treeT s = e := by
  rw [good_PT s h, treeT_PT s h, hp]
  refine ⟨?_, rfl⟩
  show (true && t.c == -1) = true
  rw [ht]
  rfl

/-- A piece stands in a text. -/
def Sits (S : ByteArray) (i : Nat) (x : ByteArray) : Prop := ∃ pre post, S = pre ++ x ++ post ∧ pre.size = i
theorem Sits.size {S x : ByteArray} {i : Nat} (h : Sits S i x) : i + x.size ≤ S.size := by
  obtain ⟨pre, post, rfl, rfl⟩ := h
  rw [mid_size]
  omega
theorem Sits.left {S x y : ByteArray} {i : Nat} (h : Sits S i (x ++ y)) : Sits S i x := by
  obtain ⟨pre, post, rfl, rfl⟩ := h
  exact ⟨pre, y ++ post, by simp [ByteArray.append_assoc], rfl⟩
theorem Sits.right {S x y : ByteArray} {i : Nat} (h : Sits S i (x ++ y)) : Sits S (i + x.size) y := by
  obtain ⟨pre, post, rfl, rfl⟩ := h
  exact ⟨pre ++ x, post, by simp [ByteArray.append_assoc], by rw [ByteArray.size_append]⟩
theorem Sits.all (S : ByteArray) : Sits S 0 S := ⟨ByteArray.empty, ByteArray.empty, by simp, rfl⟩
theorem toks_sits {S : ByteArray} {i n : Nat} (hk : known n = true) (hn : n ≠ 32) (h : Sits S i (Utf8.encode (n : Int))) (ap : Bool) :
    toks S i ap = ⟨n, i, ap⟩ :: toks S (i + (Utf8.encode (n : Int)).size) false := by
  have hsz := h.size
  obtain ⟨pre, post, rfl, rfl⟩ := h
  obtain ⟨h1, h2⟩ := dec_enc pre post n hk
  rw [toks_step _ _ _ (by omega), h1, if_neg hn]
theorem brO : Utf8.encode (40 : Nat) = ⟨#[40]⟩ := by decide
theorem brC : Utf8.encode (41 : Nat) = ⟨#[41]⟩ := by decide

def inBr (a : ByteArray) : ByteArray := ⟨#[40]⟩ ++ a ++ ⟨#[41]⟩
theorem inBr_size (a : ByteArray) : (inBr a).size = a.size + 2 := by
  unfold inBr
  rw [mid_size]
  show 1 + a.size + 1 = a.size + 2
  omega
theorem br_read {S a : ByteArray} {i : Nat} (ha : a.size ≤ 120) (hg : good a = true) (h : Sits S i (inBr a)) (ap : Bool) (e : Ex) :
    PT 3 e (toks S i ap) = ⟨true, (treeT a).shift (i + 1), toks S (i + a.size + 2) false⟩ ∧ ∃ r, toks S i ap = ⟨40, i, ap⟩ :: r := by
  have h0 : Sits S i (⟨#[40]⟩ ++ (a ++ ⟨#[41]⟩)) := by
    unfold inBr at h
    rw [ByteArray.append_assoc] at h
    exact h
  have t1 := toks_sits (S := S) (i := i) (n := 40) (by decide) (by decide) (by rw [brO]; exact h0.left) ap
  rw [brO] at t1
  have h1 := h0.right
  have h2 : Sits S (i + 1 + a.size) ⟨#[41]⟩ := h1.right
  have t2 := fun ap => toks_sits (S := S) (i := i + 1 + a.size) (n := 41) (by decide) (by decide) (by rw [brC]; exact h2) ap
  rw [brC] at t2
  have t1' : toks S i ap = ⟨40, i, ap⟩ :: toks S (i + 1) false := t1
  refine ⟨?_, _, t1'⟩
  have h3 : Sits S (i + 1) (a ++ ⟨#[41]⟩) := h1
  obtain ⟨pre, post, rfl, hpre⟩ := h3
  have hS : pre ++ (a ++ ⟨#[41]⟩) ++ post = pre ++ a ++ (⟨#[41]⟩ ++ post) := by simp [ByteArray.append_assoc]
  have hq : 0 < ((⟨#[41]⟩ : ByteArray) ++ post).size ∧ bt ((⟨#[41]⟩ : ByteArray) ++ post) 0 < 128 := by
    have e1 : (⟨#[41]⟩ : ByteArray).size = 1 := rfl
    refine ⟨by rw [ByteArray.size_append]; omega, ?_⟩
    rw [bt_left _ _ _ (by decide)]
    decide
  obtain ⟨b, _, sm⟩ := toks_mid pre a (⟨#[41]⟩ ++ post) hq a.size 0 false (by omega) (Nat.zero_le _)
  rw [← hS, hpre, t2 b, Nat.add_zero] at sm
  have gp := good_PT a ha
  rw [hg] at gp
  have gp' := gp.symm
  simp only [Bool.and_eq_true, beq_iff_eq] at gp'
  have sr := PT_sim (e' := e) (Or.inl rfl) sm (fun h => by omega) gp'.1
  rw [t1', PT_3]
  rw [if_neg (show ¬ (isDig 40 || isFrac 40) = true by decide), if_neg (show ¬ ((40 : Int) = 105 ∨ isNm 40 = true) by decide), if_pos rfl, if_pos sr.ok]
  have hts : (PT 0 e (toks (pre ++ (a ++ ⟨#[41]⟩) ++ post) (i + 1) false)).ts = ⟨(41 : Nat), i + 1 + a.size, b⟩ :: toks (pre ++ (a ++ ⟨#[41]⟩) ++ post) (i + 1 + a.size + 1) false := by
    have st := sr.ts
    have g2 := gp'.2
    generalize (PT 0 e0 (toks a 0 false)).ts = us at st g2
    generalize (PT 0 e (toks (pre ++ (a ++ ⟨#[41]⟩) ++ post) (i + 1) false)).ts = vs at st
    cases st with
    | stop _ _ => rfl
    | cons t ht r r' hr =>
      exfalso
      have : t.c = -1 := g2
      omega
  rw [hts, if_pos (show hd (⟨(41 : Nat), i + 1 + a.size, b⟩ :: toks (pre ++ (a ++ ⟨#[41]⟩) ++ post) (i + 1 + a.size + 1) false) = 41 from rfl), sr.e, treeT_PT a ha]
  show (⟨true, _, toks _ (i + 1 + a.size + 1) false⟩ : RT) = _
  rw [show i + 1 + a.size + 1 = i + a.size + 2 by omega]
theorem br_two {S a : ByteArray} {i : Nat} (ha : a.size ≤ 120) (hg : good a = true) (h : Sits S i (inBr a)) (ap : Bool) (e : Ex) :
    PT 2 e (toks S i ap) = PT 6 ((treeT a).shift (i + 1)) (toks S (i + a.size + 2) false) := by
  obtain ⟨h1, r, h2⟩ := br_read ha hg h ap e
  rw [h2] at h1
  rw [h2, PT_2, if_neg (show ¬ ((40 : Int) = 8722) by decide), h1, if_pos rfl]
theorem at_end (S : ByteArray) (i : Nat) (h : i = S.size) : toks S i false = [⟨-1, S.size, false⟩] := toks_end S i false (by omega)
theorem PT6_end (e : Ex) (p : Nat) (a : Bool) : PT 6 e [⟨-1, p, a⟩] = ⟨true, e, [⟨-1, p, a⟩]⟩ := by rw [PT_6]; rfl
theorem PT5_end (e : Ex) (p : Nat) (a : Bool) : PT 5 e [⟨-1, p, a⟩] = ⟨true, e, [⟨-1, p, a⟩]⟩ := by rw [PT_5]; rfl
theorem PT4_end (e : Ex) (p : Nat) (a : Bool) : PT 4 e [⟨-1, p, a⟩] = ⟨true, e, [⟨-1, p, a⟩]⟩ := by rw [PT_4]; rfl
theorem PT01_end {e e1 : Ex} {ts : List Tok} {p : Nat} {a : Bool} (h : PT 2 e ts = ⟨true, e1, [⟨-1, p, a⟩]⟩) : PT 1 e ts = ⟨true, e1, [⟨-1, p, a⟩]⟩ ∧ PT 0 e ts = ⟨true, e1, [⟨-1, p, a⟩]⟩ := by
  have h1 : PT 1 e ts = ⟨true, e1, [⟨-1, p, a⟩]⟩ := by rw [PT_1, h, if_pos rfl, PT5_end]
  exact ⟨h1, by rw [PT_0, h1, if_pos rfl, PT4_end]⟩

def signs2 (c : Nat) : Prop := c = 43 ∨ c = 8722 ∨ c = 215 ∨ c = 247
theorem signs2_known {c : Nat} (h : signs2 c) : known c = true ∧ c ≠ 32 ∧ isMk (c : Int) = false := by
  rcases h with rfl | rfl | rfl | rfl <;> decide
/-- Two, one of them read already, a sign between. -/
theorem two_read {S : ByteArray} {i j c n : Nat} {ap : Bool} (hc : signs2 c) (X Y : Ex) (e : Ex) (h1 : PT 2 e (toks S i ap) = PT 6 X (toks S j false)) (h2 : toks S j false = ⟨c, j, false⟩ :: toks S n false)
    (h3 : ∀ e, PT 2 e (toks S n false) = ⟨true, Y, [⟨-1, S.size, false⟩]⟩) : PT 0 e (toks S i ap) = ⟨true, .bin c j X Y, [⟨-1, S.size, false⟩]⟩ := by
  obtain ⟨k1, k2, k3⟩ := signs2_known hc
  have g1 : PT 2 e (toks S i ap) = ⟨true, X, ⟨c, j, false⟩ :: toks S n false⟩ := by
    rw [h1, h2, PT_6, if_neg (by rw [k3]; decide)]
  by_cases hr : inRow 1 (c : Int) = true
  · have g2 : PT 1 e (toks S i ap) = ⟨true, .bin c j X Y, [⟨-1, S.size, false⟩]⟩ := by
      rw [PT_1, g1, if_pos rfl, PT_5, if_pos hr, h3, if_pos rfl, PT5_end]
    rw [PT_0, g2, if_pos rfl, PT4_end]
  · have g2 : PT 1 e (toks S i ap) = ⟨true, X, ⟨c, j, false⟩ :: toks S n false⟩ := by
      rw [PT_1, g1, if_pos rfl, PT_5, if_neg hr]
    have hr0 : inRow 0 (c : Int) = true := by
      rcases hc with rfl | rfl | rfl | rfl
      · rfl
      · rfl
      · exact absurd rfl hr
      · exact absurd rfl hr
    rw [PT_0, g2, if_pos rfl, PT_4, if_pos hr0, (PT01_end (h3 _)).1, if_pos rfl, PT4_end]

/-- (a)c(b) -/
theorem joined_tree (a b : ByteArray) (c : Nat) (hc : signs2 c) (ga : good a = true) (gb : good b = true) (S : ByteArray) (hS : S = inBr a ++ Utf8.encode (c : Int) ++ inBr b) (h : S.size ≤ 120) :
    good S = true ∧ ∃ p q r, treeT S = .bin c p ((treeT a).shift q) ((treeT b).shift r) := by
  obtain ⟨k1, k2, k3⟩ := signs2_known hc
  have s1 : Sits S 0 (inBr a ++ Utf8.encode (c : Int) ++ inBr b) := by rw [← hS]; exact Sits.all S
  have hsz : S.size = (a.size + 2) + (Utf8.encode (c : Int)).size + (b.size + 2) := by
    rw [hS, ByteArray.size_append, ByteArray.size_append, inBr_size, inBr_size]
  have sc := s1.left.right
  have sb := s1.right
  rw [inBr_size, Nat.zero_add] at sc
  rw [ByteArray.size_append, inBr_size, Nat.zero_add] at sb
  have r1 := br_two (by omega) ga s1.left.left false e0
  simp only [Nat.zero_add] at r1
  have r2 := toks_sits k1 k2 sc false
  have r3 := fun e => br_two (by omega) gb sb false e
  have r4 : ∀ e, PT 2 e (toks S (a.size + 2 + (Utf8.encode (c : Int)).size) false) = ⟨true, (treeT b).shift (a.size + 2 + (Utf8.encode (c : Int)).size + 1), [⟨-1, S.size, false⟩]⟩ := fun e => by
    rw [r3, at_end S _ (by omega), PT6_end]
  have := two_read hc _ _ e0 r1 r2 r4
  have g := good_of h rfl this
  exact ⟨g.1, _, _, _, g.2⟩
/-- (a)m -/
theorem mark_tree (a : ByteArray) (m : Nat) (hm : m = 178 ∨ m = 8242) (ga : good a = true) (S : ByteArray) (hS : S = inBr a ++ Utf8.encode (m : Int)) (h : S.size ≤ 120) :
    good S = true ∧ ∃ p q, treeT S = .un m p ((treeT a).shift q) := by
  have k1 : known m = true := by rcases hm with rfl | rfl <;> decide
  have k2 : m ≠ 32 := by omega
  have k3 : isMk (m : Int) = true := by rcases hm with rfl | rfl <;> decide
  have s1 : Sits S 0 (inBr a ++ Utf8.encode (m : Int)) := by rw [← hS]; exact Sits.all S
  have hsz : S.size = (a.size + 2) + (Utf8.encode (m : Int)).size := by rw [hS, ByteArray.size_append, inBr_size]
  have sc := s1.right
  rw [inBr_size, Nat.zero_add] at sc
  have r1 := br_two (by omega) ga s1.left false e0
  simp only [Nat.zero_add] at r1
  rw [toks_sits k1 k2 sc false, PT_6, if_pos k3, at_end S (a.size + 2 + (Utf8.encode (m : Int)).size) (by omega), PT6_end] at r1
  have g := good_of h rfl (PT01_end r1).2
  exact ⟨g.1, _, _, g.2⟩
/-- (a)mm -/
theorem mark2_tree (a : ByteArray) (m : Nat) (hm : m = 178 ∨ m = 8242) (ga : good a = true) (S : ByteArray) (hS : S = inBr a ++ Utf8.encode (m : Int) ++ Utf8.encode (m : Int)) (h : S.size ≤ 120) :
    good S = true ∧ ∃ p p' q, treeT S = .un m p (.un m p' ((treeT a).shift q)) := by
  have k1 : known m = true := by rcases hm with rfl | rfl <;> decide
  have k2 : m ≠ 32 := by omega
  have k3 : isMk (m : Int) = true := by rcases hm with rfl | rfl <;> decide
  have s1 : Sits S 0 (inBr a ++ Utf8.encode (m : Int) ++ Utf8.encode (m : Int)) := by rw [← hS]; exact Sits.all S
  have hsz : S.size = (a.size + 2) + (Utf8.encode (m : Int)).size + (Utf8.encode (m : Int)).size := by rw [hS, ByteArray.size_append, ByteArray.size_append, inBr_size]
  have sc := s1.left.right
  have sd := s1.right
  rw [inBr_size, Nat.zero_add] at sc
  rw [ByteArray.size_append, inBr_size, Nat.zero_add] at sd
  have r1 := br_two (by omega) ga s1.left.left false e0
  simp only [Nat.zero_add] at r1
  rw [toks_sits k1 k2 sc false, PT_6, if_pos k3, toks_sits k1 k2 sd false, PT_6, if_pos k3, at_end S (a.size + 2 + (Utf8.encode (m : Int)).size + (Utf8.encode (m : Int)).size) (by omega), PT6_end] at r1
  have g := good_of h rfl (PT01_end r1).2
  exact ⟨g.1, _, _, _, g.2⟩
/-- −(a) -/
theorem neg_tree (a : ByteArray) (ga : good a = true) (S : ByteArray) (hS : S = Utf8.encode ((8722 : Nat) : Int) ++ inBr a) (h : S.size ≤ 120) :
    good S = true ∧ ∃ p q, treeT S = .un 110 p ((treeT a).shift q) := by
  have s1 : Sits S 0 (Utf8.encode ((8722 : Nat) : Int) ++ inBr a) := by rw [← hS]; exact Sits.all S
  have hsz : S.size = (Utf8.encode ((8722 : Nat) : Int)).size + (a.size + 2) := by rw [hS, ByteArray.size_append, inBr_size]
  have sc := s1.right
  rw [Nat.zero_add] at sc
  have r1 := br_two (by omega) ga sc false e0
  rw [at_end S ((Utf8.encode ((8722 : Nat) : Int)).size + a.size + 2) (by omega), PT6_end] at r1
  have r2 : PT 2 e0 (toks S 0 false) = ⟨true, .un 110 0 ((treeT a).shift ((Utf8.encode ((8722 : Nat) : Int)).size + 1)), [⟨-1, S.size, false⟩]⟩ := by
    rw [toks_sits (n := 8722) (by decide) (by decide) s1.left false, Nat.zero_add, PT_2, if_pos (show ((8722 : Nat) : Int) = 8722 from rfl), r1, if_pos rfl]
  have g := good_of h rfl (PT01_end r2).2
  exact ⟨g.1, _, _, g.2⟩
/-- n+(b), n a name -/
theorem name_tree (n : Nat) (hn : 945 ≤ n ∧ n ≤ 969) (b : ByteArray) (gb : good b = true) (S : ByteArray) (hS : S = Utf8.encode (n : Int) ++ Utf8.encode ((43 : Nat) : Int) ++ inBr b) (h : S.size ≤ 120) :
    good S = true ∧ ∃ p r, treeT S = .bin 43 p (.leaf n 0) ((treeT b).shift r) := by
  have kn : known n = true := by unfold known; simp; omega
  have s1 : Sits S 0 (Utf8.encode (n : Int) ++ Utf8.encode ((43 : Nat) : Int) ++ inBr b) := by rw [← hS]; exact Sits.all S
  have hsz : S.size = (Utf8.encode (n : Int)).size + (Utf8.encode ((43 : Nat) : Int)).size + (b.size + 2) := by
    rw [hS, ByteArray.size_append, ByteArray.size_append, inBr_size]
  have sc := s1.left.right
  have sb := s1.right
  rw [Nat.zero_add] at sc
  rw [ByteArray.size_append, Nat.zero_add] at sb
  have r2 := toks_sits (n := 43) (by decide) (by decide) sc false
  have r4 : ∀ e, PT 2 e (toks S ((Utf8.encode (n : Int)).size + (Utf8.encode ((43 : Nat) : Int)).size) false) = ⟨true, (treeT b).shift ((Utf8.encode (n : Int)).size + (Utf8.encode ((43 : Nat) : Int)).size + 1), [⟨-1, S.size, false⟩]⟩ := fun e => by
    rw [br_two (by omega) gb sb false e, at_end S _ (by omega), PT6_end]
  have r1 : PT 2 e0 (toks S 0 false) = PT 6 (.leaf n 0) (toks S (Utf8.encode (n : Int)).size false) := by
    have i1 : (isDig (n : Int) || isFrac (n : Int)) = false := by unfold isDig isFrac; simp; omega
    have i2 : isNm (n : Int) = true := by unfold isNm; simp; omega
    have h3 : PT 3 e0 (toks S 0 false) = ⟨true, .leaf n 0, toks S (Utf8.encode (n : Int)).size false⟩ := by
      rw [toks_sits kn (by omega) s1.left.left false, Nat.zero_add, PT_3, if_neg (by rw [i1]; decide), if_pos (Or.inr i2)]
    rw [toks_sits kn (by omega) s1.left.left false, Nat.zero_add] at h3 ⊢
    rw [PT_2, if_neg (show ¬ ((n : Int) = 8722) by omega), h3, if_pos rfl]
  have := two_read (Or.inl rfl) _ _ e0 r1 r2 r4
  have g := good_of h rfl this
  exact ⟨g.1, _, _, g.2⟩

/-! ### Places don't tell in numbers -/
theorem evT_shift (env : Env) (k : Nat) : ∀ e, (∀ x, evT env e = .ok x → evT env (e.shift k) = .ok x) ∧ (∀ q p, evT env e = .err q p → ∃ p', evT env (e.shift k) = .err q p') := by
  intro e
  induction e with
  | num l p => exact ⟨fun x h => h, fun q p h => by cases h⟩
  | leaf c p => exact ⟨fun x h => h, fun q p h => by cases h⟩
  | un c p e ih =>
    simp only [Ex.shift, evT]
    cases he : evT env e with
    | ok x =>
      rw [ih.1 x he]
      simp only
      cases opP c x x with
      | ok y => exact ⟨fun z h => h, fun q p h => by cases h⟩
      | err q => exact ⟨fun z h => (by cases h), fun q p h => by injection h with h1 h2; subst h1; exact ⟨_, rfl⟩⟩
    | err q p2 =>
      obtain ⟨p', hp⟩ := ih.2 q p2 he
      rw [hp]
      exact ⟨fun z h => (by cases h), fun q p h => by injection h with h1 h2; subst h1; exact ⟨_, rfl⟩⟩
  | bin c p l r ihl ihr =>
    simp only [Ex.shift, evT]
    cases hl : evT env l with
    | ok x =>
      rw [ihl.1 x hl]
      cases hr : evT env r with
      | ok y =>
        rw [ihr.1 y hr]
        simp only
        cases opP c x y with
        | ok y => exact ⟨fun z h => h, fun q p h => by cases h⟩
        | err q => exact ⟨fun z h => (by cases h), fun q p h => by injection h with h1 h2; subst h1; exact ⟨_, rfl⟩⟩
      | err q p2 =>
        obtain ⟨p', hp⟩ := ihr.2 q p2 hr
        rw [hp]
        exact ⟨fun z h => (by cases h), fun q p h => by injection h with h1 h2; subst h1; exact ⟨_, rfl⟩⟩
    | err q p2 =>
      obtain ⟨p', hp⟩ := ihl.2 q p2 hl
      rw [hp]
      exact ⟨fun z h => (by cases h), fun q p h => by injection h with h1 h2; subst h1; exact ⟨_, rfl⟩⟩
theorem missT_shift (env : Env) (k : Nat) : ∀ e, missT env (e.shift k) = (missT env e).map (· + k) := by
  intro e
  induction e with
  | num l p => rfl
  | leaf c p =>
    simp only [Ex.shift, missT]
    split <;> rfl
  | un c p e ih => exact ih
  | bin c p l r ihl ihr =>
    simp only [Ex.shift, missT]
    rw [ihl, ihr]
    cases missT env l <;> rfl
end Go.Proofs.YtodabmkcihafhaaGreatDoor

/- The library's decoder of UTF-8, laid over this program. -/
namespace Go.Proofs.YtodabmkcihafhaaGreatDoor
open Go.Shelf Go.RowKit
def ren197 : Go.Shelf.Ren := ⟨fun | 197 => 64 | 260 => 94 | n => n, fun | 0 => 0 | 3 => 3 | 4 => 4 | 5 => 5 | 9 => 9 | 21 => 21 | 46 => 240 | 105 => 145 | 119 => 239 | 138 => 242 | 139 => 243 | n => n, fun | 3 => 0 | 4 => 1 | n => n⟩
theorem lays197 : Go.Proofs.Lays.n197 Tryz.prog ren197 := {
  mixed := by kernel_rfl
  f197 := Tryz.func64.trans (congrArg some (by kernel_rfl))
  f260 := Tryz.func94.trans (congrArg some (by kernel_rfl))
  t0 := Tryz.underlying0
  a0 := Tryz.isAgg0
  z0 := Tryz.sizeOf0
  v0 := Tryz.zeroValue0
  t3 := Tryz.underlying3
  a3 := Tryz.isAgg3
  z3 := Tryz.sizeOf3
  v3 := Tryz.zeroValue3
  t4 := Tryz.underlying4
  a4 := Tryz.isAgg4
  z4 := Tryz.sizeOf4
  v4 := Tryz.zeroValue4
  t5 := Tryz.underlying5
  a5 := Tryz.isAgg5
  z5 := Tryz.sizeOf5
  v5 := Tryz.zeroValue5
  t9 := Tryz.underlying9
  a9 := Tryz.isAgg9
  z9 := Tryz.sizeOf9
  v9 := Tryz.zeroValue9
  t21 := Tryz.underlying21
  a21 := Tryz.isAgg21
  z21 := Tryz.sizeOf21
  v21 := Tryz.zeroValue21
  t46 := Tryz.underlying240
  a46 := Tryz.isAgg240
  z46 := Tryz.sizeOf240
  v46 := Tryz.zeroValue240
  t105 := Tryz.underlying145
  a105 := Tryz.isAgg145
  z105 := Tryz.sizeOf145
  v105 := Tryz.zeroValue145
  t119 := Tryz.underlying239
  a119 := Tryz.isAgg239
  z119 := Tryz.sizeOf239
  t138 := Tryz.underlying242
  a138 := Tryz.isAgg242
  z138 := Tryz.sizeOf242
  v138 := Tryz.zeroValue242
  t139 := Tryz.underlying243
  a139 := Tryz.isAgg243
  z139 := Tryz.sizeOf243
  v139 := Tryz.zeroValue243
  g3 := by kernel_rfl
  g4 := by kernel_rfl }
def ren260 : Go.Shelf.Ren := ⟨fun | 260 => 94 | n => n, fun | 0 => 0 | 3 => 3 | 4 => 4 | 5 => 5 | 9 => 9 | 21 => 21 | 46 => 240 | 119 => 239 | 138 => 242 | 139 => 243 | n => n, fun | 3 => 0 | 4 => 1 | n => n⟩
theorem lays260 : Go.Proofs.Lays.n260 Tryz.prog ren260 := {
  mixed := by kernel_rfl
  f260 := Tryz.func94.trans (congrArg some (by kernel_rfl))
  t0 := Tryz.underlying0
  a0 := Tryz.isAgg0
  z0 := Tryz.sizeOf0
  v0 := Tryz.zeroValue0
  t3 := Tryz.underlying3
  a3 := Tryz.isAgg3
  z3 := Tryz.sizeOf3
  v3 := Tryz.zeroValue3
  t4 := Tryz.underlying4
  a4 := Tryz.isAgg4
  z4 := Tryz.sizeOf4
  v4 := Tryz.zeroValue4
  t5 := Tryz.underlying5
  a5 := Tryz.isAgg5
  z5 := Tryz.sizeOf5
  v5 := Tryz.zeroValue5
  t9 := Tryz.underlying9
  a9 := Tryz.isAgg9
  z9 := Tryz.sizeOf9
  v9 := Tryz.zeroValue9
  t21 := Tryz.underlying21
  a21 := Tryz.isAgg21
  z21 := Tryz.sizeOf21
  v21 := Tryz.zeroValue21
  t46 := Tryz.underlying240
  a46 := Tryz.isAgg240
  z46 := Tryz.sizeOf240
  v46 := Tryz.zeroValue240
  t119 := Tryz.underlying239
  a119 := Tryz.isAgg239
  z119 := Tryz.sizeOf239
  t138 := Tryz.underlying242
  a138 := Tryz.isAgg242
  z138 := Tryz.sizeOf242
  v138 := Tryz.zeroValue242
  t139 := Tryz.underlying243
  a139 := Tryz.isAgg243
  z139 := Tryz.sizeOf243
  v139 := Tryz.zeroValue243
  g3 := by kernel_rfl
  g4 := by kernel_rfl }
theorem u8extra : U8Extra Tryz.prog ren260 := ⟨by kernel_rfl, by kernel_rfl, by kernel_rfl, by kernel_rfl, by kernel_rfl, by kernel_rfl, by kernel_rfl⟩
/-- unicode/utf8's two tables, as they are laid. -/
abbrev U8T (w : World) : Prop := Lib.Utf8Tabs 0 1 w
theorem decodeIn_any (s : ByteArray) (w : World) (h : U8T w) : Calls Tryz.prog 64 #[.string s] w fun e w' => e = .returned (.tuple #[.int .i32 (Lib.decodeGo s).1, .int .i64 (Lib.decodeGo s).2]) ∧ Below w.heap.size w w' := Any.utf8_DecodeRuneInString lays197 s w h
theorem u8t_of_reads {w : World} (h3 : Lib.VarReads Tryz.prog w "unicode/utf8.first" Lib.firstData) (h4 : Lib.VarReads Tryz.prog w "unicode/utf8.acceptRanges" Lib.acceptData) : U8T w := utf8Tabs_of_reads lays260 u8extra h3 h4
end Go.Proofs.YtodabmkcihafhaaGreatDoor

/- The program's looks at one rune. -/
namespace Go.Proofs.YtodabmkcihafhaaGreatDoor
open Go.RowKit
set_option linter.unusedVariables false

theorem contains_frac (r : Int) (w : World) (h0 : -1 ≤ r) (h1 : r ≤ 1114111) : Calls Tryz.prog 141 #[.string ⟨#[194, 189, 194, 188, 194, 190]⟩, .int .i32 r] w fun e w' => e = .returned (.bool (isFrac r)) ∧ Below w.heap.size w w' :=
  looks_frac.contains r w h0 h1
theorem contains_mark (r : Int) (w : World) (h0 : -1 ≤ r) (h1 : r ≤ 1114111) : Calls Tryz.prog 141 #[.string ⟨#[194, 178, 226, 128, 178]⟩, .int .i32 r] w fun e w' => e = .returned (.bool (isMk r)) ∧ Below w.heap.size w w' :=
  looks_mark.contains r w h0 h1
theorem contains_sum (r : Int) (w : World) (h0 : -1 ≤ r) (h1 : r ≤ 1114111) : Calls Tryz.prog 141 #[.string ⟨#[43, 226, 136, 146]⟩, .int .i32 r] w fun e w' => e = .returned (.bool (inRow 0 r)) ∧ Below w.heap.size w w' :=
  looks_sum.contains r w h0 h1
theorem contains_prod (r : Int) (w : World) (h0 : -1 ≤ r) (h1 : r ≤ 1114111) : Calls Tryz.prog 141 #[.string ⟨#[195, 151, 195, 183]⟩, .int .i32 r] w fun e w' => e = .returned (.bool (inRow 1 r)) ∧ Below w.heap.size w w' :=
  looks_prod.contains r w h0 h1

set_option maxHeartbeats 400000 in
theorem isFraction_any (r : Int) (w : World) (h0 : -1 ≤ r) (h1 : r ≤ 1114111) : Calls Tryz.prog 165 #[.int .i32 r] w fun e w' => e = .returned (.bool (isFrac r)) ∧ Below w.heap.size w w' := by
  go_enter Tryz.func165, Tryz.ntmps165
  go_wp2_with fail
  refine (contains_frac r _ h0 h1).mono ?_
  rintro e w' ⟨rfl, hb⟩
  go_wp2_with fail
  go_ret
  exact ⟨rfl, hb⟩
set_option maxHeartbeats 400000 in
theorem isMark_any (r : Int) (w : World) (h0 : -1 ≤ r) (h1 : r ≤ 1114111) : Calls Tryz.prog 154 #[.int .i32 r] w fun e w' => e = .returned (.bool (isMk r)) ∧ Below w.heap.size w w' := by
  go_enter Tryz.func154, Tryz.ntmps154
  go_wp2_with fail
  refine (contains_mark r _ h0 h1).mono ?_
  rintro e w' ⟨rfl, hb⟩
  go_wp2_with fail
  go_ret
  exact ⟨rfl, hb⟩
theorem ret_b {a b : Bool} (h : a = b) : Ending.returned (.bool a) = .returned (.bool b) := by rw [h]
set_option maxHeartbeats 400000 in
theorem isDigit_any (r : Int) (w : World) : Calls Tryz.prog 164 #[.int .i32 r] w fun e w' => e = .returned (.bool (isDig r)) ∧ w' = w := by
  have HD : Hid (isDig r = (decide (48 ≤ r) && decide (r ≤ 57))) := rfl
  by_cases h : 48 ≤ r
  · go_enter Tryz.func164, Tryz.ntmps164
    go_wp2_with fail
    go_ret
    refine ⟨ret_b ?_, rfl⟩
    rw [HD.out]; simp [h]
  · have h' : decide (48 ≤ r) = false := by simpa using h
    go_enter Tryz.func164, Tryz.ntmps164
    go_wp2_with fail
    go_ret
    refine ⟨ret_b ?_, rfl⟩
    rw [HD.out, h']; rfl
set_option maxHeartbeats 400000 in
theorem isName_any (r : Int) (w : World) : Calls Tryz.prog 65 #[.int .i32 r] w fun e w' => e = .returned (.bool (isNm r)) ∧ w' = w := by
  have HD : Hid (isNm r = (decide (945 ≤ r) && decide (r ≤ 969))) := rfl
  by_cases h : 945 ≤ r
  · go_enter Tryz.func65, Tryz.ntmps65
    go_wp2_with fail
    go_ret
    refine ⟨ret_b ?_, rfl⟩
    rw [HD.out]; simp [h]
  · have h' : decide (945 ≤ r) = false := by simpa using h
    go_enter Tryz.func65, Tryz.ntmps65
    go_wp2_with fail
    go_ret
    refine ⟨ret_b ?_, rfl⟩
    rw [HD.out, h']; rfl
end Go.Proofs.YtodabmkcihafhaaGreatDoor

/- The program's fractions: commonDivisor, lowest, plus, less, times. -/
namespace Go.Proofs.YtodabmkcihafhaaGreatDoor
open Go.RowKit
set_option linter.unusedVariables false

theorem gcd_step' (a b : Nat) : Nat.gcd b (a % b) = Nat.gcd a b := by
  rw [Nat.gcd_comm a b, Nat.gcd_rec b a, Nat.gcd_comm (a % b) b]
theorem drewN_add (w : World) (a b : Nat) : (w.drewN a).drewN b = w.drewN (a + b) := by
  induction b with
  | zero => rfl
  | succ b ih => show ((w.drewN a).drewN b).drew = (w.drewN (a + b)).drew; rw [ih]

theorem fr_below (w : World) (o : Obj) : Below w.heap.size w (w.alloc o) := (Below.refl _ _).alloc (Nat.le_refl _) o
set_option maxHeartbeats 1000000 in
theorem cd_any (n d : Int) (w : World) (h1 : -4000000000000 ≤ n) (h2 : n ≤ 4000000000000) (h3 : 0 < d) (h4 : d ≤ 4000000000000) :
    Calls Tryz.prog 155 #[.int .i64 n, .int .i64 d] w fun e w' => e = .returned (.int .i64 (gcdP n d)) ∧ ∃ k, w' = w.drewN k := by
  have HG : Hid (gcdP n d = ((Nat.gcd n.natAbs d.natAbs : Nat) : Int)) := rfl
  go_enter Tryz.func155, Tryz.ntmps155
  go_wp2_with fail
  all_goals
    go_loopg [5, 6] d.natAbs (fun g s5 s6 wr => ∃ a b : Nat, s5 = .int .i64 a ∧ s6 = .int .i64 b ∧ Hid (Nat.gcd a b = Nat.gcd n.natAbs d.natAbs) ∧ a ≤ 4000000000000 ∧ b ≤ 4000000000000 ∧ Hid (b = g) ∧ ∃ k, wr = w.drewN k)
    case atStart =>
      refine ⟨n.natAbs, d.natAbs, ?_, ?_, rfl, by omega, by omega, rfl, 0, rfl⟩
      · congr 1; omega
      · congr 1; omega
    case round =>
      obtain ⟨a, b, rfl, rfl, HI, ha, hb, hg, k, rfl⟩ := hrel
      by_cases hb0 : b = 0
      · subst hb0
        go_wp2_with fail
        go_ret
        refine ⟨?_, k, rfl⟩
        rw [HG.out, ← HI.out, Nat.gcd_zero_right]
        rfl
      · have q1 : ((b : Int) != 0) = true := by simp; omega
        have q2 : ¬ (b : Int) = 0 := by omega
        go_wp2_with fail
        go_quiet (fail)
        go_wp2_with fail
        go_roundg (a % b)
        case measure => have := Nat.mod_lt a (show 0 < b by omega); have := hg.out; omega
        case rel =>
          refine ⟨b, a % b, rfl, ?_, ?_, hb, ?_, rfl, k + nq, ?_⟩
          · rfl
          · show Nat.gcd b (a % b) = _
            rw [gcd_step']; exact HI.out
          · have := Nat.mod_le a b; omega
          · rw [drewN_add]

/-! ### The reckoner -/
def frV (f : Fr) : Value := .agg #[.int .i64 f.n, .int .i64 f.d]
/-- The reckoner, in block b: whether one was too big. -/
def RkSt (b : Nat) (fl : Bool) (w : World) : Prop := w.heap[b]? = some (.cells #[.bool fl] 254 (0, 0))
theorem RkSt.cells {b : Nat} {fl : Bool} {w : World} (h : RkSt b fl w) : w.cell? ⟨b, 0, none⟩ = some (.bool fl) ∧ w.frozen? ⟨b, 0, none⟩ = false := by
  unfold RkSt at h
  simp [World.cell?, World.frozen?, h]
theorem RkSt.set {b : Nat} {fl : Bool} {w : World} (h : RkSt b fl w) (x : Bool) : RkSt b x (w.setCell ⟨b, 0, none⟩ (.bool x)) := by
  unfold RkSt at *
  simp [World.setCell, Array.getElem?_modify, h]
theorem RkSt.drewN {b : Nat} {fl : Bool} {w : World} (h : RkSt b fl w) (k : Nat) : RkSt b fl (w.drewN k) := h
theorem RkSt.lt {b : Nat} {fl : Bool} {w : World} (h : RkSt b fl w) : b < w.heap.size := (Array.getElem?_eq_some_iff.1 h).1

set_option maxHeartbeats 400000 in
theorem tooBig_any (f : Fr) (w : World) : Calls Tryz.prog 156 #[.agg #[.int .i64 f.n, .int .i64 f.d]] w fun e w' => e = .returned (.bool f.big) ∧ Below w.heap.size w w' := by
  have HB : Hid (f.big = decide (f.n > 999999 ∨ f.n < -999999 ∨ f.d > 999999)) := rfl
  generalize f.big = bb at *
  obtain ⟨n, d⟩ := f
  simp only at HB ⊢
  by_cases h1 : n > 999999
  · go_enter Tryz.func156, Tryz.ntmps156
    go_wp2_with fail
    go_ret
    exact ⟨by rw [HB.out]; simp [h1], fr_below w _⟩
  · by_cases h2 : n < -999999
    · go_enter Tryz.func156, Tryz.ntmps156
      go_wp2_with fail
      go_ret
      exact ⟨by rw [HB.out]; simp [h2], fr_below w _⟩
    · go_enter Tryz.func156, Tryz.ntmps156
      go_wp2_with fail
      go_ret
      refine ⟨?_, fr_below w _⟩
      rw [HB.out]
      have e1 : decide (n > 999999) = false := by simp; omega
      have e2 : decide (n < -999999) = false := by simp; omega
      simp only [Bool.decide_or, e1, e2, Bool.false_or]
      rfl

theorem low_abs {n d : Int} (h : 0 < d) : (lowP n d).n.natAbs ≤ n.natAbs ∧ (lowP n d).d.natAbs ≤ d.natAbs := by
  have h1 := congrArg Int.natAbs (low_mul_n n d)
  have h2 := congrArg Int.natAbs (low_mul_d n d)
  rw [Int.natAbs_mul] at h1 h2
  have hg := gcdP_pos (n := n) h
  have hg' : 1 ≤ (gcdP n d).natAbs := by omega
  exact ⟨by rw [← h1]; exact Nat.le_mul_of_pos_right _ hg', by rw [← h2]; exact Nat.le_mul_of_pos_right _ hg'⟩
theorem gcd_le (n d : Int) (h : 0 < d) : gcdP n d ≤ d := Int.le_of_dvd h (gcdP_dvd_d n d)
set_option maxHeartbeats 1000000 in
theorem lowest_any (b : Nat) (fl : Bool) (n d : Int) (w : World) (h1 : -4000000000000 ≤ n) (h2 : n ≤ 4000000000000) (h3 : 0 < d) (h4 : d ≤ 4000000000000) (h : RkSt b fl w) :
    Calls Tryz.prog 147 #[.pointer (some ⟨b, 0, none⟩), .int .i64 n, .int .i64 d] w fun e w' => e = .returned (.agg #[.int .i64 (mkF n d).n, .int .i64 (mkF n d).d]) ∧ RkSt b (fl || mkB n d) w' ∧ w.grownBy w' (some b) := by
  have hg0 := gcdP_pos (n := n) h3
  have hgl := gcd_le n d h3
  have q1 : n.tdiv (gcdP n d) = (lowP n d).n := by
    show _ = n / gcdP n d
    exact Int.tdiv_eq_ediv_of_dvd (gcdP_dvd_n n d)
  have q2 : d.tdiv (gcdP n d) = (lowP n d).d := by
    show _ = d / gcdP n d
    exact Int.tdiv_eq_ediv_of_dvd (gcdP_dvd_d n d)
  have hla := low_abs (n := n) h3
  have hw3 : wrap64 (lowP n d).n = (lowP n d).n := by unfold wrap64; omega
  have hw4 : wrap64 (lowP n d).d = (lowP n d).d := by unfold wrap64; omega
  clear hla
  have HB : Hid (mkB n d = (lowP n d).big) := rfl
  have HF : Hid (mkF n d = if mkB n d then ⟨0, 1⟩ else lowP n d) := rfl
  have hc := fun W => cd_any n d W h1 h2 h3 h4
  generalize mkF n d = F at *
  generalize mkB n d = B at *
  generalize hgg : gcdP n d = g at *
  generalize hll : lowP n d = l at *
  have HQ : Hid (n.tdiv g = l.n ∧ d.tdiv g = l.d) := ⟨q1, q2⟩
  clear hgg hll
  go_enter Tryz.func147, Tryz.ntmps147
  go_wp2_with fail
  refine (hc _).mono ?_
  rintro e w1 ⟨rfl, k, hw1⟩
  have hr1 : RkSt b fl w1 := by
    rw [hw1]
    show (w.alloc _).heap[b]? = _
    rw [Below.heap_alloc _ _ _ h.lt]
    exact h
  have hb1 : Below w.heap.size w w1 := by rw [hw1]; exact below_drewN (fr_below w _) k
  have hz1 : w1.heap[w.heap.size]? = some (.cells #[.int .i64 0, .int .i64 0] 80 (0, 0)) := by
    rw [hw1]
    exact heap_alloc_new w _
  have hlt := h.lt
  clear hw1 h hc
  have q3 : ¬ g = 0 := by omega
  have q4 : (g == 0) = false := by simpa using q3
  go_wp2_with fail
  go_region
  have hb2 : Below w.heap.size w ((w1.alloc (.cells #[.int .i64 l.n, .int .i64 l.d] 80)).drew) := (hb1.alloc hb1.size _).drew
  have hr2 : RkSt b fl ((w1.alloc (.cells #[.int .i64 l.n, .int .i64 l.d] 80)).drew) := by
    show (w1.alloc _).heap[b]? = _
    rw [Below.heap_alloc _ _ _ hr1.lt]
    exact hr1
  have hy2 : ((w1.alloc (.cells #[.int .i64 l.n, .int .i64 l.d] 80)).drew).heap[w1.heap.size]? = some (.cells #[.int .i64 l.n, .int .i64 l.d] 80 (0, 0)) := by
    exact heap_alloc_new w1 _
  have hz2 : ((w1.alloc (.cells #[.int .i64 l.n, .int .i64 l.d] 80)).drew).heap[w.heap.size]? = some (.cells #[.int .i64 0, .int .i64 0] 80 (0, 0)) := by
    show (w1.alloc _).heap[_]? = _
    rw [Below.heap_alloc _ _ _ (Array.getElem?_eq_some_iff.1 hz1).1]
    exact hz1
  have hwb : w.heap.size < w1.heap.size := (Array.getElem?_eq_some_iff.1 hz1).1
  generalize (w1.alloc (.cells #[.int .i64 l.n, .int .i64 l.d] 80)).drew = w2 at *
  generalize w1.heap.size = B1 at *
  clear hr1 hb1 hz1
  have y0 : w2.cell? ⟨B1, 0, none⟩ = some (.int .i64 l.n) := by simp [World.cell?, hy2]
  have y1 : w2.cell? ⟨B1, 1, none⟩ = some (.int .i64 l.d) := by simp [World.cell?, hy2]
  have hB1 : B1 < w2.heap.size := (Array.getElem?_eq_some_iff.1 hy2).1
  go_wp2_with fail
  refine (tooBig_any l _).mono ?_
  rintro e w3 ⟨rfl, hb3⟩
  have hy3 : w3.heap[B1]? = some (.cells #[.int .i64 l.n, .int .i64 l.d] 80 (0, 0)) := by rw [hb3.block _ hB1]; exact hy2
  have hz3 : w3.heap[w.heap.size]? = some (.cells #[.int .i64 0, .int .i64 0] 80 (0, 0)) := by rw [hb3.block _ (by omega)]; exact hz2
  have hr3 : RkSt b fl w3 := by unfold RkSt; rw [hb3.block _ (by omega)]; exact hr2
  have hb03 : Below w.heap.size w w3 := hb2.trans (hb3.mono hb2.size)
  clear hb3 hr2 hy2 hz2 hb2 y0 y1
  have y0 : w3.cell? ⟨B1, 0, none⟩ = some (.int .i64 l.n) := by simp [World.cell?, hy3]
  have y1 : w3.cell? ⟨B1, 1, none⟩ = some (.int .i64 l.d) := by simp [World.cell?, hy3]
  have z0 : w3.cell? ⟨w.heap.size, 0, none⟩ = some (.int .i64 0) := by simp [World.cell?, hz3]
  have z1 : w3.cell? ⟨w.heap.size, 1, none⟩ = some (.int .i64 0) := by simp [World.cell?, hz3]
  have fz0 : w3.frozen? ⟨w.heap.size, 0, none⟩ = false := by simp [World.frozen?, hz3]
  have fz1 : w3.frozen? ⟨w.heap.size, 1, none⟩ = false := by simp [World.frozen?, hz3]
  obtain ⟨r0, fr0⟩ := hr3.cells
  by_cases hbig : l.big = true
  · have HF2 : Hid (F = ⟨0, 1⟩ ∧ (fl || B) = true) := by
      have hB : B = true := HB.out.trans hbig
      refine ⟨?_, by rw [hB]; simp⟩
      rw [HF.out, hB]
      rfl
    go_wp2_with fail
    refine bodyPost_ret (v := .agg #[.int .i64 0, .int .i64 1]) (by simp [results, Tryz.results147, go_sem, z0, z1]) rfl ?_
    rw [HF2.out.1, HF2.out.2]
    refine ⟨rfl, ?_, ?_⟩
    · unfold RkSt
      rw [Below.heap_setCell _ _ _ _ (by simp; omega), Below.heap_setCell _ _ _ _ (by simp; omega)]
      exact hr3.set true
    · exact gb_new (gb_new (gb_set (gb_below (gb_refl w _) hb03) 0 _) (Nat.le_refl _) 0 _) (Nat.le_refl _) 1 _
  · have hbig' : l.big = false := by simpa using hbig
    have HF2 : Hid (F = l ∧ (fl || B) = fl) := by
      have hB : B = false := HB.out.trans hbig'
      refine ⟨?_, by rw [hB]; simp⟩
      rw [HF.out, hB]
      rfl
    go_wp2_with fail
    refine bodyPost_ret (v := .agg #[.int .i64 l.n, .int .i64 l.d]) (by simp [results, Tryz.results147, go_sem, z0, z1]) rfl ?_
    rw [HF2.out.1, HF2.out.2]
    refine ⟨rfl, ?_, ?_⟩
    · unfold RkSt
      rw [Below.heap_setCell _ _ _ _ (by simp; omega), Below.heap_setCell _ _ _ _ (by simp; omega)]
      exact hr3
    · exact gb_new (gb_new (gb_below (gb_refl w _) hb03) (Nat.le_refl _) 0 _) (Nat.le_refl _) 1 _

set_option maxHeartbeats 1000000 in
theorem negated_any (f : Fr) (w : World) (hf : f.Ok) : Calls Tryz.prog 148 #[.agg #[.int .i64 f.n, .int .i64 f.d]] w fun e w' => e = .returned (.agg #[.int .i64 f.neg.n, .int .i64 f.neg.d]) ∧ Below w.heap.size w w' := by
  have hw : wrap64 (-f.n) = -f.n := by unfold wrap64; have := hf.2.2; omega
  clear hf
  obtain ⟨n, d⟩ := f
  unfold Fr.neg
  simp only at *
  go_enter Tryz.func148, Tryz.ntmps148
  go_wp2_with fail
  refine bodyPost_ret (v := .agg #[.int .i64 (-n), .int .i64 d]) (by simp [results, Tryz.results148, go_sem, hw]) rfl ?_
  exact ⟨rfl, ((Below.refl _ w).alloc (Nat.le_refl _) _).alloc (by simp) _⟩
/-- A block of two cells that holds zeros. -/
theorem two_cells {w : World} {B : Nat} {x y : Value} {t : TypeId} (h : w.heap[B]? = some (.cells #[x, y] t (0, 0))) : w.cell? ⟨B, 0, none⟩ = some x ∧ w.cell? ⟨B, 1, none⟩ = some y ∧ w.frozen? ⟨B, 0, none⟩ = false ∧ w.frozen? ⟨B, 1, none⟩ = false := by
  simp [World.cell?, World.frozen?, h]
set_option maxHeartbeats 1000000 in
theorem plus_any (b : Nat) (fl : Bool) (x y : Fr) (w : World) (hx : x.Ok) (hy : y.Ok) (h : RkSt b fl w) :
    Calls Tryz.prog 177 #[.pointer (some ⟨b, 0, none⟩), .agg #[.int .i64 x.n, .int .i64 x.d], .agg #[.int .i64 y.n, .int .i64 y.d]] w fun e w' => e = .returned (.agg #[.int .i64 (plF x y).n, .int .i64 (plF x y).d]) ∧ RkSt b (fl || plB x y) w' ∧ w.grownBy w' (some b) := by
  have m1 := hx.mul_nd hy
  have m2 := hy.mul_nd hx
  have m3 := hx.mul_d hy
  have c := fun W h => lowest_any b fl (x.n * y.d + y.n * x.d) (x.d * y.d) W (by omega) (by omega) m3.1 (by omega) h
  show Calls _ _ _ _ fun e w' => e = .returned (.agg #[.int .i64 (mkF (x.n * y.d + y.n * x.d) (x.d * y.d)).n, .int .i64 (mkF (x.n * y.d + y.n * x.d) (x.d * y.d)).d]) ∧ RkSt b (fl || mkB (x.n * y.d + y.n * x.d) (x.d * y.d)) w' ∧ w.grownBy w' (some b)
  generalize mkF (x.n * y.d + y.n * x.d) (x.d * y.d) = F at *
  generalize mkB (x.n * y.d + y.n * x.d) (x.d * y.d) = B at *
  have hlt := h.lt
  have hh : Hid (RkSt b fl w) := h
  have C : Hid (∀ (W : World), RkSt b fl W → Calls Tryz.prog 147 #[.pointer (some ⟨b, 0, none⟩), .int .i64 (x.n * y.d + y.n * x.d), .int .i64 (x.d * y.d)] W fun e w' => e = .returned (.agg #[.int .i64 F.n, .int .i64 F.d]) ∧ RkSt b (fl || B) w' ∧ W.grownBy w' (some b)) := c
  clear h hx hy c
  go_enter Tryz.func177, Tryz.ntmps177
  go_wp2_with fail
  refine (C.out _ ?_).mono ?_
  · unfold RkSt
    rw [Below.heap_alloc _ _ _ (by simp; omega), Below.heap_alloc _ _ _ (by simp; omega), Below.heap_alloc _ _ _ (by omega)]
    exact hh.out
  rintro e w1 ⟨rfl, hr1, hg1⟩
  have hz1 : w1.heap[w.heap.size + 1 + 1]? = some (.cells #[.int .i64 0, .int .i64 0] 80 (0, 0)) := by
    rw [hg1.block _ (by simp) (by simp; omega)]
    have := heap_alloc_new ((w.alloc (.cells #[.int .i64 x.n, .int .i64 x.d] 80)).alloc (.cells #[.int .i64 y.n, .int .i64 y.d] 80)) (.cells #[.int .i64 0, .int .i64 0] 80)
    rw [show ((w.alloc (.cells #[.int .i64 x.n, .int .i64 x.d] 80)).alloc (.cells #[.int .i64 y.n, .int .i64 y.d] 80)).heap.size = w.heap.size + 1 + 1 by simp] at this
    exact this
  have hg0 : w.grownBy w1 (some b) := gb_trans (gb_alloc (gb_alloc (gb_alloc (gb_refl w _) _) _) _) hg1
  obtain ⟨z0, z1, fz0, fz1⟩ := two_cells hz1
  clear hz1 hg1 C hh
  go_wp2_with fail
  refine bodyPost_ret (v := .agg #[.int .i64 F.n, .int .i64 F.d]) (by simp [results, Tryz.results177, go_sem, z0, z1]) rfl ?_
  refine ⟨rfl, ?_, gb_new (gb_new hg0 (by omega) 0 _) (by omega) 1 _⟩
  unfold RkSt
  rw [Below.heap_setCell _ _ _ _ (by simp; omega), Below.heap_setCell _ _ _ _ (by simp; omega)]
  exact hr1
set_option maxHeartbeats 1000000 in
theorem times_any (b : Nat) (fl : Bool) (x y : Fr) (w : World) (hx : x.Ok) (hy : y.Ok) (h : RkSt b fl w) :
    Calls Tryz.prog 179 #[.pointer (some ⟨b, 0, none⟩), .agg #[.int .i64 x.n, .int .i64 x.d], .agg #[.int .i64 y.n, .int .i64 y.d]] w fun e w' => e = .returned (.agg #[.int .i64 (tmF x y).n, .int .i64 (tmF x y).d]) ∧ RkSt b (fl || tmB x y) w' ∧ w.grownBy w' (some b) := by
  have m1 := hx.mul_n hy
  have m3 := hx.mul_d hy
  have c := fun W h => lowest_any b fl (x.n * y.n) (x.d * y.d) W (by omega) (by omega) m3.1 (by omega) h
  show Calls _ _ _ _ fun e w' => e = .returned (.agg #[.int .i64 (mkF (x.n * y.n) (x.d * y.d)).n, .int .i64 (mkF (x.n * y.n) (x.d * y.d)).d]) ∧ RkSt b (fl || mkB (x.n * y.n) (x.d * y.d)) w' ∧ w.grownBy w' (some b)
  generalize mkF (x.n * y.n) (x.d * y.d) = F at *
  generalize mkB (x.n * y.n) (x.d * y.d) = B at *
  have hlt := h.lt
  have hh : Hid (RkSt b fl w) := h
  have C : Hid (∀ (W : World), RkSt b fl W → Calls Tryz.prog 147 #[.pointer (some ⟨b, 0, none⟩), .int .i64 (x.n * y.n), .int .i64 (x.d * y.d)] W fun e w' => e = .returned (.agg #[.int .i64 F.n, .int .i64 F.d]) ∧ RkSt b (fl || B) w' ∧ W.grownBy w' (some b)) := c
  clear h hx hy c
  go_enter Tryz.func179, Tryz.ntmps179
  go_wp2_with fail
  refine (C.out _ ?_).mono ?_
  · unfold RkSt
    rw [Below.heap_alloc _ _ _ (by simp; omega), Below.heap_alloc _ _ _ (by simp; omega), Below.heap_alloc _ _ _ (by omega)]
    exact hh.out
  rintro e w1 ⟨rfl, hr1, hg1⟩
  have hz1 : w1.heap[w.heap.size + 1 + 1]? = some (.cells #[.int .i64 0, .int .i64 0] 80 (0, 0)) := by
    rw [hg1.block _ (by simp) (by simp; omega)]
    have := heap_alloc_new ((w.alloc (.cells #[.int .i64 x.n, .int .i64 x.d] 80)).alloc (.cells #[.int .i64 y.n, .int .i64 y.d] 80)) (.cells #[.int .i64 0, .int .i64 0] 80)
    rw [show ((w.alloc (.cells #[.int .i64 x.n, .int .i64 x.d] 80)).alloc (.cells #[.int .i64 y.n, .int .i64 y.d] 80)).heap.size = w.heap.size + 1 + 1 by simp] at this
    exact this
  have hg0 : w.grownBy w1 (some b) := gb_trans (gb_alloc (gb_alloc (gb_alloc (gb_refl w _) _) _) _) hg1
  obtain ⟨z0, z1, fz0, fz1⟩ := two_cells hz1
  clear hz1 hg1 C hh
  go_wp2_with fail
  refine bodyPost_ret (v := .agg #[.int .i64 F.n, .int .i64 F.d]) (by simp [results, Tryz.results179, go_sem, z0, z1]) rfl ?_
  refine ⟨rfl, ?_, gb_new (gb_new hg0 (by omega) 0 _) (by omega) 1 _⟩
  unfold RkSt
  rw [Below.heap_setCell _ _ _ _ (by simp; omega), Below.heap_setCell _ _ _ _ (by simp; omega)]
  exact hr1

end Go.Proofs.YtodabmkcihafhaaGreatDoor

/- The program's fractions: less; numbers. -/
namespace Go.Proofs.YtodabmkcihafhaaGreatDoor
open Go.RowKit
set_option linter.unusedVariables false

theorem plus_c {b : Nat} {fl : Bool} {w w0 : World} (h : RkSt b fl w) (g : w.grownBy w0 none) : RkSt b fl w0 := by
  unfold RkSt
  rw [g.block b h.lt (by simp)]
  exact h
set_option maxHeartbeats 1000000 in
theorem less_any (b : Nat) (fl : Bool) (x y : Fr) (w : World) (hx : x.Ok) (hy : y.Ok) (h : RkSt b fl w) :
    Calls Tryz.prog 178 #[.pointer (some ⟨b, 0, none⟩), .agg #[.int .i64 x.n, .int .i64 x.d], .agg #[.int .i64 y.n, .int .i64 y.d]] w fun e w' => e = .returned (.agg #[.int .i64 (plF x y.neg).n, .int .i64 (plF x y.neg).d]) ∧ RkSt b (fl || plB x y.neg) w' ∧ w.grownBy w' (some b) := by
  have c1 := fun W => negated_any y W hy
  have c2 := fun W h => plus_any b fl x y.neg W hx hy.neg h
  generalize plF x y.neg = F at *
  generalize plB x y.neg = B at *
  have hlt := h.lt
  have hh : Hid (RkSt b fl w) := h
  have C1 : Hid (∀ (W : World), Calls Tryz.prog 148 #[.agg #[.int .i64 y.n, .int .i64 y.d]] W fun e w' => e = .returned (.agg #[.int .i64 y.neg.n, .int .i64 y.neg.d]) ∧ Below W.heap.size W w') := c1
  have C2 : Hid (∀ (W : World), RkSt b fl W → Calls Tryz.prog 177 #[.pointer (some ⟨b, 0, none⟩), .agg #[.int .i64 x.n, .int .i64 x.d], .agg #[.int .i64 y.neg.n, .int .i64 y.neg.d]] W fun e w' => e = .returned (.agg #[.int .i64 F.n, .int .i64 F.d]) ∧ RkSt b (fl || B) w' ∧ W.grownBy w' (some b)) := c2
  clear h hx hy c1 c2
  go_enter Tryz.func178, Tryz.ntmps178
  go_wp2_with fail
  obtain ⟨W, hW⟩ : ∃ W, W = ((w.alloc (.cells #[.int .i64 x.n, .int .i64 x.d] 80)).alloc (.cells #[.int .i64 y.n, .int .i64 y.d] 80)).alloc (.cells #[.int .i64 0, .int .i64 0] 80) := ⟨_, rfl⟩
  have hsz : W.heap.size = w.heap.size + 3 := by rw [hW]; simp
  have hx0 : W.heap[w.heap.size]? = some (.cells #[.int .i64 x.n, .int .i64 x.d] 80 (0, 0)) := by
    rw [hW, Below.heap_alloc _ _ _ (by simp; omega), Below.heap_alloc _ _ _ (by simp)]
    exact heap_alloc_new w _
  have hy0 : W.heap[w.heap.size + 1]? = some (.cells #[.int .i64 y.n, .int .i64 y.d] 80 (0, 0)) := by
    rw [hW, Below.heap_alloc _ _ _ (by simp)]
    have := heap_alloc_new (w.alloc (.cells #[.int .i64 x.n, .int .i64 x.d] 80)) (.cells #[.int .i64 y.n, .int .i64 y.d] 80)
    simpa using this
  have hz0 : W.heap[w.heap.size + 1 + 1]? = some (.cells #[.int .i64 0, .int .i64 0] 80 (0, 0)) := by
    rw [hW]
    have := heap_alloc_new ((w.alloc (.cells #[.int .i64 x.n, .int .i64 x.d] 80)).alloc (.cells #[.int .i64 y.n, .int .i64 y.d] 80)) (.cells #[.int .i64 0, .int .i64 0] 80)
    rw [show ((w.alloc (.cells #[.int .i64 x.n, .int .i64 x.d] 80)).alloc (.cells #[.int .i64 y.n, .int .i64 y.d] 80)).heap.size = w.heap.size + 1 + 1 by simp] at this
    exact this
  have hr0 : RkSt b fl W := by
    unfold RkSt
    rw [hW, Below.heap_alloc _ _ _ (by simp; omega), Below.heap_alloc _ _ _ (by simp; omega), Below.heap_alloc _ _ _ (by omega)]
    exact hh.out
  have hg0 : w.grownBy W (some b) := by rw [hW]; exact gb_alloc (gb_alloc (gb_alloc (gb_refl w _) _) _) _
  rw [← hW]
  obtain ⟨x0, x1, fx0, fx1⟩ := two_cells hx0
  obtain ⟨y0, y1, fy0, fy1⟩ := two_cells hy0
  clear hW hh
  go_region_with (first
    | (go_at_call 148; refine (C1.out _).mono ?_; rintro e w1 ⟨rfl, hb1⟩
       have hx1 : w1.heap[w.heap.size]? = some (.cells #[.int .i64 x.n, .int .i64 x.d] 80 (0, 0)) := (hb1.block _ (by simp; omega)).trans hx0
       obtain ⟨xx0, xx1, _, _⟩ := two_cells hx1)
    | (go_at_call 177; refine (C2.out _ ?_).mono ?_
       (unfold RkSt; rw [hb1.block _ (by simp; omega)]; exact hr0)
       rintro e w2 ⟨rfl, hr2, hg2⟩
       have hz2 : w2.heap[w.heap.size + 1 + 1]? = some (.cells #[.int .i64 0, .int .i64 0] 80 (0, 0)) := (hg2.block _ (by have := hb1.size; simp at this; omega) (by simp; omega)).trans ((hb1.block _ (by simp; omega)).trans hz0)
       obtain ⟨z0, z1, fz0, fz1⟩ := two_cells hz2))
  all_goals
    go_wp2_with fail
    refine bodyPost_ret (v := .agg #[.int .i64 F.n, .int .i64 F.d]) (by simp [results, Tryz.results178, go_sem, z0, z1]) rfl ?_
    have hb1' : Below W.heap.size W w1 := ⟨hb1.os, hb1.tape, hb1.output, hb1.size, hb1.block⟩
    refine ⟨rfl, ?_, gb_new (gb_new (gb_trans (gb_below hg0 hb1') hg2) (by omega) 0 _) (by omega) 1 _⟩
    unfold RkSt
    rw [Below.heap_setCell _ _ _ _ (by simp; omega), Below.heap_setCell _ _ _ _ (by simp; omega)]
    exact hr2
end Go.Proofs.YtodabmkcihafhaaGreatDoor

/- The program's numbers: number, Add, Subtract, Multiply. -/
namespace Go.Proofs.YtodabmkcihafhaaGreatDoor
open Go.RowKit
set_option linter.unusedVariables false

/-! ### The sentinels -/
/-- The two sentinels, in blocks below N. -/
structure Sen (N : Nat) (aZ aB : Addr) (w : World) : Prop where
  z : w.cell? ⟨2, 0, none⟩ = some (.iface 285 (.pointer (some aZ)))
  b : w.cell? ⟨4, 0, none⟩ = some (.iface 285 (.pointer (some aB)))
  ne : aB ≠ aZ
  hz : ∃ c t, w.heap[aZ.block]? = some (.cells c t (0, 0))
  hb : ∃ c t, w.heap[aB.block]? = some (.cells c t (0, 0))
  lt : 5 ≤ N ∧ aZ.block < N ∧ aB.block < N
theorem Sen.kept {N : Nat} {aZ aB : Addr} {w w' : World} (h : Sen N aZ aB w) (k : ∀ j, j < N → w'.heap[j]? = w.heap[j]?) : Sen N aZ aB w' := by
  obtain ⟨l0, l1, l2⟩ := h.lt
  refine ⟨?_, ?_, h.ne, ?_, ?_, h.lt⟩
  · rw [World.cell?_of_block (w := w) (k _ (by simp; omega))]; exact h.z
  · rw [World.cell?_of_block (w := w) (k _ (by simp; omega))]; exact h.b
  · rw [k _ l1]; exact h.hz
  · rw [k _ l2]; exact h.hb
theorem Sen.grown {N b : Nat} {aZ aB : Addr} {w w' : World} (h : Sen N aZ aB w) (g : w.grownBy w' (some b)) (hb : N ≤ b) (hs : N ≤ w.heap.size) : Sen N aZ aB w' :=
  h.kept fun j hj => g.block j (by omega) (fun e => by injection e with e; omega)
theorem Sen.below {N : Nat} {aZ aB : Addr} {w w' : World} (h : Sen N aZ aB w) (g : Below w.heap.size w w') (hs : N ≤ w.heap.size) : Sen N aZ aB w' :=
  h.kept fun j hj => g.block j (by omega)
theorem Sen.alloc {N : Nat} {aZ aB : Addr} {w : World} (h : Sen N aZ aB w) (hs : N ≤ w.heap.size) (o : Obj) : Sen N aZ aB (w.alloc o) :=
  h.below (fr_below w o) hs

def errV (a : Addr) : Value := .iface 285 (.pointer (some a))
def nV (x : Num) : Value := .agg #[.int .i64 x.re.n, .int .i64 x.re.d, .int .i64 x.im.n, .int .i64 x.im.d]
theorem four_cells {w : World} {B : Nat} {x y z u : Value} {t : TypeId} (h : w.heap[B]? = some (.cells #[x, y, z, u] t (0, 0))) : w.cell? ⟨B, 0, none⟩ = some x ∧ w.cell? ⟨B, 1, none⟩ = some y ∧ w.cell? ⟨B, 2, none⟩ = some z ∧ w.cell? ⟨B, 3, none⟩ = some u := by
  simp [World.cell?, h]

/-! ### Cells behind new blocks -/
theorem cellA {w : World} {a : Addr} {v : Value} (h : w.cell? a = some v) (o : Obj) : (w.alloc o).cell? a = some v := by
  rw [World.cell?_alloc_lt _ _ _ (World.block_lt_of_cell? _ _ h)]; exact h
theorem frozA {w : World} {a : Addr} {v : Value} (h : w.cell? a = some v) (f : w.frozen? a = false) (o : Obj) : (w.alloc o).frozen? a = false := by
  rw [World.frozen?_of_block (w := w) (Below.heap_alloc w o a.block (World.block_lt_of_cell? _ _ h))]; exact f
theorem cellA2 {w : World} {a : Addr} {v : Value} (h : w.cell? a = some v) (o p : Obj) : ((w.alloc o).alloc p).cell? a = some v := cellA (cellA h o) p
theorem cellA3 {w : World} {a : Addr} {v : Value} (h : w.cell? a = some v) (o p q : Obj) : (((w.alloc o).alloc p).alloc q).cell? a = some v := cellA (cellA2 h o p) q
theorem cellA4 {w : World} {a : Addr} {v : Value} (h : w.cell? a = some v) (o p q r : Obj) : ((((w.alloc o).alloc p).alloc q).alloc r).cell? a = some v := cellA (cellA3 h o p q) r
theorem cellA5 {w : World} {a : Addr} {v : Value} (h : w.cell? a = some v) (o p q r s : Obj) : (((((w.alloc o).alloc p).alloc q).alloc r).alloc s).cell? a = some v := cellA (cellA4 h o p q r) s

set_option maxHeartbeats 1000000 in
theorem number_any (N b : Nat) (aZ aB : Addr) (fl : Bool) (x y : Fr) (w : World) (hS : Sen N aZ aB w) (hN : N ≤ w.heap.size) (h : RkSt b fl w) :
    Calls Tryz.prog 176 #[.pointer (some ⟨b, 0, none⟩), .agg #[.int .i64 x.n, .int .i64 x.d], .agg #[.int .i64 y.n, .int .i64 y.d]] w fun e w' => e = .returned (.tuple #[if fl then .agg #[.int .i64 0, .int .i64 0, .int .i64 0, .int .i64 0] else .agg #[.int .i64 x.n, .int .i64 x.d, .int .i64 y.n, .int .i64 y.d], if fl then .iface 285 (.pointer (some aB)) else .nilIface]) ∧ Below w.heap.size w w' := by
  have hlt := h.lt
  obtain ⟨r0, fr0⟩ := h.cells
  have r3 := cellA3 r0
  have g3 := cellA3 hS.b
  clear hS
  cases fl with
  | true =>
    go_enter Tryz.func176, Tryz.ntmps176
    go_wp2_with fail
    go_region
    go_wp2_with fail
    refine bodyPost_ret (v := .tuple #[.agg #[.int .i64 0, .int .i64 0, .int .i64 0, .int .i64 0], .iface 285 (.pointer (some aB))]) (by simp [results, Tryz.results176, go_sem]) rfl ?_
    exact ⟨rfl, ((((Below.refl _ w).alloc (Nat.le_refl _) _).alloc (by simp) _).alloc (by simp; omega) _).drew⟩
  | false =>
    go_enter Tryz.func176, Tryz.ntmps176
    go_wp2_with fail
    refine bodyPost_ret (v := .tuple #[.agg #[.int .i64 x.n, .int .i64 x.d, .int .i64 y.n, .int .i64 y.d], .nilIface]) (by simp [results, Tryz.results176, go_sem]) rfl ?_
    exact ⟨rfl, (((Below.refl _ w).alloc (Nat.le_refl _) _).alloc (by simp) _).alloc (by simp; omega) _⟩
end Go.Proofs.YtodabmkcihafhaaGreatDoor
