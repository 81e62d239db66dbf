import Derived.Shelf.Small.Utf8
import Derived.Shelf.Small.Strs
import Derived.Shelf.Strings.Search1
import Derived.Shelf.Strings.Runes
import Derived.Test.YtodabmkcihafhaaGreatDoorProg
import Derived.Test.YtodabmkcihafhaaGreatDoorRows
import Derived.WalkKit
import Derived.WalkSpells
import Derived.WalkLawsBesides
import Derived.WalkMore
import Derived.ScopeJumps
import Derived.Deep.LoopGhost
import Derived.Deep.QuietTactic
import Derived.BigQuiet
import Derived.Lib.IndexLaws
import Derived.Lib.IndexBytes
import Derived.Test.YtodabmkcihafhaaGreatDoorK0

/- Plain laws: the one form of a list of nodes, and how long it is. -/
namespace Go.Proofs.YtodabmkcihafhaaGreatDoor

def isBin (op : Int) : Bool := op == 43 || op == 8722 || op == 215 || op == 247
def isUn (op : Int) : Bool := op == 110 || op == 178 || op == 8242
def rankP (op : Int) : Nat := if op = 43 ∨ op = 8722 then 0 else if op = 215 ∨ op = 247 then 1 else if op = 110 then 2 else 3
def opAt (L : List Nd) (k : Nat) : Int := match L[k]? with | some n => n.op | none => 0
/-- In brackets, if the rank is below what is asked. -/
def brk (r least : Nat) (t : ByteArray) : ByteArray := if r < least then ⟨#[40]⟩ ++ t ++ ⟨#[41]⟩ else t

def formF : Nat → List Nd → Nat → ByteArray
  | 0, _, _ => ByteArray.empty
  | f + 1, L, k =>
    match L[k]? with
    | none => ByteArray.empty
    | some n =>
      if n.op = 43 ∨ n.op = 8722 then brk (rankP (opAt L n.a)) 0 (formF f L n.a) ++ Utf8.encode n.op ++ brk (rankP (opAt L n.b)) 1 (formF f L n.b)
      else if n.op = 215 ∨ n.op = 247 then brk (rankP (opAt L n.a)) 1 (formF f L n.a) ++ Utf8.encode n.op ++ brk (rankP (opAt L n.b)) 2 (formF f L n.b)
      else if n.op = 110 then Utf8.encode 8722 ++ brk (rankP (opAt L n.a)) 2 (formF f L n.a)
      else if n.op = 178 ∨ n.op = 8242 then brk (rankP (opAt L n.a)) 3 (formF f L n.a) ++ Utf8.encode n.op
      else if n.op = 48 then n.text
      else Utf8.encode n.op

/-- What a node stands on lies ahead of it. -/
def WfN (k : Nat) (n : Nd) : Prop := 0 ≤ n.op ∧ n.op < 55296 ∧ (isBin n.op = true → n.a < k ∧ n.b < k) ∧ (isUn n.op = true → n.a < k)
def WfL (L : List Nd) : Prop := ∀ k n, L[k]? = some n → WfN k n

theorem WfL.snoc {L : List Nd} (h : WfL L) {n : Nd} (hn : WfN L.length n) : WfL (L ++ [n]) := by
  intro k m hm
  rw [List.getElem?_append] at hm
  split at hm
  · exact h k m hm
  · rename_i hk
    rcases Nat.lt_or_ge (k - L.length) 1 with h1 | h1
    · have : k = L.length := by omega
      subst this
      simp at hm
      subst hm
      exact hn
    · rw [List.getElem?_eq_none (by simpa using h1)] at hm; cases hm
theorem wf_bin {op : Int} {k a b : Nat} {num den : Int} {t : ByteArray} {pl : Nat} (h0 : 0 ≤ op) (h1 : op < 55296) (ha : a < k) (hb : b < k) : WfN k ⟨op, a, b, num, den, t, pl⟩ := ⟨h0, h1, fun _ => ⟨ha, hb⟩, fun _ => ha⟩
theorem wf_un {op : Int} {k a b : Nat} {num den : Int} {t : ByteArray} {pl : Nat} (h0 : 0 ≤ op) (h1 : op < 55296) (hnb : isBin op = false) (ha : a < k) : WfN k ⟨op, a, b, num, den, t, pl⟩ := ⟨h0, h1, fun h => (by rw [show isBin op = true from h] at hnb; cases hnb), fun _ => ha⟩
theorem wf_leaf {op : Int} {k a b : Nat} {num den : Int} {t : ByteArray} {pl : Nat} (h0 : 0 ≤ op) (h1 : op < 55296) (hnb : isBin op = false) (hnu : isUn op = false) : WfN k ⟨op, a, b, num, den, t, pl⟩ := ⟨h0, h1, fun h => (by rw [show isBin op = true from h] at hnb; cases hnb), fun h => (by rw [show isUn op = true from h] at hnu; cases hnu)⟩

/-- One step of the form, the sub-forms under names. -/
def nodeF (n : Nd) (ra rb : Nat) (fa fb : ByteArray) : ByteArray :=
  if n.op = 43 ∨ n.op = 8722 then brk ra 0 fa ++ Utf8.encode n.op ++ brk rb 1 fb
  else if n.op = 215 ∨ n.op = 247 then brk ra 1 fa ++ Utf8.encode n.op ++ brk rb 2 fb
  else if n.op = 110 then Utf8.encode 8722 ++ brk ra 2 fa
  else if n.op = 178 ∨ n.op = 8242 then brk ra 3 fa ++ Utf8.encode n.op
  else if n.op = 48 then n.text
  else Utf8.encode n.op
theorem formF_succ (f : Nat) (L : List Nd) (k : Nat) (n : Nd) (h : L[k]? = some n) : formF (f + 1) L k = nodeF n (rankP (opAt L n.a)) (rankP (opAt L n.b)) (formF f L n.a) (formF f L n.b) := by
  simp only [formF, h]
  rfl
theorem nodeF_congr (n : Nd) {k ra rb ra' rb' : Nat} {fa fb fa' fb' : ByteArray} (hw : WfN k n) (ha : n.a < k → ra = ra' ∧ fa = fa') (hb : n.b < k → rb = rb' ∧ fb = fb') : nodeF n ra rb fa fb = nodeF n ra' rb' fa' fb' := by
  obtain ⟨_, _, h1, h2⟩ := hw
  unfold nodeF
  by_cases c1 : n.op = 43 ∨ n.op = 8722
  · have hb1 : isBin n.op = true := by unfold isBin; rcases c1 with e | e <;> simp [e]
    obtain ⟨q1, q2⟩ := h1 hb1
    obtain ⟨rfl, rfl⟩ := ha q1
    obtain ⟨rfl, rfl⟩ := hb q2
    rfl
  · rw [if_neg c1, if_neg c1]
    by_cases c2 : n.op = 215 ∨ n.op = 247
    · have hb1 : isBin n.op = true := by unfold isBin; rcases c2 with e | e <;> simp [e]
      obtain ⟨q1, q2⟩ := h1 hb1
      obtain ⟨rfl, rfl⟩ := ha q1
      obtain ⟨rfl, rfl⟩ := hb q2
      rfl
    · rw [if_neg c2, if_neg c2]
      by_cases c3 : n.op = 110
      · have hu : isUn n.op = true := by unfold isUn; simp [c3]
        obtain ⟨rfl, rfl⟩ := ha (h2 hu)
        rfl
      · rw [if_neg c3, if_neg c3]
        by_cases c4 : n.op = 178 ∨ n.op = 8242
        · have hu : isUn n.op = true := by unfold isUn; rcases c4 with e | e <;> simp [e]
          obtain ⟨rfl, rfl⟩ := ha (h2 hu)
          rfl
        · rw [if_neg c4, if_neg c4]

theorem opAt_append (L M : List Nd) (k : Nat) (h : k < L.length) : opAt (L ++ M) k = opAt L k := by
  unfold opAt
  rw [List.getElem?_append_left h]
theorem formF_append : ∀ (f : Nat) (L M : List Nd) (k : Nat), WfL L → k < L.length → formF f (L ++ M) k = formF f L k := by
  intro f
  induction f with
  | zero => intro L M k _ _; rfl
  | succ f ih =>
    intro L M k hw hk
    obtain ⟨n, hn⟩ : ∃ n, L[k]? = some n := ⟨L[k], List.getElem?_eq_getElem hk⟩
    have hn2 : (L ++ M)[k]? = some n := by rw [List.getElem?_append_left hk]; exact hn
    rw [formF_succ f L k n hn, formF_succ f (L ++ M) k n hn2]
    refine nodeF_congr n (hw k n hn) (fun h => ⟨by rw [opAt_append L M _ (by omega)], ih L M _ hw (by omega)⟩) (fun h => ⟨by rw [opAt_append L M _ (by omega)], ih L M _ hw (by omega)⟩)
theorem formF_fuel : ∀ (f : Nat) (L : List Nd) (k : Nat), WfL L → k < L.length → k < f → formF (f + 1) L k = formF f L k := by
  intro f
  induction f with
  | zero => intro L k _ _ h; omega
  | succ f ih =>
    intro L k hw hk hf
    obtain ⟨n, hn⟩ : ∃ n, L[k]? = some n := ⟨L[k], List.getElem?_eq_getElem hk⟩
    rw [formF_succ (f + 1) L k n hn, formF_succ f L k n hn]
    exact nodeF_congr n (hw k n hn) (fun h => ⟨rfl, ih L _ hw (by omega) (by omega)⟩) (fun h => ⟨rfl, ih L _ hw (by omega) (by omega)⟩)
/-- The form of node k. -/
def fm (L : List Nd) (k : Nat) : ByteArray := formF (k + 1) L k
theorem formF_fm : ∀ (d : Nat) (L : List Nd) (k : Nat), WfL L → k < L.length → formF (k + 1 + d) L k = fm L k := by
  intro d
  induction d with
  | zero => intro L k _ _; rfl
  | succ d ih =>
    intro L k hw hk
    rw [← Nat.add_assoc, formF_fuel (k + 1 + d) L k hw hk (by omega)]
    exact ih L k hw hk
theorem fm_eq (L : List Nd) (k : Nat) (n : Nd) (hw : WfL L) (h : L[k]? = some n) : fm L k = nodeF n (rankP (opAt L n.a)) (rankP (opAt L n.b)) (fm L n.a) (fm L n.b) := by
  have hk : k < L.length := (List.getElem?_eq_some_iff.1 h).1
  unfold fm
  rw [formF_succ k L k n h]
  refine nodeF_congr n (hw k n h) (fun ha => ⟨rfl, ?_⟩) (fun hb => ⟨rfl, ?_⟩)
  · rw [show k = n.a + 1 + (k - n.a - 1) by omega]; exact formF_fm _ L n.a hw (by omega)
  · rw [show k = n.b + 1 + (k - n.b - 1) by omega]; exact formF_fm _ L n.b hw (by omega)
theorem fm_append (L M : List Nd) (k : Nat) (hw : WfL L) (hk : k < L.length) : fm (L ++ M) k = fm L k := formF_append _ L M k hw hk
theorem fm_last (L : List Nd) (n : Nd) (hw : WfL L) (hn : WfN L.length n) : fm (L ++ [n]) L.length = nodeF n (rankP (opAt L n.a)) (rankP (opAt L n.b)) (fm L n.a) (fm L n.b) := by
  have hg : (L ++ [n])[L.length]? = some n := by simp
  rw [fm_eq (L ++ [n]) L.length n (hw.snoc hn) hg]
  exact nodeF_congr n hn (fun ha => ⟨by rw [opAt_append _ _ _ ha], fm_append _ _ _ hw ha⟩) (fun hb => ⟨by rw [opAt_append _ _ _ hb], fm_append _ _ _ hw hb⟩)

/-! ### How long it is -/
theorem enc_size (c : Int) : (Utf8.encode c).size ≤ 4 := by
  unfold Utf8.encode
  simp only
  repeat' split
  all_goals simp [ByteArray.size]
theorem brk_size (r least : Nat) (t : ByteArray) : (brk r least t).size ≤ t.size + 2 := by
  unfold brk
  split
  · simp [ByteArray.size_append]
    have : (ByteArray.mk #[40]).size = 1 := rfl
    have : (ByteArray.mk #[41]).size = 1 := rfl
    omega
  · omega
theorem nodeF_bin (n : Nd) (ra rb : Nat) (fa fb : ByteArray) (h : isBin n.op = true) : (nodeF n ra rb fa fb).size ≤ fa.size + fb.size + 8 := by
  have e := enc_size n.op
  unfold nodeF
  unfold isBin at h
  simp at h
  split
  · have := brk_size ra 0 fa; have := brk_size rb 1 fb
    simp only [ByteArray.size_append]; omega
  · split
    · have := brk_size ra 1 fa; have := brk_size rb 2 fb
      simp only [ByteArray.size_append]; omega
    · omega
theorem nodeF_un (n : Nd) (ra rb : Nat) (fa fb : ByteArray) (h : isUn n.op = true) : (nodeF n ra rb fa fb).size ≤ fa.size + 6 := by
  have e := enc_size n.op
  have e' := enc_size 8722
  unfold isUn at h
  simp at h
  unfold nodeF
  rw [if_neg (by omega), if_neg (by omega)]
  split
  · have := brk_size ra 2 fa
    simp only [ByteArray.size_append]; omega
  · rw [if_pos (by omega)]
    have := brk_size ra 3 fa
    simp only [ByteArray.size_append]; omega
theorem nodeF_leaf (n : Nd) (ra rb : Nat) (fa fb : ByteArray) (h1 : isBin n.op = false) (h2 : isUn n.op = false) : nodeF n ra rb fa fb = if n.op = 48 then n.text else Utf8.encode n.op := by
  unfold isBin at h1
  unfold isUn at h2
  simp at h1 h2
  unfold nodeF
  rw [if_neg (by omega), if_neg (by omega), if_neg (by omega), if_neg (by omega)]

theorem encAll_size (l : List Int) : (encAll l).size ≤ 4 * l.length := by
  unfold encAll
  suffices ∀ (l : List Int) (a : ByteArray), (l.foldl (fun acc c => acc ++ Utf8.encode c) a).size ≤ a.size + 4 * l.length by
    have := this l ByteArray.empty
    simpa using this
  intro l
  induction l with
  | nil => intro a; simp
  | cons c r ih =>
    intro a
    have := ih (a ++ Utf8.encode c)
    have e := enc_size c
    simp only [List.foldl_cons, List.length_cons, ByteArray.size_append] at this ⊢
    omega
theorem digs_count : ∀ (n : Nat) (ts : List Tok), (digs n ts).1.length + (digs n ts).2.length ≤ ts.length := by
  intro n
  induction n with
  | zero => intro ts; simp [digs]
  | succ n ih =>
    intro ts
    simp only [digs]
    split
    · rename_i hd
      have h1 : 1 ≤ ts.length := by
        cases ts with
        | nil => revert hd; simp [jn, isDig]
        | cons t r => simp
      have := ih ts.tail
      simp at this ⊢
      omega
    · simp
theorem fracT_count (ts : List Tok) : (fracT ts).1.length + (fracT ts).2.length ≤ ts.length := by
  unfold fracT
  split
  · rename_i hd
    have h1 : 1 ≤ ts.length := by
      cases ts with
      | nil => revert hd; simp [jn, isFrac]
      | cons t r => simp
    simp; omega
  · simp
theorem numT_count (ts : List Tok) (h : hd ts ≠ -1) : (numT ts).1.length + (numT ts).2.length ≤ ts.length ∧ 1 ≤ (numT ts).1.length := by
  have h1 := ne_of_hd h
  unfold numT
  split
  · simp; omega
  · split
    · have := fracT_count ts.tail
      simp at this ⊢; omega
    · have := fracT_count (digs 2 ts.tail).2
      have h2 := digs_count 2 ts.tail
      simp at this h2 ⊢; omega

/-- What a reading that went well says of the nodes: they are well made, and the form of the root is short. -/
structure PSize (tag k : Nat) (ts : List Tok) (L : List Nd) (R : Res) : Prop where
  wf : WfL R.L
  sz : tag < 4 → (fm R.L R.k).size + 2 + 6 * R.ts.length ≤ 6 * ts.length
  szl : 4 ≤ tag → k < L.length → (fm R.L R.k).size + 6 * R.ts.length ≤ (fm L k).size + 6 * ts.length

theorem pp_size : ∀ (f tag k : Nat) (ts : List Tok) (L : List Nd), WfL L → (4 ≤ tag → k < L.length) → (pp f tag k ts L).ok = true → PSize tag k ts L (pp f tag k ts L) := by
  intro f
  induction f with
  | zero => intro tag k ts L _ _ h; simp [pp] at h
  | succ f ih =>
    intro tag k ts L hw hk
    have stop : ∀ tg, 4 ≤ tg → PSize tg k ts L ⟨true, k, L, ts⟩ := fun tg h4 => ⟨hw, fun h => by omega, fun _ _ => Nat.le_refl _⟩
    match tag with
    | 0 =>
      simp only [pp]
      split
      · rename_i ho
        intro h
        have i1 := ih 1 0 ts L hw (by omega) ho
        have v1 := pp_inv f 1 0 ts L
        have kk := v1.kk ho (Or.inl (by decide))
        have i2 := ih 4 _ _ _ i1.wf (fun _ => kk) h
        have a1 := i1.sz (by decide)
        have a2 := i2.szl (by decide) kk
        exact ⟨i2.wf, fun _ => by omega, fun h => by omega⟩
      · rename_i ho; intro h; exact absurd h ho
    | 1 =>
      simp only [pp]
      split
      · rename_i ho
        intro h
        have i1 := ih 2 0 ts L hw (by omega) ho
        have v1 := pp_inv f 2 0 ts L
        have kk := v1.kk ho (Or.inl (by decide))
        have i2 := ih 5 _ _ _ i1.wf (fun _ => kk) h
        have a1 := i1.sz (by decide)
        have a2 := i2.szl (by decide) kk
        exact ⟨i2.wf, fun _ => by omega, fun h => by omega⟩
      · rename_i ho; intro h; exact absurd h ho
    | 2 =>
      simp only [pp]
      split
      · rename_i hm
        have hn : 1 ≤ ts.length := ne_of_hd (by rw [hm]; decide)
        split
        · rename_i ho
          intro h
          have i1 := ih 2 0 ts.tail L hw (by omega) ho
          have v1 := pp_inv f 2 0 ts.tail L
          have kk := v1.kk ho (Or.inl (by decide))
          have a1 := i1.sz (by decide)
          have wn : WfN (pp f 2 0 ts.tail L).L.length (opNd 110 (pp f 2 0 ts.tail L).k 0 (hp ts)) := wf_un (by decide) (by decide) rfl kk
          refine ⟨i1.wf.snoc wn, fun _ => ?_, fun h => by omega⟩
          have b1 := fm_last _ _ i1.wf wn
          have b2 := nodeF_un (opNd 110 (pp f 2 0 ts.tail L).k 0 (hp ts)) (rankP (opAt (pp f 2 0 ts.tail L).L (pp f 2 0 ts.tail L).k)) (rankP (opAt (pp f 2 0 ts.tail L).L 0)) (fm (pp f 2 0 ts.tail L).L (pp f 2 0 ts.tail L).k) (fm (pp f 2 0 ts.tail L).L 0) rfl
          simp only [List.length_tail] at a1
          show (fm _ _).size + 2 + 6 * _ ≤ _
          simp only [b1]
          unfold opNd at b2 ⊢
          simp only at b2 ⊢
          omega
        · rename_i ho; intro h; exact absurd h ho
      · split
        · rename_i ho
          intro h
          have i1 := ih 3 0 ts L hw (by omega) ho
          have v1 := pp_inv f 3 0 ts L
          have kk := v1.kk ho (Or.inl (by decide))
          have i2 := ih 6 _ _ _ i1.wf (fun _ => kk) h
          have a1 := i1.sz (by decide)
          have a2 := i2.szl (by decide) kk
          exact ⟨i2.wf, fun _ => by omega, fun h => by omega⟩
        · rename_i ho; intro h; exact absurd h ho
    | 3 =>
      simp only [pp]
      split
      · rename_i hd1
        intro _
        have hn : hd ts ≠ -1 := by intro h; rw [h] at hd1; revert hd1; decide
        have cnt := numT_count ts hn
        have wn : WfN L.length (numNd ts) := wf_leaf (by decide) (by decide) rfl rfl
        refine ⟨hw.snoc wn, fun _ => ?_, fun h => by omega⟩
        have b1 := fm_last _ _ hw wn
        rw [nodeF_leaf _ _ _ _ _ rfl rfl] at b1
        have es := encAll_size (numT ts).1
        show (fm _ _).size + 2 + 6 * _ ≤ _
        simp only [b1]
        unfold numNd
        simp only [if_true]
        omega
      · split
        · rename_i hd1
          intro _
          have hr : (hd ts = 105 ∨ (945 ≤ hd ts ∧ hd ts ≤ 969)) := by
            rcases hd1 with h | h
            · exact Or.inl h
            · right; unfold isNm at h; simpa using h
          have hn : 1 ≤ ts.length := ne_of_hd (by omega)
          have hbn : isBin (hd ts) = false := by unfold isBin; simp; omega
          have hun : isUn (hd ts) = false := by unfold isUn; simp; omega
          have wn : WfN L.length (opNd (hd ts) 0 0 (hp ts)) := wf_leaf (by omega) (by omega) hbn hun
          refine ⟨hw.snoc wn, fun _ => ?_, fun h => by omega⟩
          have b1 := fm_last _ _ hw wn
          rw [nodeF_leaf _ _ _ _ _ hbn hun] at b1
          have es := enc_size (hd ts)
          show (fm _ _).size + 2 + 6 * _ ≤ _
          simp only [b1]
          unfold opNd
          simp only [List.length_tail]
          rw [if_neg (by omega)]
          omega
        · split
          · rename_i hd1
            have hn : 1 ≤ ts.length := ne_of_hd (by rw [hd1]; decide)
            split
            · rename_i ho
              have i1 := ih 0 0 ts.tail L hw (by omega) ho
              have a1 := i1.sz (by decide)
              simp only [List.length_tail] at a1
              split
              · intro _
                refine ⟨i1.wf, fun _ => ?_, fun h => by omega⟩
                simp only [List.length_tail]
                omega
              · intro h; cases h
            · rename_i ho; intro h; exact absurd h ho
          · intro h; cases h
    | 4 =>
      simp only [pp]
      split
      · rename_i hm
        have hr : hd ts = 43 ∨ hd ts = 8722 := by simpa [inRow] using hm
        have hn : 1 ≤ ts.length := ne_of_hd (by omega)
        split
        · rename_i ho
          intro h
          have i1 := ih 1 0 ts.tail L hw (by omega) ho
          have v1 := pp_inv f 1 0 ts.tail L
          have kk := v1.kk ho (Or.inl (by decide))
          obtain ⟨M, hM⟩ := v1.pre
          have a1 := i1.sz (by decide)
          have hb : isBin (hd ts) = true := by unfold isBin; rcases hr with e | e <;> simp [e]
          have hk' := hk (by decide)
          have hk2 : k < (pp f 1 0 ts.tail L).L.length := by rw [hM]; simp; omega
          have wn : WfN (pp f 1 0 ts.tail L).L.length (opNd (hd ts) k (pp f 1 0 ts.tail L).k (hp ts)) := wf_bin (by omega) (by omega) hk2 kk
          have i2 := ih 4 _ _ _ (i1.wf.snoc wn) (fun _ => by simp) h
          have a2 := i2.szl (by decide) (by simp)
          have b1 := fm_last _ _ i1.wf wn
          have b2 := nodeF_bin (opNd (hd ts) k (pp f 1 0 ts.tail L).k (hp ts)) (rankP (opAt (pp f 1 0 ts.tail L).L k)) (rankP (opAt (pp f 1 0 ts.tail L).L (pp f 1 0 ts.tail L).k)) (fm (pp f 1 0 ts.tail L).L k) (fm (pp f 1 0 ts.tail L).L (pp f 1 0 ts.tail L).k) hb
          have b3 : fm (pp f 1 0 ts.tail L).L k = fm L k := by rw [hM]; exact fm_append L M k hw hk'
          refine ⟨i2.wf, fun h => by omega, fun _ _ => ?_⟩
          rw [b1] at a2
          simp only [List.length_tail] at a1 a2 ⊢
          unfold opNd at b2 a2 ⊢
          simp only at b2 a2 ⊢
          rw [b3] at b2 a2
          omega
        · rename_i ho; intro h; exact absurd h ho
      · intro _; exact stop _ (by decide)
    | 5 =>
      simp only [pp]
      split
      · rename_i hm
        have hr : hd ts = 215 ∨ hd ts = 247 := by simpa [inRow] using hm
        have hn : 1 ≤ ts.length := ne_of_hd (by omega)
        split
        · rename_i ho
          intro h
          have i1 := ih 2 0 ts.tail L hw (by omega) ho
          have v1 := pp_inv f 2 0 ts.tail L
          have kk := v1.kk ho (Or.inl (by decide))
          obtain ⟨M, hM⟩ := v1.pre
          have a1 := i1.sz (by decide)
          have hb : isBin (hd ts) = true := by unfold isBin; rcases hr with e | e <;> simp [e]
          have hk' := hk (by decide)
          have hk2 : k < (pp f 2 0 ts.tail L).L.length := by rw [hM]; simp; omega
          have wn : WfN (pp f 2 0 ts.tail L).L.length (opNd (hd ts) k (pp f 2 0 ts.tail L).k (hp ts)) := wf_bin (by omega) (by omega) hk2 kk
          have i2 := ih 5 _ _ _ (i1.wf.snoc wn) (fun _ => by simp) h
          have a2 := i2.szl (by decide) (by simp)
          have b1 := fm_last _ _ i1.wf wn
          have b2 := nodeF_bin (opNd (hd ts) k (pp f 2 0 ts.tail L).k (hp ts)) (rankP (opAt (pp f 2 0 ts.tail L).L k)) (rankP (opAt (pp f 2 0 ts.tail L).L (pp f 2 0 ts.tail L).k)) (fm (pp f 2 0 ts.tail L).L k) (fm (pp f 2 0 ts.tail L).L (pp f 2 0 ts.tail L).k) hb
          have b3 : fm (pp f 2 0 ts.tail L).L k = fm L k := by rw [hM]; exact fm_append L M k hw hk'
          refine ⟨i2.wf, fun h => by omega, fun _ _ => ?_⟩
          rw [b1] at a2
          simp only [List.length_tail] at a1 a2 ⊢
          unfold opNd at b2 a2 ⊢
          simp only at b2 a2 ⊢
          rw [b3] at b2 a2
          omega
        · rename_i ho; intro h; exact absurd h ho
      · intro _; exact stop _ (by decide)
    | n + 6 =>
      simp only [pp]
      split
      · rename_i hm
        have hr : hd ts = 178 ∨ hd ts = 8242 := by simpa [isMk] using hm
        have hn : 1 ≤ ts.length := ne_of_hd (by omega)
        intro h
        have hk' := hk (by omega)
        have hu : isUn (hd ts) = true := by unfold isUn; rcases hr with e | e <;> simp [e]
        have hnb : isBin (hd ts) = false := by unfold isBin; rcases hr with e | e <;> simp [e]
        have wn : WfN L.length (opNd (hd ts) k 0 (hp ts)) := wf_un (by omega) (by omega) hnb hk'
        have i2 := ih 6 _ _ _ (hw.snoc wn) (fun _ => by simp) h
        have a2 := i2.szl (by decide) (by simp)
        have b1 := fm_last _ _ hw wn
        have b2 := nodeF_un (opNd (hd ts) k 0 (hp ts)) (rankP (opAt L k)) (rankP (opAt L 0)) (fm L k) (fm L 0) hu
        refine ⟨i2.wf, fun h => by omega, fun _ _ => ?_⟩
        rw [b1] at a2
        simp only [List.length_tail] at a2 ⊢
        unfold opNd at b2 a2 ⊢
        simp only at b2 a2 ⊢
        omega
      · intro _; exact stop _ (by omega)
end Go.Proofs.YtodabmkcihafhaaGreatDoor

/- Plain: the reading of a text as a tree; the list of nodes is the tree's, those ahead on which one is made. -/
namespace Go.Proofs.YtodabmkcihafhaaGreatDoor

/-- An expression: a numeral (its runes), i or a name, one with a sign ahead or behind, two with a sign between; each with its place. -/
inductive Ex where
  | num (l : List Int) (p : Nat)
  | leaf (c : Int) (p : Nat)
  | un (c : Int) (p : Nat) (e : Ex)
  | bin (c : Int) (p : Nat) (l r : Ex)

def Ex.size : Ex → Nat
  | .num _ _ => 1
  | .leaf _ _ => 1
  | .un _ _ e => e.size + 1
  | .bin _ _ l r => l.size + r.size + 1
theorem Ex.size_pos : ∀ e : Ex, 1 ≤ e.size := by
  intro e
  cases e <;> simp [Ex.size]

def nNd (l : List Int) (p : Nat) : Nd := { op := 48, a := 0, b := 0, num := (numVal l).1, den := (numVal l).2, text := encAll l, pl := p }
/-- The nodes of a tree, the first at number o. -/
def Ex.flat (o : Nat) : Ex → List Nd
  | .num l p => [nNd l p]
  | .leaf c p => [opNd c 0 0 p]
  | .un c p e => e.flat o ++ [opNd c (o + e.size - 1) 0 p]
  | .bin c p l r => l.flat o ++ r.flat (o + l.size) ++ [opNd c (o + l.size - 1) (o + l.size + r.size - 1) p]
theorem Ex.flat_length : ∀ (e : Ex) (o : Nat), (e.flat o).length = e.size := by
  intro e
  induction e with
  | num l p => intro o; rfl
  | leaf c p => intro o; rfl
  | un c p e ih => intro o; simp [Ex.flat, Ex.size, ih]
  | bin c p l r ihl ihr => intro o; simp [Ex.flat, Ex.size, ihl, ihr]; omega

/-- What a reading comes to, as a tree. -/
structure RT where
  ok : Bool
  e : Ex
  ts : List Tok

/-- The reading, as a tree: pp's tags. -/
def pt : Nat → Nat → Ex → List Tok → RT
  | 0, _, e, ts => ⟨false, e, ts⟩
  | f + 1, tag, e, ts =>
    match tag with
    | 0 => if (pt f 1 e ts).ok then pt f 4 (pt f 1 e ts).e (pt f 1 e ts).ts else pt f 1 e ts
    | 1 => if (pt f 2 e ts).ok then pt f 5 (pt f 2 e ts).e (pt f 2 e ts).ts else pt f 2 e ts
    | 2 =>
      if hd ts = 8722 then
        (if (pt f 2 e ts.tail).ok then ⟨true, .un 110 (hp ts) (pt f 2 e ts.tail).e, (pt f 2 e ts.tail).ts⟩
         else pt f 2 e ts.tail)
      else if (pt f 3 e ts).ok then pt f 6 (pt f 3 e ts).e (pt f 3 e ts).ts else pt f 3 e ts
    | 3 =>
      if isDig (hd ts) || isFrac (hd ts) then ⟨true, .num (numT ts).1 (hp ts), (numT ts).2⟩
      else if hd ts = 105 ∨ isNm (hd ts) then ⟨true, .leaf (hd ts) (hp ts), ts.tail⟩
      else if hd ts = 40 then
        (if (pt f 0 e ts.tail).ok then
          (if hd (pt f 0 e ts.tail).ts = 41 then ⟨true, (pt f 0 e ts.tail).e, (pt f 0 e ts.tail).ts.tail⟩
           else ⟨false, e, (pt f 0 e ts.tail).ts⟩)
         else pt f 0 e ts.tail)
      else ⟨false, e, ts⟩
    | 4 =>
      if inRow 0 (hd ts) then
        (if (pt f 1 e ts.tail).ok then pt f 4 (.bin (hd ts) (hp ts) e (pt f 1 e ts.tail).e) (pt f 1 e ts.tail).ts
         else pt f 1 e ts.tail)
      else ⟨true, e, ts⟩
    | 5 =>
      if inRow 1 (hd ts) then
        (if (pt f 2 e ts.tail).ok then pt f 5 (.bin (hd ts) (hp ts) e (pt f 2 e ts.tail).e) (pt f 2 e ts.tail).ts
         else pt f 2 e ts.tail)
      else ⟨true, e, ts⟩
    | _ =>
      if isMk (hd ts) then pt f 6 (.un (hd ts) (hp ts) e) ts.tail else ⟨true, e, ts⟩

/-- A list of nodes that a tree gave. -/
def Built (L0 : List Nd) (e : Ex) (L : List Nd) (k : Nat) : Prop := L = L0 ++ e.flat L0.length ∧ k + 1 = L0.length + e.size

theorem Built.un {L0 : List Nd} {e : Ex} {L : List Nd} {k : Nat} (h : Built L0 e L k) (c : Int) (p : Nat) : Built L0 (.un c p e) (L ++ [opNd c k 0 p]) L.length := by
  obtain ⟨rfl, hk⟩ := h
  have : L0.length + e.size - 1 = k := by omega
  refine ⟨?_, ?_⟩
  · simp [Ex.flat, this]
  · simp [Ex.size, Ex.flat_length]; omega
theorem Built.bin {L0 : List Nd} {e1 e2 : Ex} {L L2 : List Nd} {k k2 : Nat} (h : Built L0 e1 L k) (h2 : Built L e2 L2 k2) (c : Int) (p : Nat) : Built L0 (.bin c p e1 e2) (L2 ++ [opNd c k k2 p]) L2.length := by
  obtain ⟨rfl, hk⟩ := h
  obtain ⟨rfl, hk2⟩ := h2
  simp only [List.length_append, Ex.flat_length] at hk2 ⊢
  have q1 : L0.length + e1.size - 1 = k := by omega
  have q2 : L0.length + e1.size + e2.size - 1 = k2 := by omega
  refine ⟨?_, ?_⟩
  · simp [Ex.flat, q1, q2]
  · simp [Ex.size]; omega
theorem Built.leafN (L0 : List Nd) (c : Int) (p : Nat) : Built L0 (.leaf c p) (L0 ++ [opNd c 0 0 p]) L0.length := ⟨rfl, rfl⟩
theorem Built.numN (L0 : List Nd) (ts : List Tok) : Built L0 (.num (numT ts).1 (hp ts)) (L0 ++ [numNd ts]) L0.length := ⟨rfl, rfl⟩

def Agree (L0 : List Nd) (R : Res) (T : RT) : Prop := R.ok = T.ok ∧ R.ts = T.ts ∧ (R.ok = true → Built L0 T.e R.L R.k)

theorem pp_pt : ∀ (f tag k : Nat) (ts : List Tok) (L L0 : List Nd) (e : Ex), (tag < 4 ∧ L0 = L ∨ Built L0 e L k) → (4 ≤ tag → Built L0 e L k) → (tag < 4 → L0 = L) → Agree L0 (pp f tag k ts L) (pt f tag e ts) := by
  intro f
  induction f with
  | zero => intro tag k ts L L0 e _ _ _; exact ⟨rfl, rfl, fun h => by cases h⟩
  | succ f ih =>
    have lo : ∀ (tag : Nat) (ts : List Tok) (L : List Nd) (e : Ex), tag < 4 → Agree L (pp f tag 0 ts L) (pt f tag e ts) := fun tag ts L e h => ih tag 0 ts L L e (Or.inl ⟨h, rfl⟩) (fun h' => by omega) (fun _ => rfl)
    have hi : ∀ (tag k : Nat) (ts : List Tok) (L L0 : List Nd) (e : Ex), 4 ≤ tag → Built L0 e L k → Agree L0 (pp f tag k ts L) (pt f tag e ts) := fun tag k ts L L0 e h hb => ih tag k ts L L0 e (Or.inr hb) (fun _ => hb) (fun h' => by omega)
    intro tag k ts L L0 e _ hB hL
    match tag with
    | 0 =>
      obtain rfl := hL (by decide)
      obtain ⟨a1, a2, a3⟩ := lo 1 ts L0 e (by decide)
      simp only [pp, pt]
      rw [← a1]
      by_cases h : (pp f 1 0 ts L0).ok = true
      · rw [if_pos h, if_pos h, ← a2]
        exact hi 4 _ _ _ _ _ (by decide) (a3 h)
      · rw [if_neg h, if_neg h]
        exact ⟨a1, a2, a3⟩
    | 1 =>
      obtain rfl := hL (by decide)
      obtain ⟨a1, a2, a3⟩ := lo 2 ts L0 e (by decide)
      simp only [pp, pt]
      rw [← a1]
      by_cases h : (pp f 2 0 ts L0).ok = true
      · rw [if_pos h, if_pos h, ← a2]
        exact hi 5 _ _ _ _ _ (by decide) (a3 h)
      · rw [if_neg h, if_neg h]
        exact ⟨a1, a2, a3⟩
    | 2 =>
      obtain rfl := hL (by decide)
      simp only [pp, pt]
      by_cases h0 : hd ts = 8722
      · rw [if_pos h0, if_pos h0]
        obtain ⟨a1, a2, a3⟩ := lo 2 ts.tail L0 e (by decide)
        rw [← a1]
        by_cases h : (pp f 2 0 ts.tail L0).ok = true
        · rw [if_pos h, if_pos h]
          exact ⟨rfl, a2, fun _ => (a3 h).un 110 (hp ts)⟩
        · rw [if_neg h, if_neg h]
          exact ⟨a1, a2, a3⟩
      · rw [if_neg h0, if_neg h0]
        obtain ⟨a1, a2, a3⟩ := lo 3 ts L0 e (by decide)
        rw [← a1]
        by_cases h : (pp f 3 0 ts L0).ok = true
        · rw [if_pos h, if_pos h, ← a2]
          exact hi 6 _ _ _ _ _ (by decide) (a3 h)
        · rw [if_neg h, if_neg h]
          exact ⟨a1, a2, a3⟩
    | 3 =>
      obtain rfl := hL (by decide)
      simp only [pp, pt]
      by_cases h1 : (isDig (hd ts) || isFrac (hd ts)) = true
      · rw [if_pos h1, if_pos h1]
        exact ⟨rfl, rfl, fun _ => Built.numN L0 ts⟩
      · rw [if_neg h1, if_neg h1]
        by_cases h2 : hd ts = 105 ∨ isNm (hd ts) = true
        · rw [if_pos h2, if_pos h2]
          exact ⟨rfl, rfl, fun _ => Built.leafN L0 _ _⟩
        · rw [if_neg h2, if_neg h2]
          by_cases h3 : hd ts = 40
          · rw [if_pos h3, if_pos h3]
            obtain ⟨a1, a2, a3⟩ := lo 0 ts.tail L0 e (by decide)
            rw [← a1, ← a2]
            by_cases h : (pp f 0 0 ts.tail L0).ok = true
            · rw [if_pos h, if_pos h]
              by_cases h4 : hd (pp f 0 0 ts.tail L0).ts = 41
              · rw [if_pos h4, if_pos h4]
                exact ⟨rfl, rfl, fun _ => a3 h⟩
              · rw [if_neg h4, if_neg h4]
                exact ⟨rfl, rfl, fun h => by cases h⟩
            · rw [if_neg h, if_neg h]
              exact ⟨a1, a2, a3⟩
          · rw [if_neg h3, if_neg h3]
            exact ⟨rfl, rfl, fun h => by cases h⟩
    | 4 =>
      have hb := hB (by decide)
      simp only [pp, pt]
      by_cases h0 : inRow 0 (hd ts) = true
      · rw [if_pos h0, if_pos h0]
        obtain ⟨a1, a2, a3⟩ := lo 1 ts.tail L e (by decide)
        rw [← a1]
        by_cases h : (pp f 1 0 ts.tail L).ok = true
        · rw [if_pos h, if_pos h, ← a2]
          exact hi 4 _ _ _ _ _ (by decide) (hb.bin (a3 h) (hd ts) (hp ts))
        · rw [if_neg h, if_neg h]
          exact ⟨a1, a2, fun h' => absurd h' h⟩
      · rw [if_neg h0, if_neg h0]
        exact ⟨rfl, rfl, fun _ => hb⟩
    | 5 =>
      have hb := hB (by decide)
      simp only [pp, pt]
      by_cases h0 : inRow 1 (hd ts) = true
      · rw [if_pos h0, if_pos h0]
        obtain ⟨a1, a2, a3⟩ := lo 2 ts.tail L e (by decide)
        rw [← a1]
        by_cases h : (pp f 2 0 ts.tail L).ok = true
        · rw [if_pos h, if_pos h, ← a2]
          exact hi 5 _ _ _ _ _ (by decide) (hb.bin (a3 h) (hd ts) (hp ts))
        · rw [if_neg h, if_neg h]
          exact ⟨a1, a2, fun h' => absurd h' h⟩
      · rw [if_neg h0, if_neg h0]
        exact ⟨rfl, rfl, fun _ => hb⟩
    | n + 6 =>
      have hb := hB (by omega)
      simp only [pp, pt]
      by_cases h0 : isMk (hd ts) = true
      · rw [if_pos h0, if_pos h0]
        exact hi 6 _ _ _ _ _ (by decide) (hb.un (hd ts) (hp ts))
      · rw [if_neg h0, if_neg h0]
        exact ⟨rfl, rfl, fun _ => hb⟩
end Go.Proofs.YtodabmkcihafhaaGreatDoor

/- The library's contracts for looks into a text, laid over this program. -/
namespace Go.Proofs.YtodabmkcihafhaaGreatDoor
open Go.Shelf Go.RowKit

def ren119 : Go.Shelf.Ren := ⟨fun | 119 => 161 | n => n, fun | 4 => 4 | 21 => 21 | n => n, fun | n => n⟩
theorem lays119 : Go.Proofs.Lays.n119 Tryz.prog ren119 := {
  mixed := by kernel_rfl
  f119 := Tryz.func161.trans (congrArg some (by kernel_rfl))
  t4 := Tryz.underlying4
  a4 := Tryz.isAgg4
  z4 := Tryz.sizeOf4
  v4 := Tryz.zeroValue4
  t21 := Tryz.underlying21
  a21 := Tryz.isAgg21
  z21 := Tryz.sizeOf21
  v21 := Tryz.zeroValue21 }
def ren137 : Go.Shelf.Ren := ⟨fun | 137 => 160 | 217 => 174 | 266 => 181 | n => n, fun | 3 => 3 | 5 => 5 | 9 => 9 | n => n, fun | n => n⟩
theorem lays137 : Go.Proofs.Lays.n137 Tryz.prog ren137 := {
  mixed := by kernel_rfl
  f137 := Tryz.func160.trans (congrArg some (by kernel_rfl))
  f217 := Tryz.func174.trans (congrArg some (by kernel_rfl))
  f266 := Tryz.func181.trans (congrArg some (by kernel_rfl))
  t3 := Tryz.underlying3
  a3 := Tryz.isAgg3
  z3 := Tryz.sizeOf3
  v3 := Tryz.zeroValue3
  t5 := Tryz.underlying5
  a5 := Tryz.isAgg5
  z5 := Tryz.sizeOf5
  v5 := Tryz.zeroValue5
  t9 := Tryz.underlying9
  a9 := Tryz.isAgg9
  z9 := Tryz.sizeOf9
  v9 := Tryz.zeroValue9 }
def ren224 : Go.Shelf.Ren := ⟨fun | 224 => 162 | n => n, fun | 3 => 3 | n => n, fun | n => n⟩
theorem lays224 : Go.Proofs.Lays.n224 Tryz.prog ren224 := {
  mixed := by kernel_rfl
  f224 := Tryz.func162.trans (congrArg some (by kernel_rfl))
  t3 := Tryz.underlying3
  a3 := Tryz.isAgg3
  z3 := Tryz.sizeOf3
  v3 := Tryz.zeroValue3 }
def ren152 : Go.Shelf.Ren := ⟨fun | 119 => 161 | 137 => 160 | 152 => 152 | 217 => 174 | 224 => 162 | 225 => 163 | 266 => 181 | n => n, fun | 0 => 0 | 3 => 3 | 4 => 4 | 5 => 5 | 9 => 9 | 21 => 21 | 46 => 240 | n => n, fun | n => n⟩
theorem lays152 : Go.Proofs.Lays.n152 Tryz.prog ren152 := {
  mixed := by kernel_rfl
  f119 := Tryz.func161.trans (congrArg some (by kernel_rfl))
  f137 := Tryz.func160.trans (congrArg some (by kernel_rfl))
  f152 := Tryz.func152.trans (congrArg some (by kernel_rfl))
  f217 := Tryz.func174.trans (congrArg some (by kernel_rfl))
  f224 := Tryz.func162.trans (congrArg some (by kernel_rfl))
  f225 := Tryz.func163.trans (congrArg some (by kernel_rfl))
  f266 := Tryz.func181.trans (congrArg some (by kernel_rfl))
  t0 := Tryz.underlying0
  a0 := Tryz.isAgg0
  z0 := Tryz.sizeOf0
  v0 := Tryz.zeroValue0
  t3 := Tryz.underlying3
  a3 := Tryz.isAgg3
  z3 := Tryz.sizeOf3
  v3 := Tryz.zeroValue3
  t4 := Tryz.underlying4
  a4 := Tryz.isAgg4
  z4 := Tryz.sizeOf4
  v4 := Tryz.zeroValue4
  t5 := Tryz.underlying5
  a5 := Tryz.isAgg5
  z5 := Tryz.sizeOf5
  v5 := Tryz.zeroValue5
  t9 := Tryz.underlying9
  a9 := Tryz.isAgg9
  z9 := Tryz.sizeOf9
  v9 := Tryz.zeroValue9
  t21 := Tryz.underlying21
  a21 := Tryz.isAgg21
  z21 := Tryz.sizeOf21
  v21 := Tryz.zeroValue21
  t46 := Tryz.underlying240
  a46 := Tryz.isAgg240
  z46 := Tryz.sizeOf240
  v46 := Tryz.zeroValue240 }
def ren151 : Go.Shelf.Ren := ⟨fun | 119 => 161 | 137 => 160 | 151 => 141 | 152 => 152 | 217 => 174 | 224 => 162 | 225 => 163 | 266 => 181 | n => n, fun | 0 => 0 | 3 => 3 | 4 => 4 | 5 => 5 | 9 => 9 | 21 => 21 | 46 => 240 | n => n, fun | n => n⟩
theorem lays151 : Go.Proofs.Lays.n151 Tryz.prog ren151 := {
  mixed := by kernel_rfl
  f119 := Tryz.func161.trans (congrArg some (by kernel_rfl))
  f137 := Tryz.func160.trans (congrArg some (by kernel_rfl))
  f151 := Tryz.func141.trans (congrArg some (by kernel_rfl))
  f152 := Tryz.func152.trans (congrArg some (by kernel_rfl))
  f217 := Tryz.func174.trans (congrArg some (by kernel_rfl))
  f224 := Tryz.func162.trans (congrArg some (by kernel_rfl))
  f225 := Tryz.func163.trans (congrArg some (by kernel_rfl))
  f266 := Tryz.func181.trans (congrArg some (by kernel_rfl))
  t0 := Tryz.underlying0
  a0 := Tryz.isAgg0
  z0 := Tryz.sizeOf0
  v0 := Tryz.zeroValue0
  t3 := Tryz.underlying3
  a3 := Tryz.isAgg3
  z3 := Tryz.sizeOf3
  v3 := Tryz.zeroValue3
  t4 := Tryz.underlying4
  a4 := Tryz.isAgg4
  z4 := Tryz.sizeOf4
  v4 := Tryz.zeroValue4
  t5 := Tryz.underlying5
  a5 := Tryz.isAgg5
  z5 := Tryz.sizeOf5
  v5 := Tryz.zeroValue5
  t9 := Tryz.underlying9
  a9 := Tryz.isAgg9
  z9 := Tryz.sizeOf9
  v9 := Tryz.zeroValue9
  t21 := Tryz.underlying21
  a21 := Tryz.isAgg21
  z21 := Tryz.sizeOf21
  v21 := Tryz.zeroValue21
  t46 := Tryz.underlying240
  a46 := Tryz.isAgg240
  z46 := Tryz.sizeOf240
  v46 := Tryz.zeroValue240 }

theorem validRune_any (r : Int) (w : World) : Calls Tryz.prog 161 #[.int .i32 r] w fun e w' => e = .returned (.bool (Lib.validRune r)) ∧ w' = w := Any.utf8_ValidRune lays119 r w
theorem indexByte_any (s : ByteArray) (c : Int) (w : World) : Calls Tryz.prog 160 #[.string s, .int .u8 c] w fun e w' => e = .returned (.int .i64 (Lib.indexByte s.data.toList c.toNat.toUInt8)) ∧ w' = w := Any.strings_IndexByte lays137 s c w
theorem cutover_any (n : Int) (h0 : 0 ≤ n) (h1 : n < 4611686018427387904) (w : World) : Calls Tryz.prog 162 #[.int .i64 n] w fun e w' => e = .returned (.int .i64 ((n + 16) / 8)) ∧ w' = w := Any.bytealg_Cutover lays224 n h0 h1 w
theorem contains_ascii (s : ByteArray) (r : Int) (w : World) (h0 : 0 ≤ r) (h1 : r < 128) : Calls Tryz.prog 141 #[.string s, .int .i32 r] w fun e w' => e = .returned (.bool (decide (0 ≤ Lib.indexByte s.data.toList r.toNat.toUInt8))) ∧ w' = w := Any.strings_ContainsRune_ascii lays151 s r w h0 h1
end Go.Proofs.YtodabmkcihafhaaGreatDoor

/- strings.IndexRune at a rune of several bytes, in a short text. -/
namespace Go.Proofs.YtodabmkcihafhaaGreatDoor
open Go.RowKit
set_option linter.unusedVariables false

theorem wp_scope_fwd {P : Program} {a : Act} {w : World} {Q : Exit → Act → World → Prop} {c rest : Code} (l : Nat) (hf : findLabel c l = some rest)
    (first : c.wp P (Exit.jump l (fun a w => rest.wp P (Exit.noGoto Q) a w) Q) a w) : (Code.scope c).wp P Q a w :=
  wp_scope_jumps l (fun a w => rest.wp P (Exit.noGoto Q) a w) (fun _ _ => 0) hf first (fun a w h => wp_mono h (fun e a' w' hq => by
    cases e with
    | goto l' => exact hq.elim
    | normal => exact hq
    | exit id => exact hq
    | ret => exact hq
    | panic ch => exact hq
    | outgrown => exact hq))

def Occ (s t : ByteArray) : Prop := ∃ p, p + t.size ≤ s.size ∧ ∀ j, j < t.size → bt s (p + j) = bt t j

/-- No place of the text ahead of i has the bytes. -/
def NoOcc (s t : ByteArray) (m i : Nat) : Prop := ∀ p, p + m < i → p + t.size ≤ s.size → ¬ ∀ j, j < t.size → bt s (p + j) = bt t j
def Fails (s : ByteArray) (x i fails : Nat) : Prop := fails ≤ 2 ∧ (1 ≤ fails → ∃ a, a < i ∧ bt s a = x) ∧ (2 ≤ fails → ∃ a b, a < b ∧ b < i ∧ bt s a = x ∧ bt s b = x)
theorem Fails.next {s : ByteArray} {x i fails : Nat} (h : Fails s x i fails) (hi : bt s i = x) (his : i < s.size) (no3 : ∀ a b c, a < b → b < c → c < s.size → bt s a = x → bt s b = x → bt s c = x → False) : Fails s x (i + 1) (fails + 1) := by
  obtain ⟨h1, h2, h3⟩ := h
  refine ⟨?_, fun _ => ⟨i, by omega, hi⟩, fun hf => ?_⟩
  · apply Nat.le_of_not_lt
    intro hlt
    obtain ⟨a, b, q1, q2, q3, q4⟩ := h3 (by omega)
    exact no3 a b i q1 q2 his q3 q4 hi
  · obtain ⟨a, q1, q2⟩ := h2 (by omega)
    exact ⟨a, i, q1, by omega, q2, hi⟩
theorem Fails.mono {s : ByteArray} {x i i' fails : Nat} (h : Fails s x i fails) (hi : i ≤ i') : Fails s x i' fails := by
  obtain ⟨h1, h2, h3⟩ := h
  exact ⟨h1, fun hf => (by obtain ⟨a, q⟩ := h2 hf; exact ⟨a, by omega, q.2⟩), fun hf => (by obtain ⟨a, b, q1, q2, q3⟩ := h3 hf; exact ⟨a, b, q1, by omega, q3⟩)⟩

theorem NoOcc.miss {s t : ByteArray} {m i j : Nat} (h : NoOcc s t m i) (hm : t.size = m + 1) (hj : 1 ≤ j) (hj2 : j < m + 1) (hmi : m ≤ i) (hne : ¬ bt s (i - j) = bt t (m - j)) : NoOcc s t m (i + 1) := by
  intro p hp hps hall
  by_cases hlt : p + m < i
  · exact h p hlt hps hall
  · apply hne
    have := hall (m - j) (by omega)
    rw [show p + (m - j) = i - j by omega] at this
    exact this
theorem NoOcc.hit {s t : ByteArray} {m i : Nat} (hm : t.size = m + 1) (hmi : m ≤ i) (his : i < s.size) (hx : bt s i = bt t m) (hall : ∀ k, 1 ≤ k → k < m + 1 → bt s (i - k) = bt t (m - k)) : Occ s t := by
  refine ⟨i - m, by omega, ?_⟩
  intro j hj
  by_cases hjm : j = m
  · subst hjm; rw [show i - j + j = i by omega]; exact hx
  · have := hall (m - j) (by omega) (by omega)
    rw [show i - (m - j) = i - m + j by omega, show m - (m - j) = j by omega] at this
    exact this
theorem NoOcc.done {s t : ByteArray} {m i : Nat} (h : NoOcc s t m i) (hm : t.size = m + 1) (his : s.size ≤ i) : ¬ Occ s t := by
  rintro ⟨p, hp, hall⟩
  exact h p (by omega) hp hall
theorem ext_at (s : ByteArray) (i k : Nat) (h : i + k < s.size) : (s.extract i s.size).data.toList[k]? = some (UInt8.ofNat (bt s (i + k))) := by
  rw [extract_list, List.getElem?_take_of_lt (by omega), List.getElem?_drop]
  have hl : i + k < s.data.toList.length := by simpa using h
  rw [List.getElem?_eq_getElem hl]
  have g := get_bt s (i + k) h
  have g2 : s.data.toList[i + k] = s[i + k]'h := by simp; rfl
  rw [g2, g]
theorem u8_inj {a b : Nat} (ha : a < 256) (hb : b < 256) (h : UInt8.ofNat a = UInt8.ofNat b) : a = b := by
  have := congrArg UInt8.toNat h
  simp at this
  omega
theorem arg_u8 (x : Nat) : ((x : Int).toNat.toUInt8) = UInt8.ofNat x := by simp
/-- What IndexByte finds behind a place. -/
theorem byte_found (s t : ByteArray) (m i : Nat) (h : NoOcc s t m i) (hm : t.size = m + 1) (hx : ¬ bt s i = bt t m) (hi : i < s.size) :
    (Lib.indexByte (s.extract (i + 1) s.size).data.toList ((bt t m : Nat) : Int).toNat.toUInt8 = -1 ∧ ¬ Occ s t) ∨
    ∃ o : Nat, Lib.indexByte (s.extract (i + 1) s.size).data.toList ((bt t m : Nat) : Int).toNat.toUInt8 = o ∧ i + 1 + o < s.size ∧ bt s (i + 1 + o) = bt t m ∧ NoOcc s t m (i + 1 + o) := by
  rw [arg_u8]
  rcases Lib.indexByte_piece s (i + 1) s.size (UInt8.ofNat (bt t m)) with h1 | ⟨o, h1, h2⟩
  · left
    refine ⟨h1, ?_⟩
    rintro ⟨p, hp, hall⟩
    have hnone := Lib.indexByte_none h1
    by_cases hlt : p + m < i
    · exact h p hlt hp hall
    · have hpm := hall m (by omega)
      by_cases he : p + m = i
      · rw [he] at hpm; exact hx hpm
      · have := ext_at s (i + 1) (p + m - (i + 1)) (by omega)
        rw [show i + 1 + (p + m - (i + 1)) = p + m by omega, hpm] at this
        exact hnone _ this
  · right
    obtain ⟨s1, s2⟩ := Lib.indexByte_some h1
    refine ⟨o, h1, h2, ?_, ?_⟩
    · have := ext_at s (i + 1) o h2
      rw [s1] at this
      exact (u8_inj (bt_lt _ _) (bt_lt _ _) (Option.some.inj this)).symm
    · intro p hp hps hall
      by_cases hlt : p + m < i
      · exact h p hlt hps hall
      · have hpm := hall m (by omega)
        by_cases he : p + m = i
        · rw [he] at hpm; exact hx hpm
        · have := ext_at s (i + 1) (p + m - (i + 1)) (by omega)
          rw [show i + 1 + (p + m - (i + 1)) = p + m by omega, hpm] at this
          exact s2 (p + m - (i + 1)) (by omega) this

theorem slice_from (s : ByteArray) (i : Nat) (h : i ≤ s.size) (W : World) : (Instr.slice 9 (.string s) (some (.int .i64 ((i : Nat) : Int))) none none).run Tryz.prog W = .ok (.string (s.extract i s.size)) W := by
  rw [run_slice_string_from_if _ _ _ _ _ Tryz.underlying9]
  rw [if_pos (by omega)]
  simp

set_option maxHeartbeats 2000000 in
set_option maxRecDepth 1000000 in
theorem index_rune (s t : ByteArray) (r : Int) (w : World) (m : Nat) (hs : s.size ≤ 8) (ht : Utf8.encode r = t) (ht1 : 1 ≤ m) (ht2 : m ≤ 3) (hm : t.size = m + 1) (hr : 128 ≤ r) (hr2 : r ≠ 65533) (hv : Lib.validRune r = true)
    (no3 : ∀ a b c, a < b → b < c → c < s.size → bt s a = bt t m → bt s b = bt t m → bt s c = bt t m → False) :
    Calls Tryz.prog 152 #[.string s, .int .i32 r] w fun e w' => (∃ v : Int, e = .returned (.int .i64 v) ∧ (0 ≤ v ↔ Occ s t)) ∧ ∃ n, w' = w.drewN n := by
  have q1 : (0 : Int) ≤ r := by omega
  have q2 : decide (r < 128) = false := by simp; omega
  have q3 : (r == 65533) = false := by simp [hr2]
  have N3 : Hid (∀ a b c, a < b → b < c → c < s.size → bt s a = bt t m → bt s b = bt t m → bt s c = bt t m → False) := no3
  have HM : Hid (t.size = m + 1) := hm
  have gm := bt_get t m
  clear no3
  go_enter Tryz.func152, Tryz.ntmps152
  go_wp2_with fail
  refine (validRune_any r _).mono ?_
  rintro e w1 ⟨rfl, hw1⟩
  have hw1 := hw1.symm
  subst hw1
  rw [hv]
  clear hv
  go_wp2_with fail
  go_step3
  go_wp2_with fail
  go_loopg [9, 10] (22 - m) (fun g s9 s10 wr => ∃ i fails : Nat, s9 = .int .i64 i ∧ s10 = .int .i64 fails ∧ m ≤ i ∧ i ≤ 9 ∧ fails ≤ 2 ∧ NoOcc s t m i ∧ Fails s (bt t m) i fails ∧ g + i = 22 ∧ ∃ n, wr = w.drewN n)
  case atStart =>
    refine ⟨m, 0, rfl, rfl, Nat.le_refl _, by omega, by omega, fun p hp => by omega, ⟨by omega, fun h => by omega, fun h => by omega⟩, by omega, 0, rfl⟩
  case round =>
    obtain ⟨i, fails, rfl, rfl, hmi, hi9, hf2, hNo, hFa, hgi, n0, rfl⟩ := hrel
    by_cases hlt : i < s.size
    · have gi := bt_get s i
      go_wp2_with fail
      refine wp_scope_fwd 0 rfl ?_
      go_wp2_with fail
      by_cases hx : bt s i = bt t m
      · have bx : (((bt s i : Nat) : Int) != ((bt t m : Nat) : Int)) = false := by simp; omega
        go_quiet (fail)
        go_wp2_with fail
        rw [World.drewN_drewN]
        obtain ⟨n1, hn1⟩ : ∃ n1, n0 + nq = n1 := ⟨_, rfl⟩
        rw [hn1]
        obtain ⟨i2, hi2⟩ : ∃ i2, i2 = i := ⟨_, rfl⟩
        subst hi2
        have HX : Hid (bt s i2 = bt t m) := hx
        have hmi2 := hmi
        have hlt2 := hlt
        have hNo2 := hNo
        have hFai := hFa
        clear hn1 hx bx gi hNo hFa
        go_loopg [12] 4 (fun g2 s12 wr2 => ∃ j : Nat, s12 = .int .i64 j ∧ 1 ≤ j ∧ j ≤ m + 1 ∧ Hid (∀ k, 1 ≤ k → k < j → bt s (i2 - k) = bt t (m - k)) ∧ g2 + j = 5 ∧ ∃ n, wr2 = w.drewN n)
        case atStart => exact ⟨1, rfl, by omega, by omega, fun k h1 h2 => by omega, rfl, n1, rfl⟩
        case round =>
          obtain ⟨j, rfl, hj1, hj2, HJ, hg2, n2, rfl⟩ := hrel
          by_cases hjl : j < m + 1
          · have e1 : (i2 : Int) - (j : Int) = ((i2 - j : Nat) : Int) := by omega
            have e2 : (m : Int) - (j : Int) = ((m - j : Nat) : Int) := by omega
            have gij := bt_get s (i2 - j)
            have gmj := bt_get t (m - j)
            have lij : i2 - j < s.size := by omega
            have lmj : m - j < t.size := by omega
            go_wp2_with fail
            by_cases hne : bt s (i2 - j) = bt t (m - j)
            · have bj : (((bt s (i2 - j) : Nat) : Int) != ((bt t (m - j) : Nat) : Int)) = false := by simp; omega
              have HN : Hid (bt s (i2 - j) = bt t (m - j)) := hne
              clear hne
              go_quiet (fail)
              go_wp2_with fail
              go_roundg (4 - j)
              case measure => omega
              case rel =>
                refine ⟨j + 1, by go_num, by omega, by omega, ?_, by omega, _, rfl⟩
                intro k h1 h2
                by_cases hk : k = j
                · subst hk; exact HN.out
                · exact HJ.out k h1 (by omega)
            · have bj : (((bt s (i2 - j) : Nat) : Int) != ((bt t (m - j) : Nat) : Int)) = true := by simp; omega
              have hne2 : NoOcc s t m (i2 + 1) := hNo2.miss HM.out hj1 hjl hmi2 hne
              have hFa2 : Fails s (bt t m) (i2 + 1) (fails + 1) := hFai.next HX.out hlt2 N3.out
              have hff := hFa2.1
              clear hne hNo2 hFai
              go_quiet (fail)
              go_wp2_with fail
              go_step3
              simp only [Exit.inBlock, Exit.then]
              refine ⟨rfl, ?_⟩
              show Code.wp Tryz.prog _ _ _ _
              rw [World.drewN_drewN]
              go_wp2_with fail
              refine (cutover_any _ (by omega) (by omega) _).mono ?_
              rintro e w5 ⟨rfl, hw5⟩
              have hw5 := hw5.symm
              subst hw5
              have bc : decide (((i2 : Int) + 1 + 16) / 8 < (fails : Int) + 1) = false := by simp; omega
              go_wp2_with fail
              rw [Exit.noGoto_normal]
              simp only [Exit.inBlock, Exit.then]
              go_wp2_with fail
              go_roundg (21 - i2)
              case measure => omega
              case rel => exact ⟨i2 + 1, fails + 1, by go_num, by go_num, by omega, by omega, hff, hne2, hFa2, by omega, _, rfl⟩
          · go_wp2_with fail
            simp only [Exit.jump, Exit.inBlock, Exit.then, Exit.noGoto]
            go_ret
            obtain rfl : j = m + 1 := by omega
            have occ := NoOcc.hit HM.out hmi2 hlt2 HX.out HJ.out
            exact ⟨⟨(i2 : Int) - m, rfl, ⟨fun _ => occ, fun _ => by omega⟩⟩, n2, rfl⟩
      · have bx : (((bt s i : Nat) : Int) != ((bt t m : Nat) : Int)) = true := by simp; omega
        have bf := byte_found s t m i hNo HM.out hx hlt
        have li1 : i + 1 ≤ s.size := by omega
        have li0 : (0 : Int) ≤ (i : Int) + 1 := by omega
        have li2 : (i : Int) + 1 ≤ (s.size : Int) := by omega
        go_quiet (fail)
        go_wp2_with fail
        rw [World.drewN_drewN]
        obtain ⟨n1, hn1⟩ : ∃ n1, n0 + nq = n1 := ⟨_, rfl⟩
        rw [hn1]
        clear hn1
        obtain ⟨W, hW⟩ : ∃ W, w.drewN n1 = W := ⟨_, rfl⟩
        rw [hW]
        have HW : Hid (w.drewN n1 = W) := hW
        have hwr : IntKind.i64.wrap ((i : Int) + 1) = (i : Int) + 1 := wrap_small _ (by omega) (by omega)
        clear hW
        have BF : Hid ((Lib.indexByte (s.extract (i + 1) s.size).data.toList ((bt t m : Nat) : Int).toNat.toUInt8 = -1 ∧ ¬ Occ s t) ∨ ∃ o : Nat, Lib.indexByte (s.extract (i + 1) s.size).data.toList ((bt t m : Nat) : Int).toNat.toUInt8 = o ∧ i + 1 + o < s.size ∧ bt s (i + 1 + o) = bt t m ∧ NoOcc s t m (i + 1 + o)) := bf
        clear bf
        go_quiet ((go_at_call 160; exact Calls.quiet_of_same (indexByte_any _ _ _)))
        rw [← HW.out, World.drewN_drewN]
        obtain ⟨n3, hn3⟩ : ∃ n3, n1 + nq = n3 := ⟨_, rfl⟩
        rw [hn3]
        clear hn3 HW hwr
        rcases BF.out with ⟨b1, b2⟩ | ⟨o, b1, b2, b3, b4⟩
        · rw [b1]
          have B2 : Hid (¬ Occ s t) := b2
          clear b1 b2 BF
          go_wp2_with fail
          simp only [Exit.jump, Exit.inBlock, Exit.then, Exit.noGoto]
          go_ret
          exact ⟨⟨-1, rfl, ⟨fun h => by omega, fun h => absurd h B2.out⟩⟩, n3, rfl⟩
        · rw [b1]
          have o0 : (0 : Int) ≤ (o : Int) := by omega
          have ob : o ≤ 8 := by omega
          clear BF b1
          go_wp2_with fail
          obtain ⟨i2, hi2⟩ : ∃ i2, i + 1 + o = i2 := ⟨_, rfl⟩
          have e9 : (i : Int) + ((o : Int) + 1) = ((i2 : Nat) : Int) := by omega
          rw [e9]
          rw [hi2] at b2 b3 b4
          have HX : Hid (bt s i2 = bt t m) := b3
          have hmi2 : m ≤ i2 := by omega
          have hlt2 : i2 < s.size := b2
          have hNo2 := b4
          have hFai := hFa.mono (i' := i2) (by omega)
          have hii : i ≤ i2 := by omega
          clear e9 hi2 b2 b3 b4 bx gi hNo hFa hx li1 li0 li2
          go_loopg [12] 4 (fun g2 s12 wr2 => ∃ j : Nat, s12 = .int .i64 j ∧ 1 ≤ j ∧ j ≤ m + 1 ∧ Hid (∀ k, 1 ≤ k → k < j → bt s (i2 - k) = bt t (m - k)) ∧ g2 + j = 5 ∧ ∃ n, wr2 = w.drewN n)
          case atStart => exact ⟨1, rfl, by omega, by omega, fun k h1 h2 => by omega, rfl, n3, rfl⟩
          case round =>
            obtain ⟨j, rfl, hj1, hj2, HJ, hg2, n2, rfl⟩ := hrel
            by_cases hjl : j < m + 1
            · have e1 : (i2 : Int) - (j : Int) = ((i2 - j : Nat) : Int) := by omega
              have e2 : (m : Int) - (j : Int) = ((m - j : Nat) : Int) := by omega
              have gij := bt_get s (i2 - j)
              have gmj := bt_get t (m - j)
              have lij : i2 - j < s.size := by omega
              have lmj : m - j < t.size := by omega
              go_wp2_with fail
              by_cases hne : bt s (i2 - j) = bt t (m - j)
              · have bj : (((bt s (i2 - j) : Nat) : Int) != ((bt t (m - j) : Nat) : Int)) = false := by simp; omega
                have HN : Hid (bt s (i2 - j) = bt t (m - j)) := hne
                clear hne
                go_quiet (fail)
                go_wp2_with fail
                go_roundg (4 - j)
                case measure => omega
                case rel =>
                  refine ⟨j + 1, by go_num, by omega, by omega, ?_, by omega, _, rfl⟩
                  intro k h1 h2
                  by_cases hk : k = j
                  · subst hk; exact HN.out
                  · exact HJ.out k h1 (by omega)
              · have bj : (((bt s (i2 - j) : Nat) : Int) != ((bt t (m - j) : Nat) : Int)) = true := by simp; omega
                have hne2 : NoOcc s t m (i2 + 1) := hNo2.miss HM.out hj1 hjl hmi2 hne
                have hFa2 : Fails s (bt t m) (i2 + 1) (fails + 1) := hFai.next HX.out hlt2 N3.out
                have hff := hFa2.1
                clear hne hNo2 hFai
                go_quiet (fail)
                go_wp2_with fail
                go_step3
                simp only [Exit.inBlock, Exit.then]
                refine ⟨rfl, ?_⟩
                show Code.wp Tryz.prog _ _ _ _
                rw [World.drewN_drewN]
                go_wp2_with fail
                refine (cutover_any _ (by omega) (by omega) _).mono ?_
                rintro e w5 ⟨rfl, hw5⟩
                have hw5 := hw5.symm
                subst hw5
                have bc : decide (((i2 : Int) + 1 + 16) / 8 < (fails : Int) + 1) = false := by simp; omega
                go_wp2_with fail
                rw [Exit.noGoto_normal]
                simp only [Exit.inBlock, Exit.then]
                go_wp2_with fail
                go_roundg (21 - i2)
                case measure => omega
                case rel => exact ⟨i2 + 1, fails + 1, by go_num, by go_num, by omega, by omega, hff, hne2, hFa2, by omega, _, rfl⟩
            · go_wp2_with fail
              simp only [Exit.jump, Exit.inBlock, Exit.then, Exit.noGoto]
              go_ret
              obtain rfl : j = m + 1 := by omega
              have occ := NoOcc.hit HM.out hmi2 hlt2 HX.out HJ.out
              exact ⟨⟨(i2 : Int) - m, rfl, ⟨fun _ => occ, fun _ => by omega⟩⟩, n2, rfl⟩
    · go_wp2_with fail
      simp only [Exit.inBlock, Exit.noGoto]
      go_ret
      have nocc := hNo.done HM.out (by omega)
      exact ⟨⟨-1, rfl, ⟨fun h => by omega, fun h => absurd h nocc⟩⟩, n0, rfl⟩
end Go.Proofs.YtodabmkcihafhaaGreatDoor
