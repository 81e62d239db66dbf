import Derived.Test.YtodabmkcihafhaaGreatDoorRows
import Derived.WalkKit
import Derived.WalkSpells
import Derived.WalkLawsBesides
import Derived.Deep.QuietTactic
import Derived.BigQuiet
import Derived.Test.YtodabmkcihafhaaGreatDoorQ0

/- Plain laws: the one form of a list of nodes, and how long it is. -/
namespace Go.Proofs.YtodabmkcihafhaaGreatDoor

def isBin (op : Int) : Bool := op == 43 || op == 8722 || op == 215 || op == 247
def isUn (op : Int) : Bool := op == 110 || op == 178 || op == 8242
def rankP (op : Int) : Nat := if op = 43 ∨ op = 8722 then 0 else if op = 215 ∨ op = 247 then 1 else if op = 110 then 2 else 3
def opAt (L : List Nd) (k : Nat) : Int := match L[k]? with | some n => n.op | none => 0
/-- In brackets, if the rank is below what is asked. -/
def brk (r least : Nat) (t : ByteArray) : ByteArray := if r < least then ⟨#[40]⟩ ++ t ++ ⟨#[41]⟩ else t

def formF : Nat → List Nd → Nat → ByteArray
  | 0, _, _ => ByteArray.empty
  | f + 1, L, k =>
    match L[k]? with
    | none => ByteArray.empty
    | some n =>
      if n.op = 43 ∨ n.op = 8722 then brk (rankP (opAt L n.a)) 0 (formF f L n.a) ++ Utf8.encode n.op ++ brk (rankP (opAt L n.b)) 1 (formF f L n.b)
      else if n.op = 215 ∨ n.op = 247 then brk (rankP (opAt L n.a)) 1 (formF f L n.a) ++ Utf8.encode n.op ++ brk (rankP (opAt L n.b)) 2 (formF f L n.b)
      else if n.op = 110 then Utf8.encode 8722 ++ brk (rankP (opAt L n.a)) 2 (formF f L n.a)
      else if n.op = 178 ∨ n.op = 8242 then brk (rankP (opAt L n.a)) 3 (formF f L n.a) ++ Utf8.encode n.op
      else if n.op = 48 then n.text
      else Utf8.encode n.op

/-- What a node stands on lies ahead of it. -/
def WfN (k : Nat) (n : Nd) : Prop := 0 ≤ n.op ∧ n.op < 55296 ∧ (isBin n.op = true → n.a < k ∧ n.b < k) ∧ (isUn n.op = true → n.a < k)
def WfL (L : List Nd) : Prop := ∀ k n, L[k]? = some n → WfN k n

theorem WfL.snoc {L : List Nd} (h : WfL L) {n : Nd} (hn : WfN L.length n) : WfL (L ++ [n]) := by
  intro k m hm
  rw [List.getElem?_append] at hm
  split at hm
  · exact h k m hm
  · rename_i hk
    rcases Nat.lt_or_ge (k - L.length) 1 with h1 | h1
    · have : k = L.length := by omega
      subst this
      simp at hm
      subst hm
      exact hn
    · rw [List.getElem?_eq_none (by simpa using h1)] at hm; cases hm
theorem wf_bin {op : Int} {k a b : Nat} {num den : Int} {t : ByteArray} {pl : Nat} (h0 : 0 ≤ op) (h1 : op < 55296) (ha : a < k) (hb : b < k) : WfN k ⟨op, a, b, num, den, t, pl⟩ := ⟨h0, h1, fun _ => ⟨ha, hb⟩, fun _ => ha⟩
theorem wf_un {op : Int} {k a b : Nat} {num den : Int} {t : ByteArray} {pl : Nat} (h0 : 0 ≤ op) (h1 : op < 55296) (hnb : isBin op = false) (ha : a < k) : WfN k ⟨op, a, b, num, den, t, pl⟩ := ⟨h0, h1, fun h => (by rw [show isBin op = true from h] at hnb; cases hnb), fun _ => ha⟩
theorem wf_leaf {op : Int} {k a b : Nat} {num den : Int} {t : ByteArray} {pl : Nat} (h0 : 0 ≤ op) (h1 : op < 55296) (hnb : isBin op = false) (hnu : isUn op = false) : WfN k ⟨op, a, b, num, den, t, pl⟩ := ⟨h0, h1, fun h => (by rw [show isBin op = true from h] at hnb; cases hnb), fun h => (by rw [show isUn op = true from h] at hnu; cases hnu)⟩

/-- One step of the form, the sub-forms under names. -/
def nodeF (n : Nd) (ra rb : Nat) (fa fb : ByteArray) : ByteArray :=
  if n.op = 43 ∨ n.op = 8722 then brk ra 0 fa ++ Utf8.encode n.op ++ brk rb 1 fb
  else if n.op = 215 ∨ n.op = 247 then brk ra 1 fa ++ Utf8.encode n.op ++ brk rb 2 fb
  else if n.op = 110 then Utf8.encode 8722 ++ brk ra 2 fa
  else if n.op = 178 ∨ n.op = 8242 then brk ra 3 fa ++ Utf8.encode n.op
  else if n.op = 48 then n.text
  else Utf8.encode n.op
theorem formF_succ (f : Nat) (L : List Nd) (k : Nat) (n : Nd) (h : L[k]? = some n) : formF (f + 1) L k = nodeF n (rankP (opAt L n.a)) (rankP (opAt L n.b)) (formF f L n.a) (formF f L n.b) := by
  simp only [formF, h]
  rfl
theorem nodeF_congr (n : Nd) {k ra rb ra' rb' : Nat} {fa fb fa' fb' : ByteArray} (hw : WfN k n) (ha : n.a < k → ra = ra' ∧ fa = fa') (hb : n.b < k → rb = rb' ∧ fb = fb') : nodeF n ra rb fa fb = nodeF n ra' rb' fa' fb' := by
  obtain ⟨_, _, h1, h2⟩ := hw
  unfold nodeF
  by_cases c1 : n.op = 43 ∨ n.op = 8722
  · have hb1 : isBin n.op = true := by unfold isBin; rcases c1 with e | e <;> simp [e]
    obtain ⟨q1, q2⟩ := h1 hb1
    obtain ⟨rfl, rfl⟩ := ha q1
    obtain ⟨rfl, rfl⟩ := hb q2
    rfl
  · rw [if_neg c1, if_neg c1]
    by_cases c2 : n.op = 215 ∨ n.op = 247
    · have hb1 : isBin n.op = true := by unfold isBin; rcases c2 with e | e <;> simp [e]
      obtain ⟨q1, q2⟩ := h1 hb1
      obtain ⟨rfl, rfl⟩ := ha q1
      obtain ⟨rfl, rfl⟩ := hb q2
      rfl
    · rw [if_neg c2, if_neg c2]
      by_cases c3 : n.op = 110
      · have hu : isUn n.op = true := by unfold isUn; simp [c3]
        obtain ⟨rfl, rfl⟩ := ha (h2 hu)
        rfl
      · rw [if_neg c3, if_neg c3]
        by_cases c4 : n.op = 178 ∨ n.op = 8242
        · have hu : isUn n.op = true := by unfold isUn; rcases c4 with e | e <;> simp [e]
          obtain ⟨rfl, rfl⟩ := ha (h2 hu)
          rfl
        · rw [if_neg c4, if_neg c4]

theorem opAt_append (L M : List Nd) (k : Nat) (h : k < L.length) : opAt (L ++ M) k = opAt L k := by
  unfold opAt
  rw [List.getElem?_append_left h]
theorem formF_append : ∀ (f : Nat) (L M : List Nd) (k : Nat), WfL L → k < L.length → formF f (L ++ M) k = formF f L k := by
  intro f
  induction f with
  | zero => intro L M k _ _; rfl
  | succ f ih =>
    intro L M k hw hk
    obtain ⟨n, hn⟩ : ∃ n, L[k]? = some n := ⟨L[k], List.getElem?_eq_getElem hk⟩
    have hn2 : (L ++ M)[k]? = some n := by rw [List.getElem?_append_left hk]; exact hn
    rw [formF_succ f L k n hn, formF_succ f (L ++ M) k n hn2]
    refine nodeF_congr n (hw k n hn) (fun h => ⟨by rw [opAt_append L M _ (by omega)], ih L M _ hw (by omega)⟩) (fun h => ⟨by rw [opAt_append L M _ (by omega)], ih L M _ hw (by omega)⟩)
theorem formF_fuel : ∀ (f : Nat) (L : List Nd) (k : Nat), WfL L → k < L.length → k < f → formF (f + 1) L k = formF f L k := by
  intro f
  induction f with
  | zero => intro L k _ _ h; omega
  | succ f ih =>
    intro L k hw hk hf
    obtain ⟨n, hn⟩ : ∃ n, L[k]? = some n := ⟨L[k], List.getElem?_eq_getElem hk⟩
    rw [formF_succ (f + 1) L k n hn, formF_succ f L k n hn]
    exact nodeF_congr n (hw k n hn) (fun h => ⟨rfl, ih L _ hw (by omega) (by omega)⟩) (fun h => ⟨rfl, ih L _ hw (by omega) (by omega)⟩)
/-- The form of node k. -/
def fm (L : List Nd) (k : Nat) : ByteArray := formF (k + 1) L k
theorem formF_fm : ∀ (d : Nat) (L : List Nd) (k : Nat), WfL L → k < L.length → formF (k + 1 + d) L k = fm L k := by
  intro d
  induction d with
  | zero => intro L k _ _; rfl
  | succ d ih =>
    intro L k hw hk
    rw [← Nat.add_assoc, formF_fuel (k + 1 + d) L k hw hk (by omega)]
    exact ih L k hw hk
theorem fm_eq (L : List Nd) (k : Nat) (n : Nd) (hw : WfL L) (h : L[k]? = some n) : fm L k = nodeF n (rankP (opAt L n.a)) (rankP (opAt L n.b)) (fm L n.a) (fm L n.b) := by
  have hk : k < L.length := (List.getElem?_eq_some_iff.1 h).1
  unfold fm
  rw [formF_succ k L k n h]
  refine nodeF_congr n (hw k n h) (fun ha => ⟨rfl, ?_⟩) (fun hb => ⟨rfl, ?_⟩)
  · rw [show k = n.a + 1 + (k - n.a - 1) by omega]; exact formF_fm _ L n.a hw (by omega)
  · rw [show k = n.b + 1 + (k - n.b - 1) by omega]; exact formF_fm _ L n.b hw (by omega)
theorem fm_append (L M : List Nd) (k : Nat) (hw : WfL L) (hk : k < L.length) : fm (L ++ M) k = fm L k := formF_append _ L M k hw hk
theorem fm_last (L : List Nd) (n : Nd) (hw : WfL L) (hn : WfN L.length n) : fm (L ++ [n]) L.length = nodeF n (rankP (opAt L n.a)) (rankP (opAt L n.b)) (fm L n.a) (fm L n.b) := by
  have hg : (L ++ [n])[L.length]? = some n := by simp
  rw [fm_eq (L ++ [n]) L.length n (hw.snoc hn) hg]
  exact nodeF_congr n hn (fun ha => ⟨by rw [opAt_append _ _ _ ha], fm_append _ _ _ hw ha⟩) (fun hb => ⟨by rw [opAt_append _ _ _ hb], fm_append _ _ _ hw hb⟩)

/-! ### How long it is -/
theorem enc_size (c : Int) : (Utf8.encode c).size ≤ 4 := by
  unfold Utf8.encode
  simp only
  repeat' split
  all_goals simp [ByteArray.size]
theorem brk_size (r least : Nat) (t : ByteArray) : (brk r least t).size ≤ t.size + 2 := by
  unfold brk
  split
  · simp [ByteArray.size_append]
    have : (ByteArray.mk #[40]).size = 1 := rfl
    have : (ByteArray.mk #[41]).size = 1 := rfl
    omega
  · omega
theorem nodeF_bin (n : Nd) (ra rb : Nat) (fa fb : ByteArray) (h : isBin n.op = true) : (nodeF n ra rb fa fb).size ≤ fa.size + fb.size + 8 := by
  have e := enc_size n.op
  unfold nodeF
  unfold isBin at h
  simp at h
  split
  · have := brk_size ra 0 fa; have := brk_size rb 1 fb
    simp only [ByteArray.size_append]; omega
  · split
    · have := brk_size ra 1 fa; have := brk_size rb 2 fb
      simp only [ByteArray.size_append]; omega
    · omega
theorem nodeF_un (n : Nd) (ra rb : Nat) (fa fb : ByteArray) (h : isUn n.op = true) : (nodeF n ra rb fa fb).size ≤ fa.size + 6 := by
  have e := enc_size n.op
  have e' := enc_size 8722
  unfold isUn at h
  simp at h
  unfold nodeF
  rw [if_neg (by omega), if_neg (by omega)]
  split
  · have := brk_size ra 2 fa
    simp only [ByteArray.size_append]; omega
  · rw [if_pos (by omega)]
    have := brk_size ra 3 fa
    simp only [ByteArray.size_append]; omega
theorem nodeF_leaf (n : Nd) (ra rb : Nat) (fa fb : ByteArray) (h1 : isBin n.op = false) (h2 : isUn n.op = false) : nodeF n ra rb fa fb = if n.op = 48 then n.text else Utf8.encode n.op := by
  unfold isBin at h1
  unfold isUn at h2
  simp at h1 h2
  unfold nodeF
  rw [if_neg (by omega), if_neg (by omega), if_neg (by omega), if_neg (by omega)]

theorem encAll_size (l : List Int) : (encAll l).size ≤ 4 * l.length := by
  unfold encAll
  suffices ∀ (l : List Int) (a : ByteArray), (l.foldl (fun acc c => acc ++ Utf8.encode c) a).size ≤ a.size + 4 * l.length by
    have := this l ByteArray.empty
    simpa using this
  intro l
  induction l with
  | nil => intro a; simp
  | cons c r ih =>
    intro a
    have := ih (a ++ Utf8.encode c)
    have e := enc_size c
    simp only [List.foldl_cons, List.length_cons, ByteArray.size_append] at this ⊢
    omega
theorem digs_count : ∀ (n : Nat) (ts : List Tok), (digs n ts).1.length + (digs n ts).2.length ≤ ts.length := by
  intro n
  induction n with
  | zero => intro ts; simp [digs]
  | succ n ih =>
    intro ts
    simp only [digs]
    split
    · rename_i hd
      have h1 : 1 ≤ ts.length := by
        cases ts with
        | nil => revert hd; simp [jn, isDig]
        | cons t r => simp
      have := ih ts.tail
      simp at this ⊢
      omega
    · simp
theorem fracT_count (ts : List Tok) : (fracT ts).1.length + (fracT ts).2.length ≤ ts.length := by
  unfold fracT
  split
  · rename_i hd
    have h1 : 1 ≤ ts.length := by
      cases ts with
      | nil => revert hd; simp [jn, isFrac]
      | cons t r => simp
    simp; omega
  · simp
theorem numT_count (ts : List Tok) (h : hd ts ≠ -1) : (numT ts).1.length + (numT ts).2.length ≤ ts.length ∧ 1 ≤ (numT ts).1.length := by
  have h1 := ne_of_hd h
  unfold numT
  split
  · simp; omega
  · split
    · have := fracT_count ts.tail
      simp at this ⊢; omega
    · have := fracT_count (digs 2 ts.tail).2
      have h2 := digs_count 2 ts.tail
      simp at this h2 ⊢; omega

/-- What a reading that went well says of the nodes: they are well made, and the form of the root is short. -/
structure PSize (tag k : Nat) (ts : List Tok) (L : List Nd) (R : Res) : Prop where
  wf : WfL R.L
  sz : tag < 4 → (fm R.L R.k).size + 2 + 6 * R.ts.length ≤ 6 * ts.length
  szl : 4 ≤ tag → k < L.length → (fm R.L R.k).size + 6 * R.ts.length ≤ (fm L k).size + 6 * ts.length

theorem pp_size : ∀ (f tag k : Nat) (ts : List Tok) (L : List Nd), WfL L → (4 ≤ tag → k < L.length) → (pp f tag k ts L).ok = true → PSize tag k ts L (pp f tag k ts L) := by
  intro f
  induction f with
  | zero => intro tag k ts L _ _ h; simp [pp] at h
  | succ f ih =>
    intro tag k ts L hw hk
    have stop : ∀ tg, 4 ≤ tg → PSize tg k ts L ⟨true, k, L, ts⟩ := fun tg h4 => ⟨hw, fun h => by omega, fun _ _ => Nat.le_refl _⟩
    match tag with
    | 0 =>
      simp only [pp]
      split
      · rename_i ho
        intro h
        have i1 := ih 1 0 ts L hw (by omega) ho
        have v1 := pp_inv f 1 0 ts L
        have kk := v1.kk ho (Or.inl (by decide))
        have i2 := ih 4 _ _ _ i1.wf (fun _ => kk) h
        have a1 := i1.sz (by decide)
        have a2 := i2.szl (by decide) kk
        exact ⟨i2.wf, fun _ => by omega, fun h => by omega⟩
      · rename_i ho; intro h; exact absurd h ho
    | 1 =>
      simp only [pp]
      split
      · rename_i ho
        intro h
        have i1 := ih 2 0 ts L hw (by omega) ho
        have v1 := pp_inv f 2 0 ts L
        have kk := v1.kk ho (Or.inl (by decide))
        have i2 := ih 5 _ _ _ i1.wf (fun _ => kk) h
        have a1 := i1.sz (by decide)
        have a2 := i2.szl (by decide) kk
        exact ⟨i2.wf, fun _ => by omega, fun h => by omega⟩
      · rename_i ho; intro h; exact absurd h ho
    | 2 =>
      simp only [pp]
      split
      · rename_i hm
        have hn : 1 ≤ ts.length := ne_of_hd (by rw [hm]; decide)
        split
        · rename_i ho
          intro h
          have i1 := ih 2 0 ts.tail L hw (by omega) ho
          have v1 := pp_inv f 2 0 ts.tail L
          have kk := v1.kk ho (Or.inl (by decide))
          have a1 := i1.sz (by decide)
          have wn : WfN (pp f 2 0 ts.tail L).L.length (opNd 110 (pp f 2 0 ts.tail L).k 0 (hp ts)) := wf_un (by decide) (by decide) rfl kk
          refine ⟨i1.wf.snoc wn, fun _ => ?_, fun h => by omega⟩
          have b1 := fm_last _ _ i1.wf wn
          have b2 := nodeF_un (opNd 110 (pp f 2 0 ts.tail L).k 0 (hp ts)) (rankP (opAt (pp f 2 0 ts.tail L).L (pp f 2 0 ts.tail L).k)) (rankP (opAt (pp f 2 0 ts.tail L).L 0)) (fm (pp f 2 0 ts.tail L).L (pp f 2 0 ts.tail L).k) (fm (pp f 2 0 ts.tail L).L 0) rfl
          simp only [List.length_tail] at a1
          show (fm _ _).size + 2 + 6 * _ ≤ _
          simp only [b1]
          unfold opNd at b2 ⊢
          simp only at b2 ⊢
          omega
        · rename_i ho; intro h; exact absurd h ho
      · split
        · rename_i ho
          intro h
          have i1 := ih 3 0 ts L hw (by omega) ho
          have v1 := pp_inv f 3 0 ts L
          have kk := v1.kk ho (Or.inl (by decide))
          have i2 := ih 6 _ _ _ i1.wf (fun _ => kk) h
          have a1 := i1.sz (by decide)
          have a2 := i2.szl (by decide) kk
          exact ⟨i2.wf, fun _ => by omega, fun h => by omega⟩
        · rename_i ho; intro h; exact absurd h ho
    | 3 =>
      simp only [pp]
      split
      · rename_i hd1
        intro _
        have hn : hd ts ≠ -1 := by intro h; rw [h] at hd1; revert hd1; decide
        have cnt := numT_count ts hn
        have wn : WfN L.length (numNd ts) := wf_leaf (by decide) (by decide) rfl rfl
        refine ⟨hw.snoc wn, fun _ => ?_, fun h => by omega⟩
        have b1 := fm_last _ _ hw wn
        rw [nodeF_leaf _ _ _ _ _ rfl rfl] at b1
        have es := encAll_size (numT ts).1
        show (fm _ _).size + 2 + 6 * _ ≤ _
        simp only [b1]
        unfold numNd
        simp only [if_true]
        omega
      · split
        · rename_i hd1
          intro _
          have hr : (hd ts = 105 ∨ (945 ≤ hd ts ∧ hd ts ≤ 969)) := by
            rcases hd1 with h | h
            · exact Or.inl h
            · right; unfold isNm at h; simpa using h
          have hn : 1 ≤ ts.length := ne_of_hd (by omega)
          have hbn : isBin (hd ts) = false := by unfold isBin; simp; omega
          have hun : isUn (hd ts) = false := by unfold isUn; simp; omega
          have wn : WfN L.length (opNd (hd ts) 0 0 (hp ts)) := wf_leaf (by omega) (by omega) hbn hun
          refine ⟨hw.snoc wn, fun _ => ?_, fun h => by omega⟩
          have b1 := fm_last _ _ hw wn
          rw [nodeF_leaf _ _ _ _ _ hbn hun] at b1
          have es := enc_size (hd ts)
          show (fm _ _).size + 2 + 6 * _ ≤ _
          simp only [b1]
          unfold opNd
          simp only [List.length_tail]
          rw [if_neg (by omega)]
          omega
        · split
          · rename_i hd1
            have hn : 1 ≤ ts.length := ne_of_hd (by rw [hd1]; decide)
            split
            · rename_i ho
              have i1 := ih 0 0 ts.tail L hw (by omega) ho
              have a1 := i1.sz (by decide)
              simp only [List.length_tail] at a1
              split
              · intro _
                refine ⟨i1.wf, fun _ => ?_, fun h => by omega⟩
                simp only [List.length_tail]
                omega
              · intro h; cases h
            · rename_i ho; intro h; exact absurd h ho
          · intro h; cases h
    | 4 =>
      simp only [pp]
      split
      · rename_i hm
        have hr : hd ts = 43 ∨ hd ts = 8722 := by simpa [inRow] using hm
        have hn : 1 ≤ ts.length := ne_of_hd (by omega)
        split
        · rename_i ho
          intro h
          have i1 := ih 1 0 ts.tail L hw (by omega) ho
          have v1 := pp_inv f 1 0 ts.tail L
          have kk := v1.kk ho (Or.inl (by decide))
          obtain ⟨M, hM⟩ := v1.pre
          have a1 := i1.sz (by decide)
          have hb : isBin (hd ts) = true := by unfold isBin; rcases hr with e | e <;> simp [e]
          have hk' := hk (by decide)
          have hk2 : k < (pp f 1 0 ts.tail L).L.length := by rw [hM]; simp; omega
          have wn : WfN (pp f 1 0 ts.tail L).L.length (opNd (hd ts) k (pp f 1 0 ts.tail L).k (hp ts)) := wf_bin (by omega) (by omega) hk2 kk
          have i2 := ih 4 _ _ _ (i1.wf.snoc wn) (fun _ => by simp) h
          have a2 := i2.szl (by decide) (by simp)
          have b1 := fm_last _ _ i1.wf wn
          have b2 := nodeF_bin (opNd (hd ts) k (pp f 1 0 ts.tail L).k (hp ts)) (rankP (opAt (pp f 1 0 ts.tail L).L k)) (rankP (opAt (pp f 1 0 ts.tail L).L (pp f 1 0 ts.tail L).k)) (fm (pp f 1 0 ts.tail L).L k) (fm (pp f 1 0 ts.tail L).L (pp f 1 0 ts.tail L).k) hb
          have b3 : fm (pp f 1 0 ts.tail L).L k = fm L k := by rw [hM]; exact fm_append L M k hw hk'
          refine ⟨i2.wf, fun h => by omega, fun _ _ => ?_⟩
          rw [b1] at a2
          simp only [List.length_tail] at a1 a2 ⊢
          unfold opNd at b2 a2 ⊢
          simp only at b2 a2 ⊢
          rw [b3] at b2 a2
          omega
        · rename_i ho; intro h; exact absurd h ho
      · intro _; exact stop _ (by decide)
    | 5 =>
      simp only [pp]
      split
      · rename_i hm
        have hr : hd ts = 215 ∨ hd ts = 247 := by simpa [inRow] using hm
        have hn : 1 ≤ ts.length := ne_of_hd (by omega)
        split
        · rename_i ho
          intro h
          have i1 := ih 2 0 ts.tail L hw (by omega) ho
          have v1 := pp_inv f 2 0 ts.tail L
          have kk := v1.kk ho (Or.inl (by decide))
          obtain ⟨M, hM⟩ := v1.pre
          have a1 := i1.sz (by decide)
          have hb : isBin (hd ts) = true := by unfold isBin; rcases hr with e | e <;> simp [e]
          have hk' := hk (by decide)
          have hk2 : k < (pp f 2 0 ts.tail L).L.length := by rw [hM]; simp; omega
          have wn : WfN (pp f 2 0 ts.tail L).L.length (opNd (hd ts) k (pp f 2 0 ts.tail L).k (hp ts)) := wf_bin (by omega) (by omega) hk2 kk
          have i2 := ih 5 _ _ _ (i1.wf.snoc wn) (fun _ => by simp) h
          have a2 := i2.szl (by decide) (by simp)
          have b1 := fm_last _ _ i1.wf wn
          have b2 := nodeF_bin (opNd (hd ts) k (pp f 2 0 ts.tail L).k (hp ts)) (rankP (opAt (pp f 2 0 ts.tail L).L k)) (rankP (opAt (pp f 2 0 ts.tail L).L (pp f 2 0 ts.tail L).k)) (fm (pp f 2 0 ts.tail L).L k) (fm (pp f 2 0 ts.tail L).L (pp f 2 0 ts.tail L).k) hb
          have b3 : fm (pp f 2 0 ts.tail L).L k = fm L k := by rw [hM]; exact fm_append L M k hw hk'
          refine ⟨i2.wf, fun h => by omega, fun _ _ => ?_⟩
          rw [b1] at a2
          simp only [List.length_tail] at a1 a2 ⊢
          unfold opNd at b2 a2 ⊢
          simp only at b2 a2 ⊢
          rw [b3] at b2 a2
          omega
        · rename_i ho; intro h; exact absurd h ho
      · intro _; exact stop _ (by decide)
    | n + 6 =>
      simp only [pp]
      split
      · rename_i hm
        have hr : hd ts = 178 ∨ hd ts = 8242 := by simpa [isMk] using hm
        have hn : 1 ≤ ts.length := ne_of_hd (by omega)
        intro h
        have hk' := hk (by omega)
        have hu : isUn (hd ts) = true := by unfold isUn; rcases hr with e | e <;> simp [e]
        have hnb : isBin (hd ts) = false := by unfold isBin; rcases hr with e | e <;> simp [e]
        have wn : WfN L.length (opNd (hd ts) k 0 (hp ts)) := wf_un (by omega) (by omega) hnb hk'
        have i2 := ih 6 _ _ _ (hw.snoc wn) (fun _ => by simp) h
        have a2 := i2.szl (by decide) (by simp)
        have b1 := fm_last _ _ hw wn
        have b2 := nodeF_un (opNd (hd ts) k 0 (hp ts)) (rankP (opAt L k)) (rankP (opAt L 0)) (fm L k) (fm L 0) hu
        refine ⟨i2.wf, fun h => by omega, fun _ _ => ?_⟩
        rw [b1] at a2
        simp only [List.length_tail] at a2 ⊢
        unfold opNd at b2 a2 ⊢
        simp only at b2 a2 ⊢
        omega
      · intro _; exact stop _ (by omega)
end Go.Proofs.YtodabmkcihafhaaGreatDoor

/- Plain: the reading of a text as a tree; the list of nodes is the tree's, those ahead on which one is made. -/
namespace Go.Proofs.YtodabmkcihafhaaGreatDoor

/-- An expression: a numeral (its runes), i or a name, one with a sign ahead or behind, two with a sign between; each with its place. -/
inductive Ex where
  | num (l : List Int) (p : Nat)
  | leaf (c : Int) (p : Nat)
  | un (c : Int) (p : Nat) (e : Ex)
  | bin (c : Int) (p : Nat) (l r : Ex)

def Ex.size : Ex → Nat
  | .num _ _ => 1
  | .leaf _ _ => 1
  | .un _ _ e => e.size + 1
  | .bin _ _ l r => l.size + r.size + 1
theorem Ex.size_pos : ∀ e : Ex, 1 ≤ e.size := by
  intro e
  cases e <;> simp [Ex.size]

def nNd (l : List Int) (p : Nat) : Nd := { op := 48, a := 0, b := 0, num := (numVal l).1, den := (numVal l).2, text := encAll l, pl := p }
/-- The nodes of a tree, the first at number o. -/
def Ex.flat (o : Nat) : Ex → List Nd
  | .num l p => [nNd l p]
  | .leaf c p => [opNd c 0 0 p]
  | .un c p e => e.flat o ++ [opNd c (o + e.size - 1) 0 p]
  | .bin c p l r => l.flat o ++ r.flat (o + l.size) ++ [opNd c (o + l.size - 1) (o + l.size + r.size - 1) p]
theorem Ex.flat_length : ∀ (e : Ex) (o : Nat), (e.flat o).length = e.size := by
  intro e
  induction e with
  | num l p => intro o; rfl
  | leaf c p => intro o; rfl
  | un c p e ih => intro o; simp [Ex.flat, Ex.size, ih]
  | bin c p l r ihl ihr => intro o; simp [Ex.flat, Ex.size, ihl, ihr]; omega

/-- What a reading comes to, as a tree. -/
structure RT where
  ok : Bool
  e : Ex
  ts : List Tok

/-- The reading, as a tree: pp's tags. -/
def pt : Nat → Nat → Ex → List Tok → RT
  | 0, _, e, ts => ⟨false, e, ts⟩
  | f + 1, tag, e, ts =>
    match tag with
    | 0 => if (pt f 1 e ts).ok then pt f 4 (pt f 1 e ts).e (pt f 1 e ts).ts else pt f 1 e ts
    | 1 => if (pt f 2 e ts).ok then pt f 5 (pt f 2 e ts).e (pt f 2 e ts).ts else pt f 2 e ts
    | 2 =>
      if hd ts = 8722 then
        (if (pt f 2 e ts.tail).ok then ⟨true, .un 110 (hp ts) (pt f 2 e ts.tail).e, (pt f 2 e ts.tail).ts⟩
         else pt f 2 e ts.tail)
      else if (pt f 3 e ts).ok then pt f 6 (pt f 3 e ts).e (pt f 3 e ts).ts else pt f 3 e ts
    | 3 =>
      if isDig (hd ts) || isFrac (hd ts) then ⟨true, .num (numT ts).1 (hp ts), (numT ts).2⟩
      else if hd ts = 105 ∨ isNm (hd ts) then ⟨true, .leaf (hd ts) (hp ts), ts.tail⟩
      else if hd ts = 40 then
        (if (pt f 0 e ts.tail).ok then
          (if hd (pt f 0 e ts.tail).ts = 41 then ⟨true, (pt f 0 e ts.tail).e, (pt f 0 e ts.tail).ts.tail⟩
           else ⟨false, e, (pt f 0 e ts.tail).ts⟩)
         else pt f 0 e ts.tail)
      else ⟨false, e, ts⟩
    | 4 =>
      if inRow 0 (hd ts) then
        (if (pt f 1 e ts.tail).ok then pt f 4 (.bin (hd ts) (hp ts) e (pt f 1 e ts.tail).e) (pt f 1 e ts.tail).ts
         else pt f 1 e ts.tail)
      else ⟨true, e, ts⟩
    | 5 =>
      if inRow 1 (hd ts) then
        (if (pt f 2 e ts.tail).ok then pt f 5 (.bin (hd ts) (hp ts) e (pt f 2 e ts.tail).e) (pt f 2 e ts.tail).ts
         else pt f 2 e ts.tail)
      else ⟨true, e, ts⟩
    | _ =>
      if isMk (hd ts) then pt f 6 (.un (hd ts) (hp ts) e) ts.tail else ⟨true, e, ts⟩

/-- A list of nodes that a tree gave. -/
def Built (L0 : List Nd) (e : Ex) (L : List Nd) (k : Nat) : Prop := L = L0 ++ e.flat L0.length ∧ k + 1 = L0.length + e.size

theorem Built.un {L0 : List Nd} {e : Ex} {L : List Nd} {k : Nat} (h : Built L0 e L k) (c : Int) (p : Nat) : Built L0 (.un c p e) (L ++ [opNd c k 0 p]) L.length := by
  obtain ⟨rfl, hk⟩ := h
  have : L0.length + e.size - 1 = k := by omega
  refine ⟨?_, ?_⟩
  · simp [Ex.flat, this]
  · simp [Ex.size, Ex.flat_length]; omega
theorem Built.bin {L0 : List Nd} {e1 e2 : Ex} {L L2 : List Nd} {k k2 : Nat} (h : Built L0 e1 L k) (h2 : Built L e2 L2 k2) (c : Int) (p : Nat) : Built L0 (.bin c p e1 e2) (L2 ++ [opNd c k k2 p]) L2.length := by
  obtain ⟨rfl, hk⟩ := h
  obtain ⟨rfl, hk2⟩ := h2
  simp only [List.length_append, Ex.flat_length] at hk2 ⊢
  have q1 : L0.length + e1.size - 1 = k := by omega
  have q2 : L0.length + e1.size + e2.size - 1 = k2 := by omega
  refine ⟨?_, ?_⟩
  · simp [Ex.flat, q1, q2]
  · simp [Ex.size]; omega
theorem Built.leafN (L0 : List Nd) (c : Int) (p : Nat) : Built L0 (.leaf c p) (L0 ++ [opNd c 0 0 p]) L0.length := ⟨rfl, rfl⟩
theorem Built.numN (L0 : List Nd) (ts : List Tok) : Built L0 (.num (numT ts).1 (hp ts)) (L0 ++ [numNd ts]) L0.length := ⟨rfl, rfl⟩

def Agree (L0 : List Nd) (R : Res) (T : RT) : Prop := R.ok = T.ok ∧ R.ts = T.ts ∧ (R.ok = true → Built L0 T.e R.L R.k)

theorem pp_pt : ∀ (f tag k : Nat) (ts : List Tok) (L L0 : List Nd) (e : Ex), (tag < 4 ∧ L0 = L ∨ Built L0 e L k) → (4 ≤ tag → Built L0 e L k) → (tag < 4 → L0 = L) → Agree L0 (pp f tag k ts L) (pt f tag e ts) := by
  intro f
  induction f with
  | zero => intro tag k ts L L0 e _ _ _; exact ⟨rfl, rfl, fun h => by cases h⟩
  | succ f ih =>
    have lo : ∀ (tag : Nat) (ts : List Tok) (L : List Nd) (e : Ex), tag < 4 → Agree L (pp f tag 0 ts L) (pt f tag e ts) := fun tag ts L e h => ih tag 0 ts L L e (Or.inl ⟨h, rfl⟩) (fun h' => by omega) (fun _ => rfl)
    have hi : ∀ (tag k : Nat) (ts : List Tok) (L L0 : List Nd) (e : Ex), 4 ≤ tag → Built L0 e L k → Agree L0 (pp f tag k ts L) (pt f tag e ts) := fun tag k ts L L0 e h hb => ih tag k ts L L0 e (Or.inr hb) (fun _ => hb) (fun h' => by omega)
    intro tag k ts L L0 e _ hB hL
    match tag with
    | 0 =>
      obtain rfl := hL (by decide)
      obtain ⟨a1, a2, a3⟩ := lo 1 ts L0 e (by decide)
      simp only [pp, pt]
      rw [← a1]
      by_cases h : (pp f 1 0 ts L0).ok = true
      · rw [if_pos h, if_pos h, ← a2]
        exact hi 4 _ _ _ _ _ (by decide) (a3 h)
      · rw [if_neg h, if_neg h]
        exact ⟨a1, a2, a3⟩
    | 1 =>
      obtain rfl := hL (by decide)
      obtain ⟨a1, a2, a3⟩ := lo 2 ts L0 e (by decide)
      simp only [pp, pt]
      rw [← a1]
      by_cases h : (pp f 2 0 ts L0).ok = true
      · rw [if_pos h, if_pos h, ← a2]
        exact hi 5 _ _ _ _ _ (by decide) (a3 h)
      · rw [if_neg h, if_neg h]
        exact ⟨a1, a2, a3⟩
    | 2 =>
      obtain rfl := hL (by decide)
      simp only [pp, pt]
      by_cases h0 : hd ts = 8722
      · rw [if_pos h0, if_pos h0]
        obtain ⟨a1, a2, a3⟩ := lo 2 ts.tail L0 e (by decide)
        rw [← a1]
        by_cases h : (pp f 2 0 ts.tail L0).ok = true
        · rw [if_pos h, if_pos h]
          exact ⟨rfl, a2, fun _ => (a3 h).un 110 (hp ts)⟩
        · rw [if_neg h, if_neg h]
          exact ⟨a1, a2, a3⟩
      · rw [if_neg h0, if_neg h0]
        obtain ⟨a1, a2, a3⟩ := lo 3 ts L0 e (by decide)
        rw [← a1]
        by_cases h : (pp f 3 0 ts L0).ok = true
        · rw [if_pos h, if_pos h, ← a2]
          exact hi 6 _ _ _ _ _ (by decide) (a3 h)
        · rw [if_neg h, if_neg h]
          exact ⟨a1, a2, a3⟩
    | 3 =>
      obtain rfl := hL (by decide)
      simp only [pp, pt]
      by_cases h1 : (isDig (hd ts) || isFrac (hd ts)) = true
      · rw [if_pos h1, if_pos h1]
        exact ⟨rfl, rfl, fun _ => Built.numN L0 ts⟩
      · rw [if_neg h1, if_neg h1]
        by_cases h2 : hd ts = 105 ∨ isNm (hd ts) = true
        · rw [if_pos h2, if_pos h2]
          exact ⟨rfl, rfl, fun _ => Built.leafN L0 _ _⟩
        · rw [if_neg h2, if_neg h2]
          by_cases h3 : hd ts = 40
          · rw [if_pos h3, if_pos h3]
            obtain ⟨a1, a2, a3⟩ := lo 0 ts.tail L0 e (by decide)
            rw [← a1, ← a2]
            by_cases h : (pp f 0 0 ts.tail L0).ok = true
            · rw [if_pos h, if_pos h]
              by_cases h4 : hd (pp f 0 0 ts.tail L0).ts = 41
              · rw [if_pos h4, if_pos h4]
                exact ⟨rfl, rfl, fun _ => a3 h⟩
              · rw [if_neg h4, if_neg h4]
                exact ⟨rfl, rfl, fun h => by cases h⟩
            · rw [if_neg h, if_neg h]
              exact ⟨a1, a2, a3⟩
          · rw [if_neg h3, if_neg h3]
            exact ⟨rfl, rfl, fun h => by cases h⟩
    | 4 =>
      have hb := hB (by decide)
      simp only [pp, pt]
      by_cases h0 : inRow 0 (hd ts) = true
      · rw [if_pos h0, if_pos h0]
        obtain ⟨a1, a2, a3⟩ := lo 1 ts.tail L e (by decide)
        rw [← a1]
        by_cases h : (pp f 1 0 ts.tail L).ok = true
        · rw [if_pos h, if_pos h, ← a2]
          exact hi 4 _ _ _ _ _ (by decide) (hb.bin (a3 h) (hd ts) (hp ts))
        · rw [if_neg h, if_neg h]
          exact ⟨a1, a2, fun h' => absurd h' h⟩
      · rw [if_neg h0, if_neg h0]
        exact ⟨rfl, rfl, fun _ => hb⟩
    | 5 =>
      have hb := hB (by decide)
      simp only [pp, pt]
      by_cases h0 : inRow 1 (hd ts) = true
      · rw [if_pos h0, if_pos h0]
        obtain ⟨a1, a2, a3⟩ := lo 2 ts.tail L e (by decide)
        rw [← a1]
        by_cases h : (pp f 2 0 ts.tail L).ok = true
        · rw [if_pos h, if_pos h, ← a2]
          exact hi 5 _ _ _ _ _ (by decide) (hb.bin (a3 h) (hd ts) (hp ts))
        · rw [if_neg h, if_neg h]
          exact ⟨a1, a2, fun h' => absurd h' h⟩
      · rw [if_neg h0, if_neg h0]
        exact ⟨rfl, rfl, fun _ => hb⟩
    | n + 6 =>
      have hb := hB (by omega)
      simp only [pp, pt]
      by_cases h0 : isMk (hd ts) = true
      · rw [if_pos h0, if_pos h0]
        exact hi 6 _ _ _ _ _ (by decide) (hb.un (hd ts) (hp ts))
      · rw [if_neg h0, if_neg h0]
        exact ⟨rfl, rfl, fun _ => hb⟩
end Go.Proofs.YtodabmkcihafhaaGreatDoor

/- Plain: fractions and numbers, reckoned with a bound. -/
namespace Go.Proofs.YtodabmkcihafhaaGreatDoor

structure Fr where
  n : Int
  d : Int
structure Num where
  re : Fr
  im : Fr

def gcdP (n d : Int) : Int := (Nat.gcd n.natAbs d.natAbs : Nat)
def lowP (n d : Int) : Fr := ⟨n / gcdP n d, d / gcdP n d⟩
def Fr.big (f : Fr) : Bool := decide (f.n > 999999 ∨ f.n < -999999 ∨ f.d > 999999)
def mkB (n d : Int) : Bool := (lowP n d).big
def mkF (n d : Int) : Fr := if mkB n d then ⟨0, 1⟩ else lowP n d
def Fr.neg (f : Fr) : Fr := ⟨-f.n, f.d⟩
def plF (a b : Fr) : Fr := mkF (a.n * b.d + b.n * a.d) (a.d * b.d)
def plB (a b : Fr) : Bool := mkB (a.n * b.d + b.n * a.d) (a.d * b.d)
def tmF (a b : Fr) : Fr := mkF (a.n * b.n) (a.d * b.d)
def tmB (a b : Fr) : Bool := mkB (a.n * b.n) (a.d * b.d)

def Fr.Ok (f : Fr) : Prop := 0 < f.d ∧ f.d ≤ 999999 ∧ -999999 ≤ f.n ∧ f.n ≤ 999999 ∧ Nat.gcd f.n.natAbs f.d.natAbs = 1
def Num.Ok (x : Num) : Prop := x.re.Ok ∧ x.im.Ok

theorem fr_zero_ok : Fr.Ok ⟨0, 1⟩ := by refine ⟨by decide, by decide, by decide, by decide, by decide⟩
theorem fr_one_ok : Fr.Ok ⟨1, 1⟩ := by refine ⟨by decide, by decide, by decide, by decide, by decide⟩
theorem Fr.Ok.neg {f : Fr} (h : f.Ok) : f.neg.Ok := by
  obtain ⟨a, b, c, d, e⟩ := h
  refine ⟨a, b, ?_, ?_, ?_⟩
  · show -999999 ≤ -f.n; omega
  · show -f.n ≤ 999999; omega
  · show Nat.gcd (-f.n).natAbs f.d.natAbs = 1
    rw [Int.natAbs_neg]; exact e
theorem gcdP_pos {n d : Int} (h : 0 < d) : 0 < gcdP n d := by
  unfold gcdP
  have := Nat.gcd_pos_of_pos_right n.natAbs (show 0 < d.natAbs by omega)
  omega
theorem gcdP_dvd_n (n d : Int) : gcdP n d ∣ n := by
  unfold gcdP
  exact Int.dvd_natAbs.1 (Int.natCast_dvd_natCast.2 (Nat.gcd_dvd_left _ _))
theorem gcdP_dvd_d (n d : Int) : gcdP n d ∣ d := by
  unfold gcdP
  exact Int.dvd_natAbs.1 (Int.natCast_dvd_natCast.2 (Nat.gcd_dvd_right _ _))
theorem low_mul_n (n d : Int) : (lowP n d).n * gcdP n d = n := Int.ediv_mul_cancel (gcdP_dvd_n n d)
theorem low_mul_d (n d : Int) : (lowP n d).d * gcdP n d = d := Int.ediv_mul_cancel (gcdP_dvd_d n d)
theorem low_d_pos {n d : Int} (h : 0 < d) : 0 < (lowP n d).d := by
  have h1 := low_mul_d n d
  have h2 := gcdP_pos (n := n) h
  rcases Int.lt_or_le 0 (lowP n d).d with h3 | h3
  · exact h3
  · have := Int.mul_le_mul_of_nonneg_right h3 (Int.le_of_lt h2)
    omega
theorem low_gcd {n d : Int} (h : 0 < d) : Nat.gcd (lowP n d).n.natAbs (lowP n d).d.natAbs = 1 := by
  have h1 : (lowP n d).n.natAbs * Nat.gcd n.natAbs d.natAbs = n.natAbs := by
    have := congrArg Int.natAbs (low_mul_n n d)
    rw [Int.natAbs_mul] at this
    exact this
  have h2 : (lowP n d).d.natAbs * Nat.gcd n.natAbs d.natAbs = d.natAbs := by
    have := congrArg Int.natAbs (low_mul_d n d)
    rw [Int.natAbs_mul] at this
    exact this
  have hg : 0 < Nat.gcd n.natAbs d.natAbs := Nat.gcd_pos_of_pos_right _ (by omega)
  have h3 : Nat.gcd ((lowP n d).n.natAbs * Nat.gcd n.natAbs d.natAbs) ((lowP n d).d.natAbs * Nat.gcd n.natAbs d.natAbs) = Nat.gcd n.natAbs d.natAbs := by
    rw [h1, h2]
  rw [Nat.gcd_mul_right] at h3
  exact Nat.eq_of_mul_eq_mul_right hg (by rw [h3, Nat.one_mul])
theorem mkF_ok {n d : Int} (h : 0 < d) : (mkF n d).Ok := by
  unfold mkF
  by_cases hb : mkB n d = true
  · rw [if_pos hb]; exact fr_zero_ok
  · rw [if_neg hb]
    unfold mkB Fr.big at hb
    simp at hb
    exact ⟨low_d_pos h, by omega, by omega, by omega, low_gcd h⟩
theorem mul_pos' {a b : Int} (ha : 0 < a) (hb : 0 < b) : 0 < a * b := Int.mul_pos ha hb
theorem plF_ok {a b : Fr} (ha : a.Ok) (hb : b.Ok) : (plF a b).Ok := mkF_ok (mul_pos' ha.1 hb.1)
theorem tmF_ok {a b : Fr} (ha : a.Ok) (hb : b.Ok) : (tmF a b).Ok := mkF_ok (mul_pos' ha.1 hb.1)

/-- How great a product of two parts gets. -/
theorem mul_bound {a b : Int} (h1 : -999999 ≤ a) (h2 : a ≤ 999999) (h3 : -999999 ≤ b) (h4 : b ≤ 999999) : -999998000001 ≤ a * b ∧ a * b ≤ 999998000001 := by
  have ha : a.natAbs ≤ 999999 := by omega
  have hb : b.natAbs ≤ 999999 := by omega
  have := Nat.mul_le_mul ha hb
  have e := Int.natAbs_mul a b
  omega
theorem Fr.Ok.mul_n {a b : Fr} (ha : a.Ok) (hb : b.Ok) : -999998000001 ≤ a.n * b.n ∧ a.n * b.n ≤ 999998000001 := mul_bound ha.2.2.1 ha.2.2.2.1 hb.2.2.1 hb.2.2.2.1
theorem Fr.Ok.mul_nd {a b : Fr} (ha : a.Ok) (hb : b.Ok) : -999998000001 ≤ a.n * b.d ∧ a.n * b.d ≤ 999998000001 := mul_bound ha.2.2.1 ha.2.2.2.1 (by have := hb.1; omega) hb.2.1
theorem Fr.Ok.mul_d {a b : Fr} (ha : a.Ok) (hb : b.Ok) : 0 < a.d * b.d ∧ a.d * b.d ≤ 999998000001 := ⟨mul_pos' ha.1 hb.1, (mul_bound (by have := ha.1; omega) ha.2.1 (by have := hb.1; omega) hb.2.1).2⟩

/-! ### Numbers -/
def addN (x y : Num) : Num := ⟨plF x.re y.re, plF x.im y.im⟩
def addB (x y : Num) : Bool := plB x.re y.re || plB x.im y.im
def Num.neg (x : Num) : Num := ⟨x.re.neg, x.im.neg⟩
def Num.conj (x : Num) : Num := ⟨x.re, x.im.neg⟩
def subN (x y : Num) : Num := addN x y.neg
def subB (x y : Num) : Bool := addB x y.neg
def mulN (x y : Num) : Num := ⟨plF (tmF x.re y.re) (tmF x.im y.im).neg, plF (tmF x.re y.im) (tmF x.im y.re)⟩
def mulB (x y : Num) : Bool := tmB x.re y.re || tmB x.im y.im || plB (tmF x.re y.re) (tmF x.im y.im).neg || tmB x.re y.im || tmB x.im y.re || plB (tmF x.re y.im) (tmF x.im y.re)
def sqF (y : Num) : Fr := plF (tmF y.re y.re) (tmF y.im y.im)
def sqB (y : Num) : Bool := tmB y.re y.re || tmB y.im y.im || plB (tmF y.re y.re) (tmF y.im y.im)
def Fr.inv (f : Fr) : Fr := ⟨f.d, f.n⟩
def dvRe (x y : Num) : Fr := plF (tmF x.re y.re) (tmF x.im y.im)
def dvIm (x y : Num) : Fr := plF (tmF x.im y.re) (tmF x.re y.im).neg
def divN (x y : Num) : Num := ⟨tmF (dvRe x y) (sqF y).inv, tmF (dvIm x y) (sqF y).inv⟩
def divB (x y : Num) : Bool :=
  tmB x.re y.re || tmB x.im y.im || plB (tmF x.re y.re) (tmF x.im y.im) || tmB (dvRe x y) (sqF y).inv ||
  tmB x.im y.re || tmB x.re y.im || plB (tmF x.im y.re) (tmF x.re y.im).neg || tmB (dvIm x y) (sqF y).inv
def Num.zero (x : Num) : Bool := x.re.n == 0 && x.im.n == 0

theorem addN_ok {x y : Num} (hx : x.Ok) (hy : y.Ok) : (addN x y).Ok := ⟨plF_ok hx.1 hy.1, plF_ok hx.2 hy.2⟩
theorem Num.Ok.neg {x : Num} (hx : x.Ok) : x.neg.Ok := ⟨hx.1.neg, hx.2.neg⟩
theorem Num.Ok.conj {x : Num} (hx : x.Ok) : x.conj.Ok := ⟨hx.1, hx.2.neg⟩
theorem mulN_ok {x y : Num} (hx : x.Ok) (hy : y.Ok) : (mulN x y).Ok := ⟨plF_ok (tmF_ok hx.1 hy.1) (tmF_ok hx.2 hy.2).neg, plF_ok (tmF_ok hx.1 hy.2) (tmF_ok hx.2 hy.1)⟩
/-- Of a fraction in lowest terms the same one comes. -/
theorem low_of_ok {n d : Int} (h : Nat.gcd n.natAbs d.natAbs = 1) : lowP n d = ⟨n, d⟩ := by
  unfold lowP gcdP
  rw [h]
  simp
theorem mk_of_ok {f : Fr} (h : f.Ok) : mkF f.n f.d = f ∧ mkB f.n f.d = false := by
  obtain ⟨a, b, c, d, e⟩ := h
  have hb : mkB f.n f.d = false := by
    unfold mkB
    rw [low_of_ok e]
    unfold Fr.big
    simp
    omega
  refine ⟨?_, hb⟩
  unfold mkF
  rw [hb, low_of_ok e]
  rfl
theorem mk_of_inv {f : Fr} (h : f.Ok) (hp : 0 < f.n) : mkF f.d f.n = f.inv ∧ mkB f.d f.n = false ∧ f.inv.Ok := by
  obtain ⟨a, b, c, d, e⟩ := h
  have e' : Nat.gcd f.d.natAbs f.n.natAbs = 1 := by rw [Nat.gcd_comm]; exact e
  have hok : f.inv.Ok := ⟨hp, d, by show -999999 ≤ f.d; omega, b, e'⟩
  have := mk_of_ok hok
  exact ⟨this.1, this.2, hok⟩

/-- A sum of squares that was not too big is above 0. -/
theorem mkF_of_not {n d : Int} (hb : mkB n d = false) : mkF n d = lowP n d := by
  unfold mkF
  rw [hb]
  rfl
theorem low_n_nonneg {n d : Int} (hd : 0 < d) (hn : 0 ≤ n) : 0 ≤ (lowP n d).n := Int.ediv_nonneg hn (Int.le_of_lt (gcdP_pos hd))
theorem low_n_pos {n d : Int} (hd : 0 < d) (hn : 0 < n) : 0 < (lowP n d).n := by
  have h1 := low_mul_n n d
  have h2 := low_n_nonneg hd (Int.le_of_lt hn)
  rcases Int.lt_or_le 0 (lowP n d).n with h | h
  · exact h
  · have : (lowP n d).n = 0 := by omega
    rw [this] at h1
    omega
theorem sq_nonneg' (a : Int) : 0 ≤ a * a := by
  have := Int.natAbs_mul_self (a := a)
  omega
theorem sq_pos' {a : Int} (h : a ≠ 0) : 0 < a * a := by
  have h1 := Int.natAbs_mul_self (a := a)
  have h2 : 0 < a.natAbs := by omega
  have := Nat.mul_pos h2 h2
  omega
theorem tm_sq_nonneg {f : Fr} (hf : f.Ok) : 0 ≤ (tmF f f).n := by
  unfold tmF mkF
  split
  · exact Int.le_refl _
  · exact low_n_nonneg (mul_pos' hf.1 hf.1) (sq_nonneg' _)
theorem tm_sq_pos {f : Fr} (hf : f.Ok) (h0 : f.n ≠ 0) (hb : tmB f f = false) : 0 < (tmF f f).n := by
  unfold tmF
  rw [mkF_of_not hb]
  exact low_n_pos (mul_pos' hf.1 hf.1) (sq_pos' h0)
theorem sq_pos {y : Num} (hy : y.Ok) (hz : y.zero = false) (hb : sqB y = false) : 0 < (sqF y).n := by
  unfold sqB at hb
  simp only [Bool.or_eq_false_iff] at hb
  obtain ⟨⟨b1, b2⟩, b3⟩ := hb
  unfold sqF plF
  rw [mkF_of_not b3]
  have o1 := tmF_ok hy.1 hy.1
  have o2 := tmF_ok hy.2 hy.2
  refine low_n_pos (mul_pos' o1.1 o2.1) ?_
  have n1 := tm_sq_nonneg hy.1
  have n2 := tm_sq_nonneg hy.2
  have m1 := Int.mul_nonneg n1 (Int.le_of_lt o2.1)
  have m2 := Int.mul_nonneg n2 (Int.le_of_lt o1.1)
  unfold Num.zero at hz
  by_cases h : y.re.n = 0
  · have h2 : y.im.n ≠ 0 := by
      intro h2
      rw [h, h2] at hz
      revert hz; decide
    have := mul_pos' (tm_sq_pos hy.2 h2 b2) o1.1
    omega
  · have := mul_pos' (tm_sq_pos hy.1 h b1) o2.1
    omega
theorem divN_ok {x y : Num} (hx : x.Ok) (hy : y.Ok) (hz : y.zero = false) (hb : sqB y = false) : (divN x y).Ok := by
  have hi := (mk_of_inv (plF_ok (tmF_ok hy.1 hy.1) (tmF_ok hy.2 hy.2)) (sq_pos hy hz hb)).2.2
  exact ⟨tmF_ok (plF_ok (tmF_ok hx.1 hy.1) (tmF_ok hx.2 hy.2)) hi, tmF_ok (plF_ok (tmF_ok hx.2 hy.1) (tmF_ok hx.1 hy.2).neg) hi⟩

/-- One operation: its sign, and what it is made on; the error. -/
inductive Got where
  | ok (x : Num)
  | err (e : Int)
def bigOr (b : Bool) (x : Num) : Got := if b then .err 5 else .ok x
def opP (op : Int) (x y : Num) : Got :=
  if op = 43 then bigOr (addB x y) (addN x y)
  else if op = 8722 then bigOr (subB x y) (subN x y)
  else if op = 215 then bigOr (mulB x y) (mulN x y)
  else if op = 247 then (if y.zero then .err 4 else bigOr (sqB y || divB x y) (divN x y))
  else if op = 178 then bigOr (mulB x x) (mulN x x)
  else if op = 110 then .ok x.neg
  else .ok x.conj

/-- What a tree comes to: a number, or an error with its place. -/
inductive Ans where
  | ok (x : Num)
  | err (e : Int) (p : Nat)
def Got.at (g : Got) (p : Nat) : Ans := match g with | .ok x => .ok x | .err e => .err e p
def numeN (l : List Int) : Num := ⟨lowP (numVal l).1 (numVal l).2, ⟨0, 1⟩⟩
/-- The names' numbers (those that are there). -/
abbrev Env := Int → Option Num
def leafN (env : Env) (c : Int) : Num := if c = 105 then ⟨⟨0, 1⟩, ⟨1, 1⟩⟩ else (env c).getD ⟨⟨0, 1⟩, ⟨0, 1⟩⟩
def evT (env : Env) : Ex → Ans
  | .num l _ => .ok (numeN l)
  | .leaf c _ => .ok (leafN env c)
  | .un c p e => match evT env e with
    | .ok x => (opP c x x).at p
    | .err q r => .err q r
  | .bin c p l r => match evT env l with
    | .err q s => .err q s
    | .ok x => match evT env r with
      | .err q s => .err q s
      | .ok y => (opP c x y).at p
/-- The first name that is not there. -/
def missT (env : Env) : Ex → Option Nat
  | .num _ _ => none
  | .leaf c p => if c = 105 ∨ (env c).isSome then none else some p
  | .un _ _ e => missT env e
  | .bin _ _ l r => match missT env l with
    | some p => some p
    | none => missT env r
/-- P5, of a tree. -/
def valT (env : Env) (e : Ex) : Ans := match missT env e with
  | some p => .err 3 p
  | none => evT env e
end Go.Proofs.YtodabmkcihafhaaGreatDoor

/- The document's 'at'. -/
namespace Go.Proofs.YtodabmkcihafhaaGreatDoor
open Go.RowKit
set_option linter.unusedVariables false

theorem and192 (n : Nat) (h : n < 256) : (bits BinOp.and IntKind.u8 (n : Int) 192 == 128) = decide (n / 64 = 2) := by
  have : ∀ m : Fin 256, (bits BinOp.and IntKind.u8 ((m.val : Nat) : Int) 192 == 128) = decide (m.val / 64 = 2) := by decide +kernel
  exact this ⟨n, h⟩
theorem and63 (n : Nat) (h : n < 256) : bits BinOp.and IntKind.u8 (n : Int) 63 = ((n % 64 : Nat) : Int) := by
  have : ∀ m : Fin 256, bits BinOp.and IntKind.u8 ((m.val : Nat) : Int) 63 = ((m.val % 64 : Nat) : Int) := by decide +kernel
  exact this ⟨n, h⟩
theorem and31 (n : Nat) (h : n < 256) : bits BinOp.and IntKind.i64 (n : Int) 31 = ((n % 32 : Nat) : Int) := by
  have : ∀ m : Fin 256, bits BinOp.and IntKind.i64 ((m.val : Nat) : Int) 31 = ((m.val % 32 : Nat) : Int) := by decide +kernel
  exact this ⟨n, h⟩
theorem and15 (n : Nat) (h : n < 256) : bits BinOp.and IntKind.i64 (n : Int) 15 = ((n % 16 : Nat) : Int) := by
  have : ∀ m : Fin 256, bits BinOp.and IntKind.i64 ((m.val : Nat) : Int) 15 = ((m.val % 16 : Nat) : Int) := by decide +kernel
  exact this ⟨n, h⟩
theorem wrapN (n : Nat) (h : n < 1000000) : wrap64 (n : Int) = n := by
  unfold wrap64; omega


set_option maxHeartbeats 2000000 in
set_option maxRecDepth 100000 in
theorem at_one (s : ByteArray) (k : Nat) (w : World) (hs : s.size ≤ 120) (hlt : k < s.size) (h1 : bt s k < 128) :
    Calls Tryz.prog 112 #[.string s, .int .i64 k] w fun e w' => e = .returned (.tuple #[.int .i64 (bt s k : Nat), .int .i64 1]) ∧ ∃ n, w' = w.drewN n := by
  have b0 := bt_lt s k
  have g0 := bt_get s k
  have wN := wrapN (bt s k) (by omega)
  go_enter Tryz.func112, Tryz.ntmps112
  go_wp2
  go_ret2
  exact ⟨rfl, 0, rfl⟩

set_option maxHeartbeats 2000000 in
set_option maxRecDepth 100000 in
theorem at_two (s : ByteArray) (k : Nat) (w : World) (hs : s.size ≤ 120) (hlt : k < s.size) (h1 : 194 ≤ bt s k) (h2 : bt s k ≤ 223) (h3 : k + 1 < s.size) (h4 : bt s (k + 1) / 64 = 2) :
    Calls Tryz.prog 112 #[.string s, .int .i64 k] w fun e w' => e = .returned (.tuple #[.int .i64 ((bt s k % 32 * 64 + bt s (k + 1) % 64 : Nat) : Int), .int .i64 2]) ∧ ∃ n, w' = w.drewN n := by
  have b0 := bt_lt s k
  have g0 := bt_get s k
  have wN := wrapN (bt s k) (by omega)
  have b1 := bt_lt s (k + 1)
  have g1 := bt_get s (k + 1)
  have a1 := and192 (bt s (k + 1)) (by omega)
  have m1 := and63 (bt s (k + 1)) (by omega)
  have m0 := and31 (bt s k) (by omega)
  have n1 := wrapN (bt s (k + 1) % 64) (by omega)
  go_enter Tryz.func112, Tryz.ntmps112
  go_wp2
  go_ret2
  refine ⟨?_, 0, rfl⟩
  congr 5

set_option maxHeartbeats 2000000 in
set_option maxRecDepth 100000 in
theorem at_none0 (s : ByteArray) (k : Nat) (w : World) (hs : s.size ≤ 120) (hlt : k < s.size) (h0 : 128 ≤ bt s k) (h1 : bt s k < 194 ∨ 223 < bt s k) (h2 : ¬ bt s k = 226) :
    Calls Tryz.prog 112 #[.string s, .int .i64 k] w fun e w' => e = .returned (.tuple #[.int .i64 0, .int .i64 0]) ∧ ∃ n, w' = w.drewN n := by
  have b0 := bt_lt s k
  have g0 := bt_get s k
  have wN := wrapN (bt s k) (by omega)
  go_enter Tryz.func112, Tryz.ntmps112
  rcases h1 with h1 | h1
  all_goals
    go_wp2
    go_ret2
    exact ⟨rfl, 0, rfl⟩

set_option maxHeartbeats 2000000 in
set_option maxRecDepth 100000 in
theorem at_none1 (s : ByteArray) (k : Nat) (w : World) (hs : s.size ≤ 120) (hlt : k < s.size) (h0 : 194 ≤ bt s k) (h1 : bt s k ≤ 223) (h2 : s.size ≤ k + 1) :
    Calls Tryz.prog 112 #[.string s, .int .i64 k] w fun e w' => e = .returned (.tuple #[.int .i64 0, .int .i64 0]) ∧ ∃ n, w' = w.drewN n := by
  have b0 := bt_lt s k
  have g0 := bt_get s k
  have wN := wrapN (bt s k) (by omega)
  go_enter Tryz.func112, Tryz.ntmps112
  go_wp2
  go_ret2
  exact ⟨rfl, 0, rfl⟩

set_option maxHeartbeats 2000000 in
set_option maxRecDepth 100000 in
theorem at_none2 (s : ByteArray) (k : Nat) (w : World) (hs : s.size ≤ 120) (hlt : k < s.size) (h0 : 194 ≤ bt s k) (h1 : bt s k ≤ 223) (h2 : k + 1 < s.size) (h3 : ¬ bt s (k + 1) / 64 = 2) :
    Calls Tryz.prog 112 #[.string s, .int .i64 k] w fun e w' => e = .returned (.tuple #[.int .i64 0, .int .i64 0]) ∧ ∃ n, w' = w.drewN n := by
  have b0 := bt_lt s k
  have g0 := bt_get s k
  have wN := wrapN (bt s k) (by omega)
  have b1 := bt_lt s (k + 1)
  have g1 := bt_get s (k + 1)
  have a1 := and192 (bt s (k + 1)) (by omega)
  go_enter Tryz.func112, Tryz.ntmps112
  go_wp2
  go_ret2
  exact ⟨rfl, 0, rfl⟩

set_option maxHeartbeats 2000000 in
set_option maxRecDepth 100000 in
theorem at_none3 (s : ByteArray) (k : Nat) (w : World) (hs : s.size ≤ 120) (hlt : k < s.size) (h0 : bt s k = 226) (h1 : s.size ≤ k + 2) :
    Calls Tryz.prog 112 #[.string s, .int .i64 k] w fun e w' => e = .returned (.tuple #[.int .i64 0, .int .i64 0]) ∧ ∃ n, w' = w.drewN n := by
  have g0 : ∀ h : k < s.size, (s[k]'h).toNat = 226 := fun h => (bt_get s k h).trans h0
  clear h0
  have wN : wrap64 226 = 226 := by decide +kernel
  have z1 : ¬ (226 : Int) ≤ 223 := by decide
  go_enter Tryz.func112, Tryz.ntmps112
  go_wp2
  go_ret2
  exact ⟨rfl, 0, rfl⟩

set_option maxHeartbeats 2000000 in
set_option maxRecDepth 100000 in
theorem at_none4 (s : ByteArray) (k : Nat) (w : World) (hs : s.size ≤ 120) (hlt : k < s.size) (h0 : bt s k = 226) (h1 : k + 2 < s.size) (q1 : ¬ bt s (k + 1) / 64 = 2) :
    Calls Tryz.prog 112 #[.string s, .int .i64 k] w fun e w' => e = .returned (.tuple #[.int .i64 0, .int .i64 0]) ∧ ∃ n, w' = w.drewN n := by
  have g0 : ∀ h : k < s.size, (s[k]'h).toNat = 226 := fun h => (bt_get s k h).trans h0
  clear h0
  have wN : wrap64 226 = 226 := by decide +kernel
  have z1 : ¬ (226 : Int) ≤ 223 := by decide
  have b1 := bt_lt s (k + 1)
  have g1 := bt_get s (k + 1)
  have a1 : (bits BinOp.and IntKind.u8 (bt s (k + 1)) 192 == 128) = false := (and192 (bt s (k + 1)) (by omega)).trans (by simp [q1])
  clear q1
  go_enter Tryz.func112, Tryz.ntmps112
  go_wp2
  go_ret2
  exact ⟨rfl, 0, rfl⟩

set_option maxHeartbeats 2000000 in
set_option maxRecDepth 100000 in
theorem at_none5 (s : ByteArray) (k : Nat) (w : World) (hs : s.size ≤ 120) (hlt : k < s.size) (h0 : bt s k = 226) (h1 : k + 2 < s.size) (q1 : bt s (k + 1) / 64 = 2) (q2 : ¬ bt s (k + 2) / 64 = 2) :
    Calls Tryz.prog 112 #[.string s, .int .i64 k] w fun e w' => e = .returned (.tuple #[.int .i64 0, .int .i64 0]) ∧ ∃ n, w' = w.drewN n := by
  have g0 : ∀ h : k < s.size, (s[k]'h).toNat = 226 := fun h => (bt_get s k h).trans h0
  clear h0
  have wN : wrap64 226 = 226 := by decide +kernel
  have z1 : ¬ (226 : Int) ≤ 223 := by decide
  have b1 := bt_lt s (k + 1)
  have g1 := bt_get s (k + 1)
  have a1 : (bits BinOp.and IntKind.u8 (bt s (k + 1)) 192 == 128) = true := (and192 (bt s (k + 1)) (by omega)).trans (by simp [q1])
  clear q1
  have b2 := bt_lt s (k + 2)
  have g2 := bt_get s (k + 2)
  have a2 : (bits BinOp.and IntKind.u8 (bt s (k + 2)) 192 == 128) = false := (and192 (bt s (k + 2)) (by omega)).trans (by simp [q2])
  clear q2
  go_enter Tryz.func112, Tryz.ntmps112
  go_wp2
  go_ret2
  exact ⟨rfl, 0, rfl⟩

theorem ret2 {a b c d : Int} (h : a = b) (h2 : c = d) : Ending.returned (.tuple #[.int .i64 a, .int .i64 c]) = .returned (.tuple #[.int .i64 b, .int .i64 d]) := by rw [h, h2]
theorem at3_num (x y : Nat) (hx : x < 64) (hy : y < 64) : wrap64 (wrap64 (wrap64 (2 * 4096) + wrap64 ((x : Int) * 64)) + wrap64 (y : Int)) = ((8192 + x * 64 + y : Nat) : Int) := by
  unfold wrap64; omega

set_option maxHeartbeats 2000000 in
set_option maxRecDepth 100000 in
theorem at_three (s : ByteArray) (k : Nat) (w : World) (hs : s.size ≤ 120) (hlt : k < s.size) (h0 : bt s k = 226) (h1 : k + 2 < s.size) (q1 : bt s (k + 1) / 64 = 2) (q2 : bt s (k + 2) / 64 = 2) :
    Calls Tryz.prog 112 #[.string s, .int .i64 k] w fun e w' => e = .returned (.tuple #[.int .i64 ((8192 + bt s (k + 1) % 64 * 64 + bt s (k + 2) % 64 : Nat) : Int), .int .i64 3]) ∧ ∃ n, w' = w.drewN n := by
  have g0 : ∀ h : k < s.size, (s[k]'h).toNat = 226 := fun h => (bt_get s k h).trans h0
  clear h0
  have wN : wrap64 226 = 226 := by decide +kernel
  have z1 : ¬ (226 : Int) ≤ 223 := by decide
  have b1 := bt_lt s (k + 1)
  have g1 := bt_get s (k + 1)
  have a1 : (bits BinOp.and IntKind.u8 (bt s (k + 1)) 192 == 128) = true := (and192 (bt s (k + 1)) (by omega)).trans (by simp [q1])
  clear q1
  have b2 := bt_lt s (k + 2)
  have g2 := bt_get s (k + 2)
  have a2 : (bits BinOp.and IntKind.u8 (bt s (k + 2)) 192 == 128) = true := (and192 (bt s (k + 2)) (by omega)).trans (by simp [q2])
  clear q2
  have m1 := and63 (bt s (k + 1)) (by omega)
  have m2 := and63 (bt s (k + 2)) (by omega)
  have l1 : bt s (k + 1) % 64 < 64 := by omega
  have l2 : bt s (k + 2) % 64 < 64 := by omega
  generalize bt s (k + 1) % 64 = x at *
  generalize bt s (k + 2) % 64 = y at *
  have m0 : bits BinOp.and IntKind.i64 226 15 = 2 := by decide +kernel
  go_enter Tryz.func112, Tryz.ntmps112
  go_wp2
  go_quiet (fail)
  go_wp2
  go_ret2
  refine ⟨ret2 ?_ rfl, nq, rfl⟩
  simp

theorem at_any (s : ByteArray) (k : Nat) (w : World) (hs : s.size ≤ 120) (hk : k ≤ s.size) :
    Calls Tryz.prog 112 #[.string s, .int .i64 k] w fun e w' => e = .returned (.tuple #[.int .i64 (atP s k).1, .int .i64 (atP s k).2]) ∧ ∃ n, w' = w.drewN n := by
  by_cases hlt : k < s.size
  · by_cases h1 : bt s k < 128
    · rw [show atP s k = (bt s k, 1) by simp [atP, h1] <;> omega]
      exact at_one s k w hs hlt h1
    · by_cases h2 : 194 ≤ bt s k ∧ bt s k ≤ 223
      · by_cases h3 : k + 1 < s.size
        · by_cases h4 : bt s (k + 1) / 64 = 2
          · rw [show atP s k = (bt s k % 32 * 64 + bt s (k + 1) % 64, 2) by simp [atP, h1, h2, h3, h4] <;> omega]
            exact at_two s k w hs hlt h2.1 h2.2 h3 h4
          · rw [show atP s k = (0, 0) by simp [atP, h1, h4] <;> omega]
            exact at_none2 s k w hs hlt h2.1 h2.2 h3 h4
        · rw [show atP s k = (0, 0) by simp [atP, h1, h3] <;> omega]
          exact at_none1 s k w hs hlt h2.1 h2.2 (by omega)
      · by_cases h0 : bt s k = 226
        · by_cases h3 : k + 2 < s.size
          · by_cases h4 : bt s (k + 1) / 64 = 2
            · by_cases h5 : bt s (k + 2) / 64 = 2
              · rw [show atP s k = (8192 + bt s (k + 1) % 64 * 64 + bt s (k + 2) % 64, 3) by simp [atP, h0, h3, h4, h5] <;> omega]
                exact at_three s k w hs hlt h0 h3 h4 h5
              · rw [show atP s k = (0, 0) by simp [atP, h0, h5]]
                exact at_none5 s k w hs hlt h0 h3 h4 h5
            · rw [show atP s k = (0, 0) by simp [atP, h0, h4]]
              exact at_none4 s k w hs hlt h0 h3 h4
          · rw [show atP s k = (0, 0) by simp [atP, h0, h3]]
            exact at_none3 s k w hs hlt h0 (by omega)
        · rw [show atP s k = (0, 0) by unfold atP; repeat (rw [if_neg (by omega)])]
          exact at_none0 s k w hs hlt (by omega) (by omega) h0
  · rw [show atP s k = (0, 0) by simp [atP] <;> omega]
    go_enter Tryz.func112, Tryz.ntmps112
    go_wp2
    go_ret2
    exact ⟨rfl, 0, rfl⟩
theorem atP_le (s : ByteArray) (k : Nat) : (atP s k).2 ≤ 3 ∧ (k ≤ s.size → k + (atP s k).2 ≤ s.size) ∧ (atP s k).1 < 20000 := by
  have b0 := bt_lt s k
  unfold atP
  repeat' split
  all_goals simp
  all_goals omega
end Go.Proofs.YtodabmkcihafhaaGreatDoor
