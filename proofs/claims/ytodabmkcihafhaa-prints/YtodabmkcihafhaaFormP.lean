/- Plain laws: the one form of a list of nodes, and how long it is. -/
import Derived.Test.YtodabmkcihafhaaPos
namespace Go.Proofs.Ytodabmkcihafhaa

def isBin (op : Int) : Bool := op == 43 || op == 8722 || op == 215 || op == 247
def isUn (op : Int) : Bool := op == 110 || op == 178 || op == 8242
def rankP (op : Int) : Nat := if op = 43 ∨ op = 8722 then 0 else if op = 215 ∨ op = 247 then 1 else if op = 110 then 2 else 3
def opAt (L : List Nd) (k : Nat) : Int := match L[k]? with | some n => n.op | none => 0
/-- In brackets, if the rank is below what is asked. -/
def brk (r least : Nat) (t : ByteArray) : ByteArray := if r < least then ⟨#[40]⟩ ++ t ++ ⟨#[41]⟩ else t

def formF : Nat → List Nd → Nat → ByteArray
  | 0, _, _ => ByteArray.empty
  | f + 1, L, k =>
    match L[k]? with
    | none => ByteArray.empty
    | some n =>
      if n.op = 43 ∨ n.op = 8722 then brk (rankP (opAt L n.a)) 0 (formF f L n.a) ++ Utf8.encode n.op ++ brk (rankP (opAt L n.b)) 1 (formF f L n.b)
      else if n.op = 215 ∨ n.op = 247 then brk (rankP (opAt L n.a)) 1 (formF f L n.a) ++ Utf8.encode n.op ++ brk (rankP (opAt L n.b)) 2 (formF f L n.b)
      else if n.op = 110 then Utf8.encode 8722 ++ brk (rankP (opAt L n.a)) 2 (formF f L n.a)
      else if n.op = 178 ∨ n.op = 8242 then brk (rankP (opAt L n.a)) 3 (formF f L n.a) ++ Utf8.encode n.op
      else if n.op = 48 then n.text
      else Utf8.encode n.op

/-- What a node stands on lies ahead of it. -/
def WfN (k : Nat) (n : Nd) : Prop := 0 ≤ n.op ∧ n.op < 55296 ∧ (isBin n.op = true → n.a < k ∧ n.b < k) ∧ (isUn n.op = true → n.a < k)
def WfL (L : List Nd) : Prop := ∀ k n, L[k]? = some n → WfN k n

theorem WfL.snoc {L : List Nd} (h : WfL L) {n : Nd} (hn : WfN L.length n) : WfL (L ++ [n]) := by
  intro k m hm
  rw [List.getElem?_append] at hm
  split at hm
  · exact h k m hm
  · rename_i hk
    rcases Nat.lt_or_ge (k - L.length) 1 with h1 | h1
    · have : k = L.length := by omega
      subst this
      simp at hm
      subst hm
      exact hn
    · rw [List.getElem?_eq_none (by simpa using h1)] at hm; cases hm
theorem wf_bin {op : Int} {k a b : Nat} {num den : Int} {t : ByteArray} {pl : Nat} (h0 : 0 ≤ op) (h1 : op < 55296) (ha : a < k) (hb : b < k) : WfN k ⟨op, a, b, num, den, t, pl⟩ := ⟨h0, h1, fun _ => ⟨ha, hb⟩, fun _ => ha⟩
theorem wf_un {op : Int} {k a b : Nat} {num den : Int} {t : ByteArray} {pl : Nat} (h0 : 0 ≤ op) (h1 : op < 55296) (hnb : isBin op = false) (ha : a < k) : WfN k ⟨op, a, b, num, den, t, pl⟩ := ⟨h0, h1, fun h => (by rw [show isBin op = true from h] at hnb; cases hnb), fun _ => ha⟩
theorem wf_leaf {op : Int} {k a b : Nat} {num den : Int} {t : ByteArray} {pl : Nat} (h0 : 0 ≤ op) (h1 : op < 55296) (hnb : isBin op = false) (hnu : isUn op = false) : WfN k ⟨op, a, b, num, den, t, pl⟩ := ⟨h0, h1, fun h => (by rw [show isBin op = true from h] at hnb; cases hnb), fun h => (by rw [show isUn op = true from h] at hnu; cases hnu)⟩

/-- One step of the form, the sub-forms under names. -/
def nodeF (n : Nd) (ra rb : Nat) (fa fb : ByteArray) : ByteArray :=
  if n.op = 43 ∨ n.op = 8722 then brk ra 0 fa ++ Utf8.encode n.op ++ brk rb 1 fb
  else if n.op = 215 ∨ n.op = 247 then brk ra 1 fa ++ Utf8.encode n.op ++ brk rb 2 fb
  else if n.op = 110 then Utf8.encode 8722 ++ brk ra 2 fa
  else if n.op = 178 ∨ n.op = 8242 then brk ra 3 fa ++ Utf8.encode n.op
  else if n.op = 48 then n.text
  else Utf8.encode n.op
theorem formF_succ (f : Nat) (L : List Nd) (k : Nat) (n : Nd) (h : L[k]? = some n) : formF (f + 1) L k = nodeF n (rankP (opAt L n.a)) (rankP (opAt L n.b)) (formF f L n.a) (formF f L n.b) := by
  simp only [formF, h]
  rfl
theorem nodeF_congr (n : Nd) {k ra rb ra' rb' : Nat} {fa fb fa' fb' : ByteArray} (hw : WfN k n) (ha : n.a < k → ra = ra' ∧ fa = fa') (hb : n.b < k → rb = rb' ∧ fb = fb') : nodeF n ra rb fa fb = nodeF n ra' rb' fa' fb' := by
  obtain ⟨_, _, h1, h2⟩ := hw
  unfold nodeF
  by_cases c1 : n.op = 43 ∨ n.op = 8722
  · have hb1 : isBin n.op = true := by unfold isBin; rcases c1 with e | e <;> simp [e]
    obtain ⟨q1, q2⟩ := h1 hb1
    obtain ⟨rfl, rfl⟩ := ha q1
    obtain ⟨rfl, rfl⟩ := hb q2
    rfl
  · rw [if_neg c1, if_neg c1]
    by_cases c2 : n.op = 215 ∨ n.op = 247
    · have hb1 : isBin n.op = true := by unfold isBin; rcases c2 with e | e <;> simp [e]
      obtain ⟨q1, q2⟩ := h1 hb1
      obtain ⟨rfl, rfl⟩ := ha q1
      obtain ⟨rfl, rfl⟩ := hb q2
      rfl
    · rw [if_neg c2, if_neg c2]
      by_cases c3 : n.op = 110
      · have hu : isUn n.op = true := by unfold isUn; simp [c3]
        obtain ⟨rfl, rfl⟩ := ha (h2 hu)
        rfl
      · rw [if_neg c3, if_neg c3]
        by_cases c4 : n.op = 178 ∨ n.op = 8242
        · have hu : isUn n.op = true := by unfold isUn; rcases c4 with e | e <;> simp [e]
          obtain ⟨rfl, rfl⟩ := ha (h2 hu)
          rfl
        · rw [if_neg c4, if_neg c4]

theorem opAt_append (L M : List Nd) (k : Nat) (h : k < L.length) : opAt (L ++ M) k = opAt L k := by
  unfold opAt
  rw [List.getElem?_append_left h]
theorem formF_append : ∀ (f : Nat) (L M : List Nd) (k : Nat), WfL L → k < L.length → formF f (L ++ M) k = formF f L k := by
  intro f
  induction f with
  | zero => intro L M k _ _; rfl
  | succ f ih =>
    intro L M k hw hk
    obtain ⟨n, hn⟩ : ∃ n, L[k]? = some n := ⟨L[k], List.getElem?_eq_getElem hk⟩
    have hn2 : (L ++ M)[k]? = some n := by rw [List.getElem?_append_left hk]; exact hn
    rw [formF_succ f L k n hn, formF_succ f (L ++ M) k n hn2]
    refine nodeF_congr n (hw k n hn) (fun h => ⟨by rw [opAt_append L M _ (by omega)], ih L M _ hw (by omega)⟩) (fun h => ⟨by rw [opAt_append L M _ (by omega)], ih L M _ hw (by omega)⟩)
theorem formF_fuel : ∀ (f : Nat) (L : List Nd) (k : Nat), WfL L → k < L.length → k < f → formF (f + 1) L k = formF f L k := by
  intro f
  induction f with
  | zero => intro L k _ _ h; omega
  | succ f ih =>
    intro L k hw hk hf
    obtain ⟨n, hn⟩ : ∃ n, L[k]? = some n := ⟨L[k], List.getElem?_eq_getElem hk⟩
    rw [formF_succ (f + 1) L k n hn, formF_succ f L k n hn]
    exact nodeF_congr n (hw k n hn) (fun h => ⟨rfl, ih L _ hw (by omega) (by omega)⟩) (fun h => ⟨rfl, ih L _ hw (by omega) (by omega)⟩)
/-- The form of node k. -/
def fm (L : List Nd) (k : Nat) : ByteArray := formF (k + 1) L k
theorem formF_fm : ∀ (d : Nat) (L : List Nd) (k : Nat), WfL L → k < L.length → formF (k + 1 + d) L k = fm L k := by
  intro d
  induction d with
  | zero => intro L k _ _; rfl
  | succ d ih =>
    intro L k hw hk
    rw [← Nat.add_assoc, formF_fuel (k + 1 + d) L k hw hk (by omega)]
    exact ih L k hw hk
theorem fm_eq (L : List Nd) (k : Nat) (n : Nd) (hw : WfL L) (h : L[k]? = some n) : fm L k = nodeF n (rankP (opAt L n.a)) (rankP (opAt L n.b)) (fm L n.a) (fm L n.b) := by
  have hk : k < L.length := (List.getElem?_eq_some_iff.1 h).1
  unfold fm
  rw [formF_succ k L k n h]
  refine nodeF_congr n (hw k n h) (fun ha => ⟨rfl, ?_⟩) (fun hb => ⟨rfl, ?_⟩)
  · rw [show k = n.a + 1 + (k - n.a - 1) by omega]; exact formF_fm _ L n.a hw (by omega)
  · rw [show k = n.b + 1 + (k - n.b - 1) by omega]; exact formF_fm _ L n.b hw (by omega)
theorem fm_append (L M : List Nd) (k : Nat) (hw : WfL L) (hk : k < L.length) : fm (L ++ M) k = fm L k := formF_append _ L M k hw hk
theorem fm_last (L : List Nd) (n : Nd) (hw : WfL L) (hn : WfN L.length n) : fm (L ++ [n]) L.length = nodeF n (rankP (opAt L n.a)) (rankP (opAt L n.b)) (fm L n.a) (fm L n.b) := by
  have hg : (L ++ [n])[L.length]? = some n := by simp
  rw [fm_eq (L ++ [n]) L.length n (hw.snoc hn) hg]
  exact nodeF_congr n hn (fun ha => ⟨by rw [opAt_append _ _ _ ha], fm_append _ _ _ hw ha⟩) (fun hb => ⟨by rw [opAt_append _ _ _ hb], fm_append _ _ _ hw hb⟩)

/-! ### How long it is -/
theorem enc_size (c : Int) : (Utf8.encode c).size ≤ 4 := by
  unfold Utf8.encode
  simp only
  repeat' split
  all_goals simp [ByteArray.size]
theorem brk_size (r least : Nat) (t : ByteArray) : (brk r least t).size ≤ t.size + 2 := by
  unfold brk
  split
  · simp [ByteArray.size_append]
    have : (ByteArray.mk #[40]).size = 1 := rfl
    have : (ByteArray.mk #[41]).size = 1 := rfl
    omega
  · omega
theorem nodeF_bin (n : Nd) (ra rb : Nat) (fa fb : ByteArray) (h : isBin n.op = true) : (nodeF n ra rb fa fb).size ≤ fa.size + fb.size + 8 := by
  have e := enc_size n.op
  unfold nodeF
  unfold isBin at h
  simp at h
  split
  · have := brk_size ra 0 fa; have := brk_size rb 1 fb
    simp only [ByteArray.size_append]; omega
  · split
    · have := brk_size ra 1 fa; have := brk_size rb 2 fb
      simp only [ByteArray.size_append]; omega
    · omega
theorem nodeF_un (n : Nd) (ra rb : Nat) (fa fb : ByteArray) (h : isUn n.op = true) : (nodeF n ra rb fa fb).size ≤ fa.size + 6 := by
  have e := enc_size n.op
  have e' := enc_size 8722
  unfold isUn at h
  simp at h
  unfold nodeF
  rw [if_neg (by omega), if_neg (by omega)]
  split
  · have := brk_size ra 2 fa
    simp only [ByteArray.size_append]; omega
  · rw [if_pos (by omega)]
    have := brk_size ra 3 fa
    simp only [ByteArray.size_append]; omega
theorem nodeF_leaf (n : Nd) (ra rb : Nat) (fa fb : ByteArray) (h1 : isBin n.op = false) (h2 : isUn n.op = false) : nodeF n ra rb fa fb = if n.op = 48 then n.text else Utf8.encode n.op := by
  unfold isBin at h1
  unfold isUn at h2
  simp at h1 h2
  unfold nodeF
  rw [if_neg (by omega), if_neg (by omega), if_neg (by omega), if_neg (by omega)]

theorem encAll_size (l : List Int) : (encAll l).size ≤ 4 * l.length := by
  unfold encAll
  suffices ∀ (l : List Int) (a : ByteArray), (l.foldl (fun acc c => acc ++ Utf8.encode c) a).size ≤ a.size + 4 * l.length by
    have := this l ByteArray.empty
    simpa using this
  intro l
  induction l with
  | nil => intro a; simp
  | cons c r ih =>
    intro a
    have := ih (a ++ Utf8.encode c)
    have e := enc_size c
    simp only [List.foldl_cons, List.length_cons, ByteArray.size_append] at this ⊢
    omega
theorem digs_count : ∀ (n : Nat) (ts : List Tok), (digs n ts).1.length + (digs n ts).2.length ≤ ts.length := by
  intro n
  induction n with
  | zero => intro ts; simp [digs]
  | succ n ih =>
    intro ts
    simp only [digs]
    split
    · rename_i hd
      have h1 : 1 ≤ ts.length := by
        cases ts with
        | nil => revert hd; simp [jn, isDig]
        | cons t r => simp
      have := ih ts.tail
      simp at this ⊢
      omega
    · simp
theorem fracT_count (ts : List Tok) : (fracT ts).1.length + (fracT ts).2.length ≤ ts.length := by
  unfold fracT
  split
  · rename_i hd
    have h1 : 1 ≤ ts.length := by
      cases ts with
      | nil => revert hd; simp [jn, isFrac]
      | cons t r => simp
    simp; omega
  · simp
theorem numT_count (ts : List Tok) (h : hd ts ≠ -1) : (numT ts).1.length + (numT ts).2.length ≤ ts.length ∧ 1 ≤ (numT ts).1.length := by
  have h1 := ne_of_hd h
  unfold numT
  split
  · simp; omega
  · split
    · have := fracT_count ts.tail
      simp at this ⊢; omega
    · have := fracT_count (digs 2 ts.tail).2
      have h2 := digs_count 2 ts.tail
      simp at this h2 ⊢; omega

/-- What a reading that went well says of the nodes: they are well made, and the form of the root is short. -/
structure PSize (tag k : Nat) (ts : List Tok) (L : List Nd) (R : Res) : Prop where
  wf : WfL R.L
  sz : tag < 4 → (fm R.L R.k).size + 2 + 6 * R.ts.length ≤ 6 * ts.length
  szl : 4 ≤ tag → k < L.length → (fm R.L R.k).size + 6 * R.ts.length ≤ (fm L k).size + 6 * ts.length

theorem pp_size : ∀ (f tag k : Nat) (ts : List Tok) (L : List Nd), WfL L → (4 ≤ tag → k < L.length) → (pp f tag k ts L).ok = true → PSize tag k ts L (pp f tag k ts L) := by
  intro f
  induction f with
  | zero => intro tag k ts L _ _ h; simp [pp] at h
  | succ f ih =>
    intro tag k ts L hw hk
    have stop : ∀ tg, 4 ≤ tg → PSize tg k ts L ⟨true, k, L, ts⟩ := fun tg h4 => ⟨hw, fun h => by omega, fun _ _ => Nat.le_refl _⟩
    match tag with
    | 0 =>
      simp only [pp]
      split
      · rename_i ho
        intro h
        have i1 := ih 1 0 ts L hw (by omega) ho
        have v1 := pp_inv f 1 0 ts L
        have kk := v1.kk ho (Or.inl (by decide))
        have i2 := ih 4 _ _ _ i1.wf (fun _ => kk) h
        have a1 := i1.sz (by decide)
        have a2 := i2.szl (by decide) kk
        exact ⟨i2.wf, fun _ => by omega, fun h => by omega⟩
      · rename_i ho; intro h; exact absurd h ho
    | 1 =>
      simp only [pp]
      split
      · rename_i ho
        intro h
        have i1 := ih 2 0 ts L hw (by omega) ho
        have v1 := pp_inv f 2 0 ts L
        have kk := v1.kk ho (Or.inl (by decide))
        have i2 := ih 5 _ _ _ i1.wf (fun _ => kk) h
        have a1 := i1.sz (by decide)
        have a2 := i2.szl (by decide) kk
        exact ⟨i2.wf, fun _ => by omega, fun h => by omega⟩
      · rename_i ho; intro h; exact absurd h ho
    | 2 =>
      simp only [pp]
      split
      · rename_i hm
        have hn : 1 ≤ ts.length := ne_of_hd (by rw [hm]; decide)
        split
        · rename_i ho
          intro h
          have i1 := ih 2 0 ts.tail L hw (by omega) ho
          have v1 := pp_inv f 2 0 ts.tail L
          have kk := v1.kk ho (Or.inl (by decide))
          have a1 := i1.sz (by decide)
          have wn : WfN (pp f 2 0 ts.tail L).L.length (opNd 110 (pp f 2 0 ts.tail L).k 0 (hp ts)) := wf_un (by decide) (by decide) rfl kk
          refine ⟨i1.wf.snoc wn, fun _ => ?_, fun h => by omega⟩
          have b1 := fm_last _ _ i1.wf wn
          have b2 := nodeF_un (opNd 110 (pp f 2 0 ts.tail L).k 0 (hp ts)) (rankP (opAt (pp f 2 0 ts.tail L).L (pp f 2 0 ts.tail L).k)) (rankP (opAt (pp f 2 0 ts.tail L).L 0)) (fm (pp f 2 0 ts.tail L).L (pp f 2 0 ts.tail L).k) (fm (pp f 2 0 ts.tail L).L 0) rfl
          simp only [List.length_tail] at a1
          show (fm _ _).size + 2 + 6 * _ ≤ _
          simp only [b1]
          unfold opNd at b2 ⊢
          simp only at b2 ⊢
          omega
        · rename_i ho; intro h; exact absurd h ho
      · split
        · rename_i ho
          intro h
          have i1 := ih 3 0 ts L hw (by omega) ho
          have v1 := pp_inv f 3 0 ts L
          have kk := v1.kk ho (Or.inl (by decide))
          have i2 := ih 6 _ _ _ i1.wf (fun _ => kk) h
          have a1 := i1.sz (by decide)
          have a2 := i2.szl (by decide) kk
          exact ⟨i2.wf, fun _ => by omega, fun h => by omega⟩
        · rename_i ho; intro h; exact absurd h ho
    | 3 =>
      simp only [pp]
      split
      · rename_i hd1
        intro _
        have hn : hd ts ≠ -1 := by intro h; rw [h] at hd1; revert hd1; decide
        have cnt := numT_count ts hn
        have wn : WfN L.length (numNd ts) := wf_leaf (by decide) (by decide) rfl rfl
        refine ⟨hw.snoc wn, fun _ => ?_, fun h => by omega⟩
        have b1 := fm_last _ _ hw wn
        rw [nodeF_leaf _ _ _ _ _ rfl rfl] at b1
        have es := encAll_size (numT ts).1
        show (fm _ _).size + 2 + 6 * _ ≤ _
        simp only [b1]
        unfold numNd
        simp only [if_true]
        omega
      · split
        · rename_i hd1
          intro _
          have hr : (hd ts = 105 ∨ (945 ≤ hd ts ∧ hd ts ≤ 969)) := by
            rcases hd1 with h | h
            · exact Or.inl h
            · right; unfold isNm at h; simpa using h
          have hn : 1 ≤ ts.length := ne_of_hd (by omega)
          have hbn : isBin (hd ts) = false := by unfold isBin; simp; omega
          have hun : isUn (hd ts) = false := by unfold isUn; simp; omega
          have wn : WfN L.length (opNd (hd ts) 0 0 (hp ts)) := wf_leaf (by omega) (by omega) hbn hun
          refine ⟨hw.snoc wn, fun _ => ?_, fun h => by omega⟩
          have b1 := fm_last _ _ hw wn
          rw [nodeF_leaf _ _ _ _ _ hbn hun] at b1
          have es := enc_size (hd ts)
          show (fm _ _).size + 2 + 6 * _ ≤ _
          simp only [b1]
          unfold opNd
          simp only [List.length_tail]
          rw [if_neg (by omega)]
          omega
        · split
          · rename_i hd1
            have hn : 1 ≤ ts.length := ne_of_hd (by rw [hd1]; decide)
            split
            · rename_i ho
              have i1 := ih 0 0 ts.tail L hw (by omega) ho
              have a1 := i1.sz (by decide)
              simp only [List.length_tail] at a1
              split
              · intro _
                refine ⟨i1.wf, fun _ => ?_, fun h => by omega⟩
                simp only [List.length_tail]
                omega
              · intro h; cases h
            · rename_i ho; intro h; exact absurd h ho
          · intro h; cases h
    | 4 =>
      simp only [pp]
      split
      · rename_i hm
        have hr : hd ts = 43 ∨ hd ts = 8722 := by simpa [inRow] using hm
        have hn : 1 ≤ ts.length := ne_of_hd (by omega)
        split
        · rename_i ho
          intro h
          have i1 := ih 1 0 ts.tail L hw (by omega) ho
          have v1 := pp_inv f 1 0 ts.tail L
          have kk := v1.kk ho (Or.inl (by decide))
          obtain ⟨M, hM⟩ := v1.pre
          have a1 := i1.sz (by decide)
          have hb : isBin (hd ts) = true := by unfold isBin; rcases hr with e | e <;> simp [e]
          have hk' := hk (by decide)
          have hk2 : k < (pp f 1 0 ts.tail L).L.length := by rw [hM]; simp; omega
          have wn : WfN (pp f 1 0 ts.tail L).L.length (opNd (hd ts) k (pp f 1 0 ts.tail L).k (hp ts)) := wf_bin (by omega) (by omega) hk2 kk
          have i2 := ih 4 _ _ _ (i1.wf.snoc wn) (fun _ => by simp) h
          have a2 := i2.szl (by decide) (by simp)
          have b1 := fm_last _ _ i1.wf wn
          have b2 := nodeF_bin (opNd (hd ts) k (pp f 1 0 ts.tail L).k (hp ts)) (rankP (opAt (pp f 1 0 ts.tail L).L k)) (rankP (opAt (pp f 1 0 ts.tail L).L (pp f 1 0 ts.tail L).k)) (fm (pp f 1 0 ts.tail L).L k) (fm (pp f 1 0 ts.tail L).L (pp f 1 0 ts.tail L).k) hb
          have b3 : fm (pp f 1 0 ts.tail L).L k = fm L k := by rw [hM]; exact fm_append L M k hw hk'
          refine ⟨i2.wf, fun h => by omega, fun _ _ => ?_⟩
          rw [b1] at a2
          simp only [List.length_tail] at a1 a2 ⊢
          unfold opNd at b2 a2 ⊢
          simp only at b2 a2 ⊢
          rw [b3] at b2 a2
          omega
        · rename_i ho; intro h; exact absurd h ho
      · intro _; exact stop _ (by decide)
    | 5 =>
      simp only [pp]
      split
      · rename_i hm
        have hr : hd ts = 215 ∨ hd ts = 247 := by simpa [inRow] using hm
        have hn : 1 ≤ ts.length := ne_of_hd (by omega)
        split
        · rename_i ho
          intro h
          have i1 := ih 2 0 ts.tail L hw (by omega) ho
          have v1 := pp_inv f 2 0 ts.tail L
          have kk := v1.kk ho (Or.inl (by decide))
          obtain ⟨M, hM⟩ := v1.pre
          have a1 := i1.sz (by decide)
          have hb : isBin (hd ts) = true := by unfold isBin; rcases hr with e | e <;> simp [e]
          have hk' := hk (by decide)
          have hk2 : k < (pp f 2 0 ts.tail L).L.length := by rw [hM]; simp; omega
          have wn : WfN (pp f 2 0 ts.tail L).L.length (opNd (hd ts) k (pp f 2 0 ts.tail L).k (hp ts)) := wf_bin (by omega) (by omega) hk2 kk
          have i2 := ih 5 _ _ _ (i1.wf.snoc wn) (fun _ => by simp) h
          have a2 := i2.szl (by decide) (by simp)
          have b1 := fm_last _ _ i1.wf wn
          have b2 := nodeF_bin (opNd (hd ts) k (pp f 2 0 ts.tail L).k (hp ts)) (rankP (opAt (pp f 2 0 ts.tail L).L k)) (rankP (opAt (pp f 2 0 ts.tail L).L (pp f 2 0 ts.tail L).k)) (fm (pp f 2 0 ts.tail L).L k) (fm (pp f 2 0 ts.tail L).L (pp f 2 0 ts.tail L).k) hb
          have b3 : fm (pp f 2 0 ts.tail L).L k = fm L k := by rw [hM]; exact fm_append L M k hw hk'
          refine ⟨i2.wf, fun h => by omega, fun _ _ => ?_⟩
          rw [b1] at a2
          simp only [List.length_tail] at a1 a2 ⊢
          unfold opNd at b2 a2 ⊢
          simp only at b2 a2 ⊢
          rw [b3] at b2 a2
          omega
        · rename_i ho; intro h; exact absurd h ho
      · intro _; exact stop _ (by decide)
    | n + 6 =>
      simp only [pp]
      split
      · rename_i hm
        have hr : hd ts = 178 ∨ hd ts = 8242 := by simpa [isMk] using hm
        have hn : 1 ≤ ts.length := ne_of_hd (by omega)
        intro h
        have hk' := hk (by omega)
        have hu : isUn (hd ts) = true := by unfold isUn; rcases hr with e | e <;> simp [e]
        have hnb : isBin (hd ts) = false := by unfold isBin; rcases hr with e | e <;> simp [e]
        have wn : WfN L.length (opNd (hd ts) k 0 (hp ts)) := wf_un (by omega) (by omega) hnb hk'
        have i2 := ih 6 _ _ _ (hw.snoc wn) (fun _ => by simp) h
        have a2 := i2.szl (by decide) (by simp)
        have b1 := fm_last _ _ hw wn
        have b2 := nodeF_un (opNd (hd ts) k 0 (hp ts)) (rankP (opAt L k)) (rankP (opAt L 0)) (fm L k) (fm L 0) hu
        refine ⟨i2.wf, fun h => by omega, fun _ _ => ?_⟩
        rw [b1] at a2
        simp only [List.length_tail] at a2 ⊢
        unfold opNd at b2 a2 ⊢
        simp only at b2 a2 ⊢
        omega
      · intro _; exact stop _ (by omega)
end Go.Proofs.Ytodabmkcihafhaa
