import Derived.Test.YtodabmkcihafhaaGreatDoorB16
import Derived.Test.YtodabmkcihafhaaGreatDoorB10
import Derived.Test.YtodabmkcihafhaaGreatDoorB14
import Derived.Test.YtodabmkcihafhaaGreatDoorB11

/- Plain: the reading of signs within others; how much fuel it wants. -/
namespace Go.Proofs.YtodabmkcihafhaaGreatDoor
set_option linter.unusedVariables false

def Ex.shift (k : Nat) : Ex → Ex
  | .num l p => .num l (p + k)
  | .leaf c p => .leaf c (p + k)
  | .un c p e => .un c (p + k) (e.shift k)
  | .bin c p l r => .bin c (p + k) (l.shift k) (r.shift k)

/-- What ends an expression: nothing, or a bracket. -/
def Ends (more : List Tok) : Prop := hd more = 41 ∨ hd more = -1
theorem jn_cases (ts : List Tok) : jn ts = hd ts ∨ jn ts = -1 := by
  cases ts with
  | nil => exact Or.inl rfl
  | cons t r =>
    show (if t.a = true then -1 else t.c) = t.c ∨ (if t.a = true then -1 else t.c) = -1
    cases t.a with
    | true => exact Or.inr rfl
    | false => exact Or.inl rfl
/-! ### The reading's steps -/
theorem pt_0 (f : Nat) (e : Ex) (ts : List Tok) : pt (f + 1) 0 e ts = if (pt f 1 e ts).ok then pt f 4 (pt f 1 e ts).e (pt f 1 e ts).ts else pt f 1 e ts := rfl
theorem pt_1 (f : Nat) (e : Ex) (ts : List Tok) : pt (f + 1) 1 e ts = if (pt f 2 e ts).ok then pt f 5 (pt f 2 e ts).e (pt f 2 e ts).ts else pt f 2 e ts := rfl
theorem pt_2 (f : Nat) (e : Ex) (t : Tok) (r : List Tok) : pt (f + 1) 2 e (t :: r) = if t.c = 8722 then (if (pt f 2 e r).ok then ⟨true, .un 110 t.p (pt f 2 e r).e, (pt f 2 e r).ts⟩ else pt f 2 e r)
    else if (pt f 3 e (t :: r)).ok then pt f 6 (pt f 3 e (t :: r)).e (pt f 3 e (t :: r)).ts else pt f 3 e (t :: r) := rfl
theorem pt_3 (f : Nat) (e : Ex) (t : Tok) (r : List Tok) : pt (f + 1) 3 e (t :: r) = if (isDig t.c || isFrac t.c) = true then ⟨true, .num (numT (t :: r)).1 t.p, (numT (t :: r)).2⟩
    else if t.c = 105 ∨ isNm t.c = true then ⟨true, .leaf t.c t.p, r⟩
    else if t.c = 40 then (if (pt f 0 e r).ok then (if hd (pt f 0 e r).ts = 41 then ⟨true, (pt f 0 e r).e, (pt f 0 e r).ts.tail⟩ else ⟨false, e, (pt f 0 e r).ts⟩) else pt f 0 e r)
    else ⟨false, e, t :: r⟩ := rfl
theorem pt_4 (f : Nat) (e : Ex) (t : Tok) (r : List Tok) : pt (f + 1) 4 e (t :: r) = if inRow 0 t.c = true then (if (pt f 1 e r).ok then pt f 4 (.bin t.c t.p e (pt f 1 e r).e) (pt f 1 e r).ts else pt f 1 e r) else ⟨true, e, t :: r⟩ := rfl
theorem pt_5 (f : Nat) (e : Ex) (t : Tok) (r : List Tok) : pt (f + 1) 5 e (t :: r) = if inRow 1 t.c = true then (if (pt f 2 e r).ok then pt f 5 (.bin t.c t.p e (pt f 2 e r).e) (pt f 2 e r).ts else pt f 2 e r) else ⟨true, e, t :: r⟩ := rfl
theorem pt_6 (f n : Nat) (e : Ex) (t : Tok) (r : List Tok) : pt (f + 1) (n + 6) e (t :: r) = if isMk t.c = true then pt f 6 (.un t.c t.p e) r else ⟨true, e, t :: r⟩ := rfl

theorem Sim.digs {k : Nat} {more : List Tok} (hm : Ends more) : ∀ (n : Nat) (ts ts' : List Tok), Sim k more ts ts' → (digs n ts').1 = (digs n ts).1 ∧ Sim k more (digs n ts).2 (digs n ts').2 := by
  intro n
  induction n with
  | zero => intro ts ts' h; exact ⟨rfl, h⟩
  | succ n ih =>
    intro ts ts' h
    cases h with
    | stop e he =>
      have h1 : isDig (jn [e]) = false := by
        rcases jn_cases [e] with q | q <;> rw [q]
        · show isDig e.c = false; rw [he]; rfl
        · rfl
      have h2 : isDig (jn more) = false := by
        rcases jn_cases more with q | q <;> rw [q]
        · rcases hm with q | q <;> rw [q] <;> rfl
        · rfl
      simp only [Go.Proofs.YtodabmkcihafhaaGreatDoor.digs, h1, h2]
      exact ⟨rfl, Sim.stop e he⟩
    | cons t ht r r' hr =>
      have e1 : jn (⟨t.c, t.p + k, t.a⟩ :: r') = jn (t :: r) := rfl
      simp only [Go.Proofs.YtodabmkcihafhaaGreatDoor.digs, e1]
      cases isDig (jn (t :: r)) with
      | false => exact ⟨rfl, Sim.cons t ht r r' hr⟩
      | true =>
        obtain ⟨i1, i2⟩ := ih r r' hr
        refine ⟨?_, i2⟩
        show jn (t :: r) :: (Go.Proofs.YtodabmkcihafhaaGreatDoor.digs n r').1 = jn (t :: r) :: (Go.Proofs.YtodabmkcihafhaaGreatDoor.digs n r).1
        rw [i1]
theorem Sim.frac {k : Nat} {more : List Tok} (hm : Ends more) {ts ts' : List Tok} (h : Sim k more ts ts') : (fracT ts').1 = (fracT ts).1 ∧ Sim k more (fracT ts).2 (fracT ts').2 := by
  cases h with
  | stop e he =>
    have h1 : isFrac (jn [e]) = false := by
      rcases jn_cases [e] with q | q <;> rw [q]
      · show isFrac e.c = false; rw [he]; rfl
      · rfl
    have h2 : isFrac (jn more) = false := by
      rcases jn_cases more with q | q <;> rw [q]
      · rcases hm with q | q <;> rw [q] <;> rfl
      · rfl
    simp only [fracT, h1, h2]
    exact ⟨rfl, Sim.stop e he⟩
  | cons t ht r r' hr =>
    have e1 : jn (⟨t.c, t.p + k, t.a⟩ :: r') = jn (t :: r) := rfl
    simp only [fracT, e1]
    cases isFrac (jn (t :: r)) with
    | false => exact ⟨rfl, Sim.cons t ht r r' hr⟩
    | true => exact ⟨rfl, hr⟩
theorem Sim.numT {k : Nat} {more : List Tok} (hm : Ends more) (t : Tok) (ht : 0 ≤ t.c) (r r' : List Tok) (hr : Sim k more r r') :
    (numT (⟨t.c, t.p + k, t.a⟩ :: r')).1 = (numT (t :: r)).1 ∧ Sim k more (numT (t :: r)).2 (numT (⟨t.c, t.p + k, t.a⟩ :: r')).2 := by
  have e1 : hd (⟨t.c, t.p + k, t.a⟩ :: r') = t.c := rfl
  have e2 : hd (t :: r) = t.c := rfl
  unfold Go.Proofs.YtodabmkcihafhaaGreatDoor.numT
  rw [e1, e2]
  by_cases hf : isFrac t.c = true
  · rw [if_pos hf, if_pos hf]
    exact ⟨rfl, hr⟩
  · rw [if_neg hf, if_neg hf]
    by_cases h0 : t.c = 48
    · simp only [h0, if_true]
      obtain ⟨i1, i2⟩ := Sim.frac hm hr
      refine ⟨?_, i2⟩
      show (48 :: []) ++ (fracT r').1 = (48 :: []) ++ (fracT r).1
      rw [i1]
    · simp only [h0, if_false]
      obtain ⟨d1, d2⟩ := Sim.digs hm 2 r r' hr
      obtain ⟨i1, i2⟩ := Sim.frac hm d2
      refine ⟨?_, i2⟩
      show (t.c :: (Go.Proofs.YtodabmkcihafhaaGreatDoor.digs 2 r').1) ++ (fracT (Go.Proofs.YtodabmkcihafhaaGreatDoor.digs 2 r').2).1 = (t.c :: (Go.Proofs.YtodabmkcihafhaaGreatDoor.digs 2 r).1) ++ (fracT (Go.Proofs.YtodabmkcihafhaaGreatDoor.digs 2 r).2).1
      rw [i1, d1]

structure SimR (k : Nat) (more : List Tok) (A B : RT) : Prop where
  ok : B.ok = true
  e : B.e = A.e.shift k
  ts : Sim k more A.ts B.ts
theorem pt_sim (k : Nat) (more : List Tok) (hm : Ends more) : ∀ (f tag : Nat) (e e' : Ex) (ts ts' : List Tok), Sim k more ts ts' → (4 ≤ tag → e' = e.shift k) → (pt f tag e ts).ok = true → SimR k more (pt f tag e ts) (pt f tag e' ts') := by
  have m1 : ∀ l, inRow l (hd more) = false := fun l => by
    unfold inRow
    rcases hm with q | q <;> rw [q] <;> split <;> rfl
  have m2 : isMk (hd more) = false := by rcases hm with q | q <;> rw [q] <;> rfl
  intro f
  induction f with
  | zero => intro tag e e' ts ts' _ _ h; simp [pt] at h
  | succ f ih =>
    intro tag e e' ts ts' hs he h
    match tag, he, h with
    | 0, he, h =>
      simp only [pt] at h ⊢
      by_cases ha : (pt f 1 e ts).ok = true
      · rw [if_pos ha] at h ⊢
        have i := ih 1 e e' ts ts' hs (fun h => by omega) ha
        rw [if_pos i.ok]
        exact ih 4 _ _ _ _ i.ts (fun _ => i.e) h
      · rw [if_neg ha] at h; exact absurd h ha
    | 1, he, h =>
      simp only [pt] at h ⊢
      by_cases ha : (pt f 2 e ts).ok = true
      · rw [if_pos ha] at h ⊢
        have i := ih 2 e e' ts ts' hs (fun h => by omega) ha
        rw [if_pos i.ok]
        exact ih 5 _ _ _ _ i.ts (fun _ => i.e) h
      · rw [if_neg ha] at h; exact absurd h ha
    | 2, he, h =>
      cases hs with
      | stop t ht =>
        simp only [pt] at h
        have e1 : hd [t] = -1 := ht
        rw [if_neg (by rw [e1]; decide)] at h
        by_cases ha : (pt f 3 e [t]).ok = true
        · exfalso
          cases f with
          | zero => simp [pt] at ha
          | succ f => simp [pt, e1, isDig, isFrac, isNm] at ha
        · rw [if_neg ha] at h; exact absurd h ha
      | cons t ht r r' hr =>
        rw [pt_2] at h
        rw [pt_2, pt_2]
        by_cases hc : t.c = 8722
        · rw [if_pos hc] at h
          rw [if_pos hc, if_pos hc]
          by_cases ha : (pt f 2 e r).ok = true
          · have i := ih 2 e e' r r' hr (fun h => by omega) ha
            rw [if_pos ha, if_pos i.ok]
            refine ⟨rfl, ?_, i.ts⟩
            show Ex.un 110 (t.p + k) _ = Ex.un 110 (t.p + k) _
            rw [i.e]
          · rw [if_neg ha] at h; exact absurd h ha
        · rw [if_neg hc] at h
          rw [if_neg hc, if_neg hc]
          by_cases ha : (pt f 3 e (t :: r)).ok = true
          · have i := ih 3 e e' _ _ (Sim.cons t ht r r' hr) (fun h => by omega) ha
            rw [if_pos ha] at h
            rw [if_pos ha, if_pos i.ok]
            exact ih 6 _ _ _ _ i.ts (fun _ => i.e) h
          · rw [if_neg ha] at h; exact absurd h ha
    | 3, he, h =>
      cases hs with
      | stop t ht =>
        have e1 : hd [t] = -1 := ht
        simp [pt, e1, isDig, isFrac, isNm] at h
      | cons t ht r r' hr =>
        rw [pt_3] at h
        rw [pt_3, pt_3]
        by_cases hn : (isDig t.c || isFrac t.c) = true
        · rw [if_pos hn, if_pos hn]
          obtain ⟨n1, n2⟩ := Sim.numT hm t ht r r' hr
          refine ⟨rfl, ?_, n2⟩
          show Ex.num _ (t.p + k) = Ex.num _ (t.p + k)
          rw [n1]
        · rw [if_neg hn] at h
          rw [if_neg hn, if_neg hn]
          by_cases hl : t.c = 105 ∨ isNm t.c = true
          · rw [if_pos hl, if_pos hl]
            exact ⟨rfl, rfl, hr⟩
          · rw [if_neg hl] at h
            rw [if_neg hl, if_neg hl]
            by_cases hp : t.c = 40
            · rw [if_pos hp] at h
              rw [if_pos hp, if_pos hp]
              by_cases ha : (pt f 0 e r).ok = true
              · have i := ih 0 e e' r r' hr (fun h => by omega) ha
                rw [if_pos ha] at h
                rw [if_pos ha, if_pos i.ok]
                by_cases hq : hd (pt f 0 e r).ts = 41
                · rw [if_pos hq]
                  have it := i.ts
                  generalize (pt f 0 e r).ts = us at *
                  generalize (pt f 0 e' r').ts = us' at *
                  cases it with
                  | stop t2 ht2 =>
                    exfalso
                    have : t2.c = 41 := hq
                    omega
                  | cons t2 ht2 r2 r2' hr2 =>
                    have : hd (⟨t2.c, t2.p + k, t2.a⟩ :: r2') = 41 := hq
                    rw [if_pos this]
                    exact ⟨rfl, i.e, hr2⟩
                · rw [if_neg hq] at h; simp at h
              · rw [if_neg ha] at h; exact absurd h ha
            · rw [if_neg hp] at h; simp at h
    | 4, he, h =>
      have he' := he (by omega)
      subst he'
      cases hs with
      | stop t ht =>
        have e1 : hd [t] = -1 := ht
        simp only [pt, e1, m1]
        exact ⟨rfl, rfl, Sim.stop t ht⟩
      | cons t ht r r' hr =>
        rw [pt_4] at h
        rw [pt_4, pt_4]
        by_cases hi : inRow 0 t.c = true
        · rw [if_pos hi] at h
          rw [if_pos hi, if_pos hi]
          by_cases ha : (pt f 1 e r).ok = true
          · have i := ih 1 e (e.shift k) r r' hr (fun h => by omega) ha
            rw [if_pos ha] at h
            rw [if_pos ha, if_pos i.ok]
            refine ih 4 _ _ _ _ i.ts (fun _ => ?_) h
            show Ex.bin _ (t.p + k) _ _ = Ex.bin _ (t.p + k) _ _
            rw [i.e]
          · rw [if_neg ha] at h; exact absurd h ha
        · rw [if_neg hi, if_neg hi]
          exact ⟨rfl, rfl, Sim.cons t ht r r' hr⟩
    | 5, he, h =>
      have he' := he (by omega)
      subst he'
      cases hs with
      | stop t ht =>
        have e1 : hd [t] = -1 := ht
        simp only [pt, e1, m1]
        exact ⟨rfl, rfl, Sim.stop t ht⟩
      | cons t ht r r' hr =>
        rw [pt_5] at h
        rw [pt_5, pt_5]
        by_cases hi : inRow 1 t.c = true
        · rw [if_pos hi] at h
          rw [if_pos hi, if_pos hi]
          by_cases ha : (pt f 2 e r).ok = true
          · have i := ih 2 e (e.shift k) r r' hr (fun h => by omega) ha
            rw [if_pos ha] at h
            rw [if_pos ha, if_pos i.ok]
            refine ih 5 _ _ _ _ i.ts (fun _ => ?_) h
            show Ex.bin _ (t.p + k) _ _ = Ex.bin _ (t.p + k) _ _
            rw [i.e]
          · rw [if_neg ha] at h; exact absurd h ha
        · rw [if_neg hi, if_neg hi]
          exact ⟨rfl, rfl, Sim.cons t ht r r' hr⟩
    | (n + 6), he, h =>
      have he' := he (by omega)
      subst he'
      cases hs with
      | stop t ht =>
        have e1 : hd [t] = -1 := ht
        simp only [pt, e1, m2]
        exact ⟨rfl, rfl, Sim.stop t ht⟩
      | cons t ht r r' hr =>
        rw [pt_6] at h
        rw [pt_6, pt_6]
        by_cases hi : isMk t.c = true
        · rw [if_pos hi] at h
          rw [if_pos hi, if_pos hi]
          exact ih 6 _ _ _ _ hr (fun _ => rfl) h
        · rw [if_neg hi, if_neg hi]
          exact ⟨rfl, rfl, Sim.cons t ht r r' hr⟩
end Go.Proofs.YtodabmkcihafhaaGreatDoor

/- Plain: how much fuel a reading wants; the reading without fuel. -/
namespace Go.Proofs.YtodabmkcihafhaaGreatDoor
set_option linter.unusedVariables false

theorem digs_le : ∀ (n : Nat) (ts : List Tok), (digs n ts).2.length ≤ ts.length := by
  intro n
  induction n with
  | zero => intro ts; exact Nat.le_refl _
  | succ n ih =>
    intro ts
    simp only [digs]
    split
    · have := ih ts.tail
      have h2 : ts.tail.length ≤ ts.length := by simp
      exact Nat.le_trans this h2
    · exact Nat.le_refl _
theorem frac_le (ts : List Tok) : (fracT ts).2.length ≤ ts.length := by
  unfold fracT
  split
  · simp
  · exact Nat.le_refl _
theorem numT_le (t : Tok) (r : List Tok) : (numT (t :: r)).2.length ≤ r.length := by
  unfold numT
  split
  · exact Nat.le_refl _
  · have e : ∀ x : List Int × List Tok, x.2.length ≤ r.length → ((fracT x.2).2).length ≤ r.length := fun x hx => Nat.le_trans (frac_le _) hx
    refine e _ ?_
    split
    · exact Nat.le_refl _
    · exact digs_le 2 r
theorem pt_len : ∀ (f tag : Nat) (e : Ex) (ts : List Tok), (pt f tag e ts).ok = true → (pt f tag e ts).ts.length + (if tag < 4 then 1 else 0) ≤ ts.length := by
  intro f
  induction f with
  | zero => intro tag e ts h; simp [pt] at h
  | succ f ih =>
    intro tag e ts h
    match tag, h with
    | 0, h =>
      rw [pt_0] at h ⊢
      by_cases ha : (pt f 1 e ts).ok = true
      · rw [if_pos ha] at h ⊢
        have i1 := ih 1 e ts ha
        have i2 := ih 4 _ _ h
        simp at i1 i2 ⊢
        omega
      · rw [if_neg ha] at h; exact absurd h ha
    | 1, h =>
      rw [pt_1] at h ⊢
      by_cases ha : (pt f 2 e ts).ok = true
      · rw [if_pos ha] at h ⊢
        have i1 := ih 2 e ts ha
        have i2 := ih 5 _ _ h
        simp at i1 i2 ⊢
        omega
      · rw [if_neg ha] at h; exact absurd h ha
    | 2, h =>
      cases ts with
      | nil =>
        exfalso
        cases f with
        | zero => simp [pt, hd] at h
        | succ f => simp [pt, hd, isDig, isFrac, isNm] at h
      | cons t r =>
        rw [pt_2] at h ⊢
        by_cases hc : t.c = 8722
        · rw [if_pos hc] at h ⊢
          by_cases ha : (pt f 2 e r).ok = true
          · rw [if_pos ha]
            have i1 := ih 2 e r ha
            simp at i1 ⊢
            omega
          · rw [if_neg ha] at h; exact absurd h ha
        · rw [if_neg hc] at h ⊢
          by_cases ha : (pt f 3 e (t :: r)).ok = true
          · rw [if_pos ha] at h ⊢
            have i1 := ih 3 e (t :: r) ha
            have i2 := ih 6 _ _ h
            simp at i1 i2 ⊢
            omega
          · rw [if_neg ha] at h; exact absurd h ha
    | 3, h =>
      cases ts with
      | nil => simp [pt, hd, isDig, isFrac, isNm] at h
      | cons t r =>
        rw [pt_3] at h ⊢
        by_cases hn : (isDig t.c || isFrac t.c) = true
        · rw [if_pos hn]
          have := numT_le t r
          simp
          omega
        · rw [if_neg hn] at h ⊢
          by_cases hl : t.c = 105 ∨ isNm t.c = true
          · rw [if_pos hl]
            simp
          · rw [if_neg hl] at h ⊢
            by_cases hp : t.c = 40
            · rw [if_pos hp] at h ⊢
              by_cases ha : (pt f 0 e r).ok = true
              · rw [if_pos ha] at h ⊢
                have i1 := ih 0 e r ha
                by_cases hq : hd (pt f 0 e r).ts = 41
                · rw [if_pos hq]
                  simp at i1 ⊢
                  omega
                · rw [if_neg hq] at h; simp at h
              · rw [if_neg ha] at h; exact absurd h ha
            · rw [if_neg hp] at h; simp at h
    | 4, h =>
      cases ts with
      | nil =>
        have : pt (f + 1) 4 e [] = ⟨true, e, []⟩ := rfl
        rw [this]
        simp
      | cons t r =>
        rw [pt_4] at h ⊢
        by_cases hi : inRow 0 t.c = true
        · rw [if_pos hi] at h ⊢
          by_cases ha : (pt f 1 e r).ok = true
          · rw [if_pos ha] at h ⊢
            have i1 := ih 1 e r ha
            have i2 := ih 4 _ _ h
            simp at i1 i2 ⊢
            omega
          · rw [if_neg ha] at h; exact absurd h ha
        · rw [if_neg hi]
          simp
    | 5, h =>
      cases ts with
      | nil =>
        have : pt (f + 1) 5 e [] = ⟨true, e, []⟩ := rfl
        rw [this]
        simp
      | cons t r =>
        rw [pt_5] at h ⊢
        by_cases hi : inRow 1 t.c = true
        · rw [if_pos hi] at h ⊢
          by_cases ha : (pt f 2 e r).ok = true
          · rw [if_pos ha] at h ⊢
            have i1 := ih 2 e r ha
            have i2 := ih 5 _ _ h
            simp at i1 i2 ⊢
            omega
          · rw [if_neg ha] at h; exact absurd h ha
        · rw [if_neg hi]
          simp
    | (n + 6), h =>
      have hz : ¬ (n + 6 < 4) := by omega
      rw [if_neg hz]
      cases ts with
      | nil =>
        have : pt (f + 1) (n + 6) e [] = ⟨true, e, []⟩ := rfl
        rw [this]
        simp
      | cons t r =>
        rw [pt_6] at h ⊢
        by_cases hi : isMk t.c = true
        · rw [if_pos hi] at h ⊢
          have i2 := ih 6 _ _ h
          simp at i2 ⊢
          omega
        · rw [if_neg hi]
          simp

def need (tag : Nat) (ts : List Tok) : Nat := 6 * ts.length + (if tag = 0 then 4 else if tag = 1 then 3 else if tag = 2 then 2 else 1)
theorem pt_stable : ∀ (f g tag : Nat) (e : Ex) (ts : List Tok), need tag ts ≤ f → need tag ts ≤ g → pt f tag e ts = pt g tag e ts := by
  intro f
  induction f with
  | zero => intro g tag e ts h; unfold need at h; exfalso; revert h; split <;> (try split) <;> (try split) <;> omega
  | succ f ih =>
    intro g tag e ts hf hg
    cases g with
    | zero => exfalso; unfold need at hg; revert hg; split <;> (try split) <;> (try split) <;> omega
    | succ g =>
      match tag, hf, hg with
      | 0, hf, hg =>
        simp [need] at hf hg
        rw [pt_0, pt_0, ih g 1 e ts (by simp [need]; omega) (by simp [need]; omega)]
        by_cases ha : (pt g 1 e ts).ok = true
        · rw [if_pos ha, if_pos ha]
          have := pt_len g 1 e ts ha
          simp at this
          exact ih g 4 _ _ (by simp [need]; omega) (by simp [need]; omega)
        · rw [if_neg ha, if_neg ha]
      | 1, hf, hg =>
        simp [need] at hf hg
        rw [pt_1, pt_1, ih g 2 e ts (by simp [need]; omega) (by simp [need]; omega)]
        by_cases ha : (pt g 2 e ts).ok = true
        · rw [if_pos ha, if_pos ha]
          have := pt_len g 2 e ts ha
          simp at this
          exact ih g 5 _ _ (by simp [need]; omega) (by simp [need]; omega)
        · rw [if_neg ha, if_neg ha]
      | 2, hf, hg =>
        simp [need] at hf hg
        cases ts with
        | nil =>
          have e3 := ih g 3 e [] (by simp [need] at *; omega) (by simp [need] at *; omega)
          have u : ∀ h, pt (h + 1) 2 e [] = if (pt h 3 e []).ok then pt h 6 (pt h 3 e []).e (pt h 3 e []).ts else pt h 3 e [] := fun h => rfl
          rw [u, u, e3]
          by_cases ha : (pt g 3 e []).ok = true
          · have := pt_len g 3 e [] ha
            simp at this
          · rw [if_neg ha, if_neg ha]
        | cons t r =>
          simp at hf hg
          rw [pt_2, pt_2, ih g 2 e r (by simp [need]; omega) (by simp [need]; omega), ih g 3 e (t :: r) (by simp [need]; omega) (by simp [need]; omega)]
          by_cases hc : t.c = 8722
          · rw [if_pos hc, if_pos hc]
          · rw [if_neg hc, if_neg hc]
            by_cases ha : (pt g 3 e (t :: r)).ok = true
            · rw [if_pos ha, if_pos ha]
              have := pt_len g 3 e (t :: r) ha
              simp at this
              exact ih g 6 _ _ (by simp [need]; omega) (by simp [need]; omega)
            · rw [if_neg ha, if_neg ha]
      | 3, hf, hg =>
        simp [need] at hf hg
        cases ts with
        | nil => rfl
        | cons t r =>
          simp at hf hg
          rw [pt_3, pt_3, ih g 0 e r (by simp [need]; omega) (by simp [need]; omega)]
      | 4, hf, hg =>
        simp [need] at hf hg
        cases ts with
        | nil => rfl
        | cons t r =>
          simp at hf hg
          rw [pt_4, pt_4, ih g 1 e r (by simp [need]; omega) (by simp [need]; omega)]
          by_cases hi : inRow 0 t.c = true
          · rw [if_pos hi, if_pos hi]
            by_cases ha : (pt g 1 e r).ok = true
            · rw [if_pos ha, if_pos ha]
              have := pt_len g 1 e r ha
              simp at this
              exact ih g 4 _ _ (by simp [need]; omega) (by simp [need]; omega)
            · rw [if_neg ha, if_neg ha]
          · rw [if_neg hi, if_neg hi]
      | 5, hf, hg =>
        simp [need] at hf hg
        cases ts with
        | nil => rfl
        | cons t r =>
          simp at hf hg
          rw [pt_5, pt_5, ih g 2 e r (by simp [need]; omega) (by simp [need]; omega)]
          by_cases hi : inRow 1 t.c = true
          · rw [if_pos hi, if_pos hi]
            by_cases ha : (pt g 2 e r).ok = true
            · rw [if_pos ha, if_pos ha]
              have := pt_len g 2 e r ha
              simp at this
              exact ih g 5 _ _ (by simp [need]; omega) (by simp [need]; omega)
            · rw [if_neg ha, if_neg ha]
          · rw [if_neg hi, if_neg hi]
      | (n + 6), hf, hg =>
        simp [need] at hf hg
        cases ts with
        | nil => rfl
        | cons t r =>
          simp at hf hg
          rw [pt_6, pt_6]
          by_cases hi : isMk t.c = true
          · rw [if_pos hi, if_pos hi]
            exact ih g 6 _ _ (by simp [need]; omega) (by simp [need]; omega)
          · rw [if_neg hi, if_neg hi]

/-- The reading. -/
def PT (tag : Nat) (e : Ex) (ts : List Tok) : RT := pt (need tag ts) tag e ts
theorem pt_PT {f tag : Nat} {ts : List Tok} (e : Ex) (h : need tag ts ≤ f) : pt f tag e ts = PT tag e ts := pt_stable _ _ _ _ _ h (Nat.le_refl _)
theorem PT_0 (e : Ex) (ts : List Tok) : PT 0 e ts = if (PT 1 e ts).ok then PT 4 (PT 1 e ts).e (PT 1 e ts).ts else PT 1 e ts := by
  have h : need 0 ts ≤ 6 * ts.length + 10 := by simp [need]
  rw [← pt_PT e h, pt_0, pt_PT (f := 6 * ts.length + 9) (tag := 1) e (by simp [need])]
  by_cases ha : (PT 1 e ts).ok = true
  · rw [if_pos ha, if_pos ha]
    have := pt_len _ 1 e ts ha
    exact pt_PT _ (by simp [need] at *; unfold PT; simp [need]; omega)
  · rw [if_neg ha, if_neg ha]
theorem PT_1 (e : Ex) (ts : List Tok) : PT 1 e ts = if (PT 2 e ts).ok then PT 5 (PT 2 e ts).e (PT 2 e ts).ts else PT 2 e ts := by
  have h : need 1 ts ≤ 6 * ts.length + 10 := by simp [need]
  rw [← pt_PT e h, pt_1, pt_PT (f := 6 * ts.length + 9) (tag := 2) e (by simp [need])]
  by_cases ha : (PT 2 e ts).ok = true
  · rw [if_pos ha, if_pos ha]
    have := pt_len _ 2 e ts ha
    exact pt_PT _ (by simp [need] at *; unfold PT; simp [need]; omega)
  · rw [if_neg ha, if_neg ha]
theorem PT_2 (e : Ex) (t : Tok) (r : List Tok) : PT 2 e (t :: r) = if t.c = 8722 then (if (PT 2 e r).ok then ⟨true, .un 110 t.p (PT 2 e r).e, (PT 2 e r).ts⟩ else PT 2 e r)
    else if (PT 3 e (t :: r)).ok then PT 6 (PT 3 e (t :: r)).e (PT 3 e (t :: r)).ts else PT 3 e (t :: r) := by
  have h : need 2 (t :: r) ≤ 6 * (t :: r).length + 10 := by simp [need]
  rw [← pt_PT e h, pt_2, pt_PT (f := 6 * (t :: r).length + 9) (tag := 2) (ts := r) e (by simp [need]; omega), pt_PT (f := 6 * (t :: r).length + 9) (tag := 3) (ts := t :: r) e (by simp [need])]
  by_cases hc : t.c = 8722
  · rw [if_pos hc, if_pos hc]
  · rw [if_neg hc, if_neg hc]
    by_cases ha : (PT 3 e (t :: r)).ok = true
    · rw [if_pos ha, if_pos ha]
      have := pt_len _ 3 e (t :: r) ha
      exact pt_PT _ (by simp [need] at *; unfold PT; simp [need]; omega)
    · rw [if_neg ha, if_neg ha]
theorem PT_3 (e : Ex) (t : Tok) (r : List Tok) : PT 3 e (t :: r) = if (isDig t.c || isFrac t.c) = true then ⟨true, .num (numT (t :: r)).1 t.p, (numT (t :: r)).2⟩
    else if t.c = 105 ∨ isNm t.c = true then ⟨true, .leaf t.c t.p, r⟩
    else if t.c = 40 then (if (PT 0 e r).ok then (if hd (PT 0 e r).ts = 41 then ⟨true, (PT 0 e r).e, (PT 0 e r).ts.tail⟩ else ⟨false, e, (PT 0 e r).ts⟩) else PT 0 e r)
    else ⟨false, e, t :: r⟩ := by
  have h : need 3 (t :: r) ≤ 6 * (t :: r).length + 10 := by simp [need]
  rw [← pt_PT e h, pt_3, pt_PT (f := 6 * (t :: r).length + 9) (tag := 0) (ts := r) e (by simp [need]; omega)]
theorem PT_4 (e : Ex) (t : Tok) (r : List Tok) : PT 4 e (t :: r) = if inRow 0 t.c = true then (if (PT 1 e r).ok then PT 4 (.bin t.c t.p e (PT 1 e r).e) (PT 1 e r).ts else PT 1 e r) else ⟨true, e, t :: r⟩ := by
  have h : need 4 (t :: r) ≤ 6 * (t :: r).length + 10 := by simp [need]
  rw [← pt_PT e h, pt_4, pt_PT (f := 6 * (t :: r).length + 9) (tag := 1) (ts := r) e (by simp [need]; omega)]
  by_cases hi : inRow 0 t.c = true
  · rw [if_pos hi, if_pos hi]
    by_cases ha : (PT 1 e r).ok = true
    · rw [if_pos ha, if_pos ha]
      have := pt_len _ 1 e r ha
      exact pt_PT _ (by simp [need] at *; unfold PT; simp [need]; omega)
    · rw [if_neg ha, if_neg ha]
  · rw [if_neg hi, if_neg hi]
theorem PT_5 (e : Ex) (t : Tok) (r : List Tok) : PT 5 e (t :: r) = if inRow 1 t.c = true then (if (PT 2 e r).ok then PT 5 (.bin t.c t.p e (PT 2 e r).e) (PT 2 e r).ts else PT 2 e r) else ⟨true, e, t :: r⟩ := by
  have h : need 5 (t :: r) ≤ 6 * (t :: r).length + 10 := by simp [need]
  rw [← pt_PT e h, pt_5, pt_PT (f := 6 * (t :: r).length + 9) (tag := 2) (ts := r) e (by simp [need]; omega)]
  by_cases hi : inRow 1 t.c = true
  · rw [if_pos hi, if_pos hi]
    by_cases ha : (PT 2 e r).ok = true
    · rw [if_pos ha, if_pos ha]
      have := pt_len _ 2 e r ha
      exact pt_PT _ (by simp [need] at *; unfold PT; simp [need]; omega)
    · rw [if_neg ha, if_neg ha]
  · rw [if_neg hi, if_neg hi]
theorem PT_6 (e : Ex) (t : Tok) (r : List Tok) : PT 6 e (t :: r) = if isMk t.c = true then PT 6 (.un t.c t.p e) r else ⟨true, e, t :: r⟩ := by
  have h : need 6 (t :: r) ≤ 6 * (t :: r).length + 10 := by simp [need]
  rw [← pt_PT e h]
  have := pt_6 (6 * (t :: r).length + 9) 0 e t r
  rw [Nat.zero_add] at this
  rw [this]
  by_cases hi : isMk t.c = true
  · rw [if_pos hi, if_pos hi]
    exact pt_PT _ (by simp [need]; omega)
  · rw [if_neg hi, if_neg hi]
theorem PT_len {tag : Nat} {e : Ex} {ts : List Tok} (h : (PT tag e ts).ok = true) : (PT tag e ts).ts.length + (if tag < 4 then 1 else 0) ≤ ts.length := pt_len _ tag e ts h
theorem PT_sim {k : Nat} {more : List Tok} (hm : Ends more) {tag : Nat} {e e' : Ex} {ts ts' : List Tok} (hs : Sim k more ts ts') (he : 4 ≤ tag → e' = e.shift k) (h : (PT tag e ts).ok = true) : SimR k more (PT tag e ts) (PT tag e' ts') := by
  have h1 : need tag ts ≤ need tag ts + need tag ts' := by omega
  have h2 : need tag ts' ≤ need tag ts + need tag ts' := by omega
  have := pt_sim k more hm (need tag ts + need tag ts') tag e e' ts ts' hs he (by rw [pt_PT e h1]; exact h)
  rw [pt_PT e h1, pt_PT e' h2] at this
  exact this
end Go.Proofs.YtodabmkcihafhaaGreatDoor

/- Plain: texts in brackets, with signs: how they are read. -/
namespace Go.Proofs.YtodabmkcihafhaaGreatDoor
set_option linter.unusedVariables false

theorem toks_need (s : ByteArray) (h : s.size ≤ 120) : need 0 (toks s 0 false) ≤ 2000 := by
  have := toks_len s h
  simp [need]
  omega
theorem treeT_PT (s : ByteArray) (h : s.size ≤ 120) : treeT s = (PT 0 e0 (toks s 0 false)).e := by
  unfold treeT
  rw [pt_PT e0 (toks_need s h)]
theorem good_PT (s : ByteArray) (h : s.size ≤ 120) : good s = ((PT 0 e0 (toks s 0 false)).ok && hd (PT 0 e0 (toks s 0 false)).ts == -1) := by
  obtain ⟨a1, a2, a3⟩ := pp_pt 2000 0 0 (toks s 0 false) [] [] e0 (Or.inl ⟨by decide, rfl⟩) (fun h => by omega) (fun _ => rfl)
  rw [← pt_PT e0 (toks_need s h), ← a1, ← a2]
  rfl
theorem good_of {s : ByteArray} (h : s.size ≤ 120) {e : Ex} {t : Tok} {r : List Tok} (ht : t.c = -1) (hp : PT 0 e0 (toks s 0 false) = ⟨true, e, t :: r⟩) : good s = true ∧ treeT s = e := by
  rw [good_PT s h, treeT_PT s h, hp]
  refine ⟨?_, rfl⟩
  show (true && t.c == -1) = true
  rw [ht]
  rfl

/-- A piece stands in a text. -/
def Sits (S : ByteArray) (i : Nat) (x : ByteArray) : Prop := ∃ pre post, S = pre ++ x ++ post ∧ pre.size = i
theorem Sits.size {S x : ByteArray} {i : Nat} (h : Sits S i x) : i + x.size ≤ S.size := by
  obtain ⟨pre, post, rfl, rfl⟩ := h
  rw [mid_size]
  omega
theorem Sits.left {S x y : ByteArray} {i : Nat} (h : Sits S i (x ++ y)) : Sits S i x := by
  obtain ⟨pre, post, rfl, rfl⟩ := h
  exact ⟨pre, y ++ post, by simp [ByteArray.append_assoc], rfl⟩
theorem Sits.right {S x y : ByteArray} {i : Nat} (h : Sits S i (x ++ y)) : Sits S (i + x.size) y := by
  obtain ⟨pre, post, rfl, rfl⟩ := h
  exact ⟨pre ++ x, post, by simp [ByteArray.append_assoc], by rw [ByteArray.size_append]⟩
theorem Sits.all (S : ByteArray) : Sits S 0 S := ⟨ByteArray.empty, ByteArray.empty, by simp, rfl⟩
theorem toks_sits {S : ByteArray} {i n : Nat} (hk : known n = true) (hn : n ≠ 32) (h : Sits S i (Utf8.encode (n : Int))) (ap : Bool) :
    toks S i ap = ⟨n, i, ap⟩ :: toks S (i + (Utf8.encode (n : Int)).size) false := by
  have hsz := h.size
  obtain ⟨pre, post, rfl, rfl⟩ := h
  obtain ⟨h1, h2⟩ := dec_enc pre post n hk
  rw [toks_step _ _ _ (by omega), h1, if_neg hn]
theorem brO : Utf8.encode (40 : Nat) = ⟨#[40]⟩ := by decide
theorem brC : Utf8.encode (41 : Nat) = ⟨#[41]⟩ := by decide

def inBr (a : ByteArray) : ByteArray := ⟨#[40]⟩ ++ a ++ ⟨#[41]⟩
theorem inBr_size (a : ByteArray) : (inBr a).size = a.size + 2 := by
  unfold inBr
  rw [mid_size]
  show 1 + a.size + 1 = a.size + 2
  omega
theorem br_read {S a : ByteArray} {i : Nat} (ha : a.size ≤ 120) (hg : good a = true) (h : Sits S i (inBr a)) (ap : Bool) (e : Ex) :
    PT 3 e (toks S i ap) = ⟨true, (treeT a).shift (i + 1), toks S (i + a.size + 2) false⟩ ∧ ∃ r, toks S i ap = ⟨40, i, ap⟩ :: r := by
  have h0 : Sits S i (⟨#[40]⟩ ++ (a ++ ⟨#[41]⟩)) := by
    unfold inBr at h
    rw [ByteArray.append_assoc] at h
    exact h
  have t1 := toks_sits (S := S) (i := i) (n := 40) (by decide) (by decide) (by rw [brO]; exact h0.left) ap
  rw [brO] at t1
  have h1 := h0.right
  have h2 : Sits S (i + 1 + a.size) ⟨#[41]⟩ := h1.right
  have t2 := fun ap => toks_sits (S := S) (i := i + 1 + a.size) (n := 41) (by decide) (by decide) (by rw [brC]; exact h2) ap
  rw [brC] at t2
  have t1' : toks S i ap = ⟨40, i, ap⟩ :: toks S (i + 1) false := t1
  refine ⟨?_, _, t1'⟩
  have h3 : Sits S (i + 1) (a ++ ⟨#[41]⟩) := h1
  obtain ⟨pre, post, rfl, hpre⟩ := h3
  have hS : pre ++ (a ++ ⟨#[41]⟩) ++ post = pre ++ a ++ (⟨#[41]⟩ ++ post) := by simp [ByteArray.append_assoc]
  have hq : 0 < ((⟨#[41]⟩ : ByteArray) ++ post).size ∧ bt ((⟨#[41]⟩ : ByteArray) ++ post) 0 < 128 := by
    have e1 : (⟨#[41]⟩ : ByteArray).size = 1 := rfl
    refine ⟨by rw [ByteArray.size_append]; omega, ?_⟩
    rw [bt_left _ _ _ (by decide)]
    decide
  obtain ⟨b, _, sm⟩ := toks_mid pre a (⟨#[41]⟩ ++ post) hq a.size 0 false (by omega) (Nat.zero_le _)
  rw [← hS, hpre, t2 b, Nat.add_zero] at sm
  have gp := good_PT a ha
  rw [hg] at gp
  have gp' := gp.symm
  simp only [Bool.and_eq_true, beq_iff_eq] at gp'
  have sr := PT_sim (e' := e) (Or.inl rfl) sm (fun h => by omega) gp'.1
  rw [t1', PT_3]
  rw [if_neg (show ¬ (isDig 40 || isFrac 40) = true by decide), if_neg (show ¬ ((40 : Int) = 105 ∨ isNm 40 = true) by decide), if_pos rfl, if_pos sr.ok]
  have hts : (PT 0 e (toks (pre ++ (a ++ ⟨#[41]⟩) ++ post) (i + 1) false)).ts = ⟨(41 : Nat), i + 1 + a.size, b⟩ :: toks (pre ++ (a ++ ⟨#[41]⟩) ++ post) (i + 1 + a.size + 1) false := by
    have st := sr.ts
    have g2 := gp'.2
    generalize (PT 0 e0 (toks a 0 false)).ts = us at st g2
    generalize (PT 0 e (toks (pre ++ (a ++ ⟨#[41]⟩) ++ post) (i + 1) false)).ts = vs at st
    cases st with
    | stop _ _ => rfl
    | cons t ht r r' hr =>
      exfalso
      have : t.c = -1 := g2
      omega
  rw [hts, if_pos (show hd (⟨(41 : Nat), i + 1 + a.size, b⟩ :: toks (pre ++ (a ++ ⟨#[41]⟩) ++ post) (i + 1 + a.size + 1) false) = 41 from rfl), sr.e, treeT_PT a ha]
  show (⟨true, _, toks _ (i + 1 + a.size + 1) false⟩ : RT) = _
  rw [show i + 1 + a.size + 1 = i + a.size + 2 by omega]
theorem br_two {S a : ByteArray} {i : Nat} (ha : a.size ≤ 120) (hg : good a = true) (h : Sits S i (inBr a)) (ap : Bool) (e : Ex) :
    PT 2 e (toks S i ap) = PT 6 ((treeT a).shift (i + 1)) (toks S (i + a.size + 2) false) := by
  obtain ⟨h1, r, h2⟩ := br_read ha hg h ap e
  rw [h2] at h1
  rw [h2, PT_2, if_neg (show ¬ ((40 : Int) = 8722) by decide), h1, if_pos rfl]
theorem at_end (S : ByteArray) (i : Nat) (h : i = S.size) : toks S i false = [⟨-1, S.size, false⟩] := toks_end S i false (by omega)
theorem PT6_end (e : Ex) (p : Nat) (a : Bool) : PT 6 e [⟨-1, p, a⟩] = ⟨true, e, [⟨-1, p, a⟩]⟩ := by rw [PT_6]; rfl
theorem PT5_end (e : Ex) (p : Nat) (a : Bool) : PT 5 e [⟨-1, p, a⟩] = ⟨true, e, [⟨-1, p, a⟩]⟩ := by rw [PT_5]; rfl
theorem PT4_end (e : Ex) (p : Nat) (a : Bool) : PT 4 e [⟨-1, p, a⟩] = ⟨true, e, [⟨-1, p, a⟩]⟩ := by rw [PT_4]; rfl
theorem PT01_end {e e1 : Ex} {ts : List Tok} {p : Nat} {a : Bool} (h : PT 2 e ts = ⟨true, e1, [⟨-1, p, a⟩]⟩) : PT 1 e ts = ⟨true, e1, [⟨-1, p, a⟩]⟩ ∧ PT 0 e ts = ⟨true, e1, [⟨-1, p, a⟩]⟩ := by
  have h1 : PT 1 e ts = ⟨true, e1, [⟨-1, p, a⟩]⟩ := by rw [PT_1, h, if_pos rfl, PT5_end]
  exact ⟨h1, by rw [PT_0, h1, if_pos rfl, PT4_end]⟩

def signs2 (c : Nat) : Prop := c = 43 ∨ c = 8722 ∨ c = 215 ∨ c = 247
theorem signs2_known {c : Nat} (h : signs2 c) : known c = true ∧ c ≠ 32 ∧ isMk (c : Int) = false := by
  rcases h with rfl | rfl | rfl | rfl <;> decide
/-- Two, one of them read already, a sign between. -/
theorem two_read {S : ByteArray} {i j c n : Nat} {ap : Bool} (hc : signs2 c) (X Y : Ex) (e : Ex) (h1 : PT 2 e (toks S i ap) = PT 6 X (toks S j false)) (h2 : toks S j false = ⟨c, j, false⟩ :: toks S n false)
    (h3 : ∀ e, PT 2 e (toks S n false) = ⟨true, Y, [⟨-1, S.size, false⟩]⟩) : PT 0 e (toks S i ap) = ⟨true, .bin c j X Y, [⟨-1, S.size, false⟩]⟩ := by
  obtain ⟨k1, k2, k3⟩ := signs2_known hc
  have g1 : PT 2 e (toks S i ap) = ⟨true, X, ⟨c, j, false⟩ :: toks S n false⟩ := by
    rw [h1, h2, PT_6, if_neg (by rw [k3]; decide)]
  by_cases hr : inRow 1 (c : Int) = true
  · have g2 : PT 1 e (toks S i ap) = ⟨true, .bin c j X Y, [⟨-1, S.size, false⟩]⟩ := by
      rw [PT_1, g1, if_pos rfl, PT_5, if_pos hr, h3, if_pos rfl, PT5_end]
    rw [PT_0, g2, if_pos rfl, PT4_end]
  · have g2 : PT 1 e (toks S i ap) = ⟨true, X, ⟨c, j, false⟩ :: toks S n false⟩ := by
      rw [PT_1, g1, if_pos rfl, PT_5, if_neg hr]
    have hr0 : inRow 0 (c : Int) = true := by
      rcases hc with rfl | rfl | rfl | rfl
      · rfl
      · rfl
      · exact absurd rfl hr
      · exact absurd rfl hr
    rw [PT_0, g2, if_pos rfl, PT_4, if_pos hr0, (PT01_end (h3 _)).1, if_pos rfl, PT4_end]

/-- (a)c(b) -/
theorem joined_tree (a b : ByteArray) (c : Nat) (hc : signs2 c) (ga : good a = true) (gb : good b = true) (S : ByteArray) (hS : S = inBr a ++ Utf8.encode (c : Int) ++ inBr b) (h : S.size ≤ 120) :
    good S = true ∧ ∃ p q r, treeT S = .bin c p ((treeT a).shift q) ((treeT b).shift r) := by
  obtain ⟨k1, k2, k3⟩ := signs2_known hc
  have s1 : Sits S 0 (inBr a ++ Utf8.encode (c : Int) ++ inBr b) := by rw [← hS]; exact Sits.all S
  have hsz : S.size = (a.size + 2) + (Utf8.encode (c : Int)).size + (b.size + 2) := by
    rw [hS, ByteArray.size_append, ByteArray.size_append, inBr_size, inBr_size]
  have sc := s1.left.right
  have sb := s1.right
  rw [inBr_size, Nat.zero_add] at sc
  rw [ByteArray.size_append, inBr_size, Nat.zero_add] at sb
  have r1 := br_two (by omega) ga s1.left.left false e0
  simp only [Nat.zero_add] at r1
  have r2 := toks_sits k1 k2 sc false
  have r3 := fun e => br_two (by omega) gb sb false e
  have r4 : ∀ e, PT 2 e (toks S (a.size + 2 + (Utf8.encode (c : Int)).size) false) = ⟨true, (treeT b).shift (a.size + 2 + (Utf8.encode (c : Int)).size + 1), [⟨-1, S.size, false⟩]⟩ := fun e => by
    rw [r3, at_end S _ (by omega), PT6_end]
  have := two_read hc _ _ e0 r1 r2 r4
  have g := good_of h rfl this
  exact ⟨g.1, _, _, _, g.2⟩
/-- (a)m -/
theorem mark_tree (a : ByteArray) (m : Nat) (hm : m = 178 ∨ m = 8242) (ga : good a = true) (S : ByteArray) (hS : S = inBr a ++ Utf8.encode (m : Int)) (h : S.size ≤ 120) :
    good S = true ∧ ∃ p q, treeT S = .un m p ((treeT a).shift q) := by
  have k1 : known m = true := by rcases hm with rfl | rfl <;> decide
  have k2 : m ≠ 32 := by omega
  have k3 : isMk (m : Int) = true := by rcases hm with rfl | rfl <;> decide
  have s1 : Sits S 0 (inBr a ++ Utf8.encode (m : Int)) := by rw [← hS]; exact Sits.all S
  have hsz : S.size = (a.size + 2) + (Utf8.encode (m : Int)).size := by rw [hS, ByteArray.size_append, inBr_size]
  have sc := s1.right
  rw [inBr_size, Nat.zero_add] at sc
  have r1 := br_two (by omega) ga s1.left false e0
  simp only [Nat.zero_add] at r1
  rw [toks_sits k1 k2 sc false, PT_6, if_pos k3, at_end S (a.size + 2 + (Utf8.encode (m : Int)).size) (by omega), PT6_end] at r1
  have g := good_of h rfl (PT01_end r1).2
  exact ⟨g.1, _, _, g.2⟩
/-- (a)mm -/
theorem mark2_tree (a : ByteArray) (m : Nat) (hm : m = 178 ∨ m = 8242) (ga : good a = true) (S : ByteArray) (hS : S = inBr a ++ Utf8.encode (m : Int) ++ Utf8.encode (m : Int)) (h : S.size ≤ 120) :
    good S = true ∧ ∃ p p' q, treeT S = .un m p (.un m p' ((treeT a).shift q)) := by
  have k1 : known m = true := by rcases hm with rfl | rfl <;> decide
  have k2 : m ≠ 32 := by omega
  have k3 : isMk (m : Int) = true := by rcases hm with rfl | rfl <;> decide
  have s1 : Sits S 0 (inBr a ++ Utf8.encode (m : Int) ++ Utf8.encode (m : Int)) := by rw [← hS]; exact Sits.all S
  have hsz : S.size = (a.size + 2) + (Utf8.encode (m : Int)).size + (Utf8.encode (m : Int)).size := by rw [hS, ByteArray.size_append, ByteArray.size_append, inBr_size]
  have sc := s1.left.right
  have sd := s1.right
  rw [inBr_size, Nat.zero_add] at sc
  rw [ByteArray.size_append, inBr_size, Nat.zero_add] at sd
  have r1 := br_two (by omega) ga s1.left.left false e0
  simp only [Nat.zero_add] at r1
  rw [toks_sits k1 k2 sc false, PT_6, if_pos k3, toks_sits k1 k2 sd false, PT_6, if_pos k3, at_end S (a.size + 2 + (Utf8.encode (m : Int)).size + (Utf8.encode (m : Int)).size) (by omega), PT6_end] at r1
  have g := good_of h rfl (PT01_end r1).2
  exact ⟨g.1, _, _, _, g.2⟩
/-- −(a) -/
theorem neg_tree (a : ByteArray) (ga : good a = true) (S : ByteArray) (hS : S = Utf8.encode ((8722 : Nat) : Int) ++ inBr a) (h : S.size ≤ 120) :
    good S = true ∧ ∃ p q, treeT S = .un 110 p ((treeT a).shift q) := by
  have s1 : Sits S 0 (Utf8.encode ((8722 : Nat) : Int) ++ inBr a) := by rw [← hS]; exact Sits.all S
  have hsz : S.size = (Utf8.encode ((8722 : Nat) : Int)).size + (a.size + 2) := by rw [hS, ByteArray.size_append, inBr_size]
  have sc := s1.right
  rw [Nat.zero_add] at sc
  have r1 := br_two (by omega) ga sc false e0
  rw [at_end S ((Utf8.encode ((8722 : Nat) : Int)).size + a.size + 2) (by omega), PT6_end] at r1
  have r2 : PT 2 e0 (toks S 0 false) = ⟨true, .un 110 0 ((treeT a).shift ((Utf8.encode ((8722 : Nat) : Int)).size + 1)), [⟨-1, S.size, false⟩]⟩ := by
    rw [toks_sits (n := 8722) (by decide) (by decide) s1.left false, Nat.zero_add, PT_2, if_pos (show ((8722 : Nat) : Int) = 8722 from rfl), r1, if_pos rfl]
  have g := good_of h rfl (PT01_end r2).2
  exact ⟨g.1, _, _, g.2⟩
/-- n+(b), n a name -/
theorem name_tree (n : Nat) (hn : 945 ≤ n ∧ n ≤ 969) (b : ByteArray) (gb : good b = true) (S : ByteArray) (hS : S = Utf8.encode (n : Int) ++ Utf8.encode ((43 : Nat) : Int) ++ inBr b) (h : S.size ≤ 120) :
    good S = true ∧ ∃ p r, treeT S = .bin 43 p (.leaf n 0) ((treeT b).shift r) := by
  have kn : known n = true := by unfold known; simp; omega
  have s1 : Sits S 0 (Utf8.encode (n : Int) ++ Utf8.encode ((43 : Nat) : Int) ++ inBr b) := by rw [← hS]; exact Sits.all S
  have hsz : S.size = (Utf8.encode (n : Int)).size + (Utf8.encode ((43 : Nat) : Int)).size + (b.size + 2) := by
    rw [hS, ByteArray.size_append, ByteArray.size_append, inBr_size]
  have sc := s1.left.right
  have sb := s1.right
  rw [Nat.zero_add] at sc
  rw [ByteArray.size_append, Nat.zero_add] at sb
  have r2 := toks_sits (n := 43) (by decide) (by decide) sc false
  have r4 : ∀ e, PT 2 e (toks S ((Utf8.encode (n : Int)).size + (Utf8.encode ((43 : Nat) : Int)).size) false) = ⟨true, (treeT b).shift ((Utf8.encode (n : Int)).size + (Utf8.encode ((43 : Nat) : Int)).size + 1), [⟨-1, S.size, false⟩]⟩ := fun e => by
    rw [br_two (by omega) gb sb false e, at_end S _ (by omega), PT6_end]
  have r1 : PT 2 e0 (toks S 0 false) = PT 6 (.leaf n 0) (toks S (Utf8.encode (n : Int)).size false) := by
    have i1 : (isDig (n : Int) || isFrac (n : Int)) = false := by unfold isDig isFrac; simp; omega
    have i2 : isNm (n : Int) = true := by unfold isNm; simp; omega
    have h3 : PT 3 e0 (toks S 0 false) = ⟨true, .leaf n 0, toks S (Utf8.encode (n : Int)).size false⟩ := by
      rw [toks_sits kn (by omega) s1.left.left false, Nat.zero_add, PT_3, if_neg (by rw [i1]; decide), if_pos (Or.inr i2)]
    rw [toks_sits kn (by omega) s1.left.left false, Nat.zero_add] at h3 ⊢
    rw [PT_2, if_neg (show ¬ ((n : Int) = 8722) by omega), h3, if_pos rfl]
  have := two_read (Or.inl rfl) _ _ e0 r1 r2 r4
  have g := good_of h rfl this
  exact ⟨g.1, _, _, g.2⟩

/-! ### Places don't tell in numbers -/
theorem evT_shift (env : Env) (k : Nat) : ∀ e, (∀ x, evT env e = .ok x → evT env (e.shift k) = .ok x) ∧ (∀ q p, evT env e = .err q p → ∃ p', evT env (e.shift k) = .err q p') := by
  intro e
  induction e with
  | num l p => exact ⟨fun x h => h, fun q p h => by cases h⟩
  | leaf c p => exact ⟨fun x h => h, fun q p h => by cases h⟩
  | un c p e ih =>
    simp only [Ex.shift, evT]
    cases he : evT env e with
    | ok x =>
      rw [ih.1 x he]
      simp only
      cases opP c x x with
      | ok y => exact ⟨fun z h => h, fun q p h => by cases h⟩
      | err q => exact ⟨fun z h => (by cases h), fun q p h => by injection h with h1 h2; subst h1; exact ⟨_, rfl⟩⟩
    | err q p2 =>
      obtain ⟨p', hp⟩ := ih.2 q p2 he
      rw [hp]
      exact ⟨fun z h => (by cases h), fun q p h => by injection h with h1 h2; subst h1; exact ⟨_, rfl⟩⟩
  | bin c p l r ihl ihr =>
    simp only [Ex.shift, evT]
    cases hl : evT env l with
    | ok x =>
      rw [ihl.1 x hl]
      cases hr : evT env r with
      | ok y =>
        rw [ihr.1 y hr]
        simp only
        cases opP c x y with
        | ok y => exact ⟨fun z h => h, fun q p h => by cases h⟩
        | err q => exact ⟨fun z h => (by cases h), fun q p h => by injection h with h1 h2; subst h1; exact ⟨_, rfl⟩⟩
      | err q p2 =>
        obtain ⟨p', hp⟩ := ihr.2 q p2 hr
        rw [hp]
        exact ⟨fun z h => (by cases h), fun q p h => by injection h with h1 h2; subst h1; exact ⟨_, rfl⟩⟩
    | err q p2 =>
      obtain ⟨p', hp⟩ := ihl.2 q p2 hl
      rw [hp]
      exact ⟨fun z h => (by cases h), fun q p h => by injection h with h1 h2; subst h1; exact ⟨_, rfl⟩⟩
theorem missT_shift (env : Env) (k : Nat) : ∀ e, missT env (e.shift k) = (missT env e).map (· + k) := by
  intro e
  induction e with
  | num l p => rfl
  | leaf c p =>
    simp only [Ex.shift, missT]
    split <;> rfl
  | un c p e ih => exact ih
  | bin c p l r ihl ihr =>
    simp only [Ex.shift, missT]
    rw [ihl, ihr]
    cases missT env l <;> rfl
end Go.Proofs.YtodabmkcihafhaaGreatDoor

/- Plain: the one form of a tree, as signs and as bytes. -/
namespace Go.Proofs.YtodabmkcihafhaaGreatDoor
set_option linter.unusedVariables false

def opE : Ex → Int
  | .num _ _ => 48
  | .leaf c _ => c
  | .un c _ _ => c
  | .bin c _ _ _ => c
/-- The one form of a tree. -/
def fmE : Ex → ByteArray
  | .num l _ => encAll l
  | .leaf c _ => Utf8.encode c
  | .un c _ e => if c = 110 then Utf8.encode 8722 ++ brk (rankP (opE e)) 2 (fmE e) else brk (rankP (opE e)) 3 (fmE e) ++ Utf8.encode c
  | .bin c _ l r => if c = 43 ∨ c = 8722 then brk (rankP (opE l)) 0 (fmE l) ++ Utf8.encode c ++ brk (rankP (opE r)) 1 (fmE r) else brk (rankP (opE l)) 1 (fmE l) ++ Utf8.encode c ++ brk (rankP (opE r)) 2 (fmE r)
def brkL (r least : Nat) (l : List Int) : List Int := if r < least then 40 :: (l ++ [41]) else l
/-- Its signs. -/
def sgE : Ex → List Int
  | .num l _ => l
  | .leaf c _ => [c]
  | .un c _ e => if c = 110 then 8722 :: brkL (rankP (opE e)) 2 (sgE e) else brkL (rankP (opE e)) 3 (sgE e) ++ [c]
  | .bin c _ l r => if c = 43 ∨ c = 8722 then brkL (rankP (opE l)) 0 (sgE l) ++ c :: brkL (rankP (opE r)) 1 (sgE r) else brkL (rankP (opE l)) 1 (sgE l) ++ c :: brkL (rankP (opE r)) 2 (sgE r)
def Ex.plain : Ex → Ex
  | .num l _ => .num l 0
  | .leaf c _ => .leaf c 0
  | .un c _ e => .un c 0 e.plain
  | .bin c _ l r => .bin c 0 l.plain r.plain

theorem un_cases {c : Int} (h : isUn c = true) : c = 110 ∨ c = 178 ∨ c = 8242 := by
  unfold isUn at h
  simp at h
  omega
theorem bin_cases {c : Int} (h : isBin c = true) : c = 43 ∨ c = 8722 ∨ c = 215 ∨ c = 247 := by
  unfold isBin at h
  simp at h
  omega
theorem leaf_cases {c : Int} (h : c = 105 ∨ isNm c = true) : c = 105 ∨ (945 ≤ c ∧ c ≤ 969) := by
  unfold isNm at h
  simp at h
  exact h
theorem enc_brk (r least : Nat) (l : List Int) : encAll (brkL r least l) = brk r least (encAll l) := by
  unfold brkL brk
  split
  · rw [encAll_cons, encAll_append]
    have e1 : Utf8.encode 40 = ⟨#[40]⟩ := brO
    have e2 : encAll [41] = ⟨#[41]⟩ := by
      rw [encAll_cons]
      have : Utf8.encode 41 = ⟨#[41]⟩ := brC
      rw [this]
      rfl
    rw [e1, e2, ByteArray.append_assoc]
  · rfl
theorem enc_one' (c : Int) : encAll [c] = Utf8.encode c := by
  rw [encAll_cons]
  show Utf8.encode c ++ ByteArray.empty = _
  simp
theorem fmE_enc : ∀ e : Ex, fmE e = encAll (sgE e) := by
  intro e
  induction e with
  | num l p => rfl
  | leaf c p => exact (enc_one' c).symm
  | un c p e ih =>
    simp only [fmE, sgE]
    split
    · rw [encAll_cons, enc_brk, ih]
    · rw [encAll_append, enc_brk, ih, enc_one']
  | bin c p l r ihl ihr =>
    simp only [fmE, sgE]
    split
    · rw [encAll_append, encAll_cons, enc_brk, enc_brk, ihl, ihr, ByteArray.append_assoc]
    · rw [encAll_append, encAll_cons, enc_brk, enc_brk, ihl, ihr, ByteArray.append_assoc]
theorem opE_plain : ∀ e : Ex, opE e.plain = opE e := by intro e; cases e <;> rfl
theorem fmE_plain : ∀ e : Ex, fmE e.plain = fmE e := by
  intro e
  induction e with
  | num l p => rfl
  | leaf c p => rfl
  | un c p e ih => simp only [Ex.plain, fmE, ih, opE_plain]
  | bin c p l r ihl ihr => simp only [Ex.plain, fmE, ihl, ihr, opE_plain]
theorem fmE_same {a b : Ex} (h : a.plain = b.plain) : fmE a = fmE b := by rw [← fmE_plain a, ← fmE_plain b, h]
theorem shift_plain (k : Nat) : ∀ e : Ex, (e.shift k).plain = e.plain := by
  intro e
  induction e with
  | num l p => rfl
  | leaf c p => rfl
  | un c p e ih => simp only [Ex.shift, Ex.plain, ih]
  | bin c p l r ihl ihr => simp only [Ex.shift, Ex.plain, ihl, ihr]

/-! ### What is a sign of a form -/
def isSg (c : Int) : Bool := isDig c || isFrac c || c == 105 || isNm c || c == 40 || c == 41 || isBin c || isMk c
theorem isSg_known {c : Int} (h : isSg c = true) : ∃ n : Nat, c = n ∧ known n = true ∧ n ≠ 32 := by
  unfold isSg isDig isFrac isNm isBin isMk at h
  simp at h
  have h0 : 0 ≤ c := by omega
  refine ⟨c.toNat, by omega, ?_, by omega⟩
  unfold known
  simp
  omega
theorem nume_sg {l : List Int} (h : NumeOk l) : ∀ c ∈ l, isSg c = true := by
  have f : ∀ c, isFrac c = true → isSg c = true := fun c h => by unfold isSg; simp [h]
  have d : ∀ c, isDig c = true → isSg c = true := fun c h => by unfold isSg; simp [h]
  rcases h with ⟨c, rfl, hc⟩ | ⟨c, ds, fr, rfl, h1, h2, h3, h4, h5⟩
  · intro x hx
    simp at hx
    subst hx
    exact f _ hc
  · intro x hx
    simp at hx
    rcases hx with rfl | hx | hx
    · exact d _ h1
    · exact d _ (h4 _ hx)
    · rcases h5 with rfl | ⟨y, rfl, hy⟩
      · simp at hx
      · simp at hx; subst hx; exact f _ hy
theorem brk_sg {r least : Nat} {l : List Int} (h : ∀ c ∈ l, isSg c = true) : ∀ c ∈ brkL r least l, isSg c = true := by
  unfold brkL
  split
  · intro c hc
    simp at hc
    rcases hc with rfl | hc | rfl
    · decide
    · exact h c hc
    · decide
  · exact h
theorem sg_all : ∀ e : Ex, ExOk e → ∀ c ∈ sgE e, isSg c = true := by
  intro e
  induction e with
  | num l p => intro h; exact nume_sg h
  | leaf c p =>
    intro h x hx
    have hc := leaf_cases h
    simp [sgE] at hx
    subst hx
    unfold isSg isNm
    simp
    omega
  | un c p e ih =>
    intro h
    have hc := un_cases h.1
    have i := ih h.2
    simp only [sgE]
    split
    · intro x hx
      simp at hx
      rcases hx with rfl | hx
      · decide
      · exact brk_sg i x hx
    · rename_i hn
      intro x hx
      simp at hx
      rcases hx with hx | rfl
      · exact brk_sg i x hx
      · rcases hc with hc | hc | hc
        · exact absurd hc hn
        · subst hc; decide
        · subst hc; decide
  | bin c p l r ihl ihr =>
    intro h
    have hs : isSg c = true := by unfold isSg; simp [h.1]
    have il := ihl h.2.1
    have ir := ihr h.2.2
    simp only [sgE]
    split <;>
    · intro x hx
      simp at hx
      rcases hx with hx | rfl | hx
      · exact brk_sg il x hx
      · exact hs
      · exact brk_sg ir x hx

/-! ### The signs of a written text -/
/-- Signs of a text without blanks, wherever they stand. -/
def Tk (l : List Int) (U : List Tok) : Prop := U.map (fun t => (t.c, t.a)) = l.map (fun c => (c, false))
theorem Tk.nil : Tk [] [] := rfl
theorem Tk.cons {c : Int} {p : Nat} {l : List Int} {U : List Tok} (h : Tk l U) : Tk (c :: l) (⟨c, p, false⟩ :: U) := by
  unfold Tk at *
  simp [h]
theorem Tk.cons_inv {c : Int} {l : List Int} {U : List Tok} (h : Tk (c :: l) U) : ∃ p V, U = ⟨c, p, false⟩ :: V ∧ Tk l V := by
  unfold Tk at h
  cases U with
  | nil => simp at h
  | cons t V =>
    simp at h
    obtain ⟨⟨h1, h2⟩, h3⟩ := h
    refine ⟨t.p, V, ?_, by unfold Tk; simpa using h3⟩
    cases t
    simp_all
theorem Tk.append_inv {l m : List Int} {U : List Tok} (h : Tk (l ++ m) U) : ∃ V W, U = V ++ W ∧ Tk l V ∧ Tk m W := by
  unfold Tk at h
  rw [List.map_append] at h
  obtain ⟨V, W, h1, h2, h3⟩ := List.map_eq_append_iff.1 h
  exact ⟨V, W, h1, h2, h3⟩
theorem toks_written : ∀ (l : List Int) (S : ByteArray) (i : Nat), (∀ c ∈ l, isSg c = true) → Sits S i (encAll l) → ∃ U, Tk l U ∧ toks S i false = U ++ toks S (i + (encAll l).size) false := by
  intro l
  induction l with
  | nil => intro S i _ _; exact ⟨[], Tk.nil, rfl⟩
  | cons c l ih =>
    intro S i hl hs
    obtain ⟨n, rfl, hk, hn⟩ := isSg_known (hl c (by simp))
    rw [encAll_cons] at hs ⊢
    obtain ⟨U, h1, h2⟩ := ih S (i + (Utf8.encode (n : Int)).size) (fun c hc => hl c (by simp [hc])) hs.right
    refine ⟨⟨n, i, false⟩ :: U, h1.cons, ?_⟩
    rw [toks_sits hk hn hs.left false, h2, ByteArray.size_append, Nat.add_assoc]
    rfl
end Go.Proofs.YtodabmkcihafhaaGreatDoor

/- Plain: what the program has of a list of nodes, and the list's form: both by the tree. -/
namespace Go.Proofs.YtodabmkcihafhaaGreatDoor
set_option linter.unusedVariables false

theorem opAt_last (L : List Nd) (n : Nd) : opAt (L ++ [n]) L.length = n.op := by
  unfold opAt
  simp

structure Flat (L : List Nd) (k : Nat) (e : Ex) : Prop where
  wf : WfL L
  lt : k < L.length
  dn : den L k = exV e
  fm : fm L k = fmE e
  op : opAt L k = opE e
theorem flat_of : ∀ (e : Ex) (L : List Nd), ExOk e → WfL L → Flat (L ++ e.flat L.length) (L.length + e.size - 1) e := by
  intro e
  induction e with
  | num l p =>
    intro L h hw
    have wn : WfN L.length (nNd l p) := wf_leaf (by decide) (by decide) rfl rfl
    show Flat (L ++ [nNd l p]) (L.length + 1 - 1) (.num l p)
    rw [Nat.add_sub_cancel]
    refine ⟨hw.snoc wn, by simp, ?_, ?_, opAt_last _ _⟩
    · rw [den_last _ _ hw wn]; rfl
    · rw [fm_last _ _ hw wn]; rfl
  | leaf c p =>
    intro L h hw
    have hc := leaf_cases h
    have n1 : isBin c = false := by unfold isBin; simp; omega
    have n2 : isUn c = false := by unfold isUn; simp; omega
    have wn : WfN L.length (opNd c 0 0 p) := wf_leaf (by omega) (by omega) n1 n2
    show Flat (L ++ [opNd c 0 0 p]) (L.length + 1 - 1) (.leaf c p)
    rw [Nat.add_sub_cancel]
    refine ⟨hw.snoc wn, by simp, ?_, ?_, opAt_last _ _⟩
    · rw [den_last _ _ hw wn]
      unfold nodeD
      show (if c = 43 ∨ c = 8722 then _ else if c = 215 ∨ c = 247 then _ else if c = 110 then _ else if c = 178 ∨ c = 8242 then _ else if c = 48 then _ else if c = 105 then _ else _) = _
      rw [if_neg (by omega), if_neg (by omega), if_neg (by omega), if_neg (by omega), if_neg (by omega)]
      rfl
    · rw [fm_last _ _ hw wn]
      unfold nodeF
      show (if c = 43 ∨ c = 8722 then _ else if c = 215 ∨ c = 247 then _ else if c = 110 then _ else if c = 178 ∨ c = 8242 then _ else if c = 48 then _ else _) = _
      rw [if_neg (by omega), if_neg (by omega), if_neg (by omega), if_neg (by omega), if_neg (by omega)]
      rfl
  | un c p e ih =>
    intro L h hw
    obtain ⟨h1, h2⟩ := h
    have i := ih L h2 hw
    have hc := un_cases h1
    have e1 : L ++ (Ex.un c p e).flat L.length = (L ++ e.flat L.length) ++ [opNd c (L.length + e.size - 1) 0 p] := by simp [Ex.flat]
    have e2 : L.length + (Ex.un c p e).size - 1 = (L ++ e.flat L.length).length := by simp [Ex.size, Ex.flat_length]
    rw [e1, e2]
    have n1 : isBin c = false := by unfold isBin; simp; omega
    have wn : WfN (L ++ e.flat L.length).length (opNd c (L.length + e.size - 1) 0 p) := wf_un (by omega) (by omega) n1 i.lt
    refine ⟨i.wf.snoc wn, by simp, ?_, ?_, opAt_last _ _⟩
    · rw [den_last _ _ i.wf wn]
      show nodeD (opNd c _ 0 p) (den _ (L.length + e.size - 1)) (den _ 0) = _
      rw [i.dn]
      rcases hc with rfl | rfl | rfl <;> rfl
    · rw [fm_last _ _ i.wf wn]
      show nodeF (opNd c _ 0 p) (rankP (opAt _ (L.length + e.size - 1))) _ (Go.Proofs.YtodabmkcihafhaaGreatDoor.fm _ (L.length + e.size - 1)) _ = _
      rw [i.fm, i.op]
      rcases hc with rfl | rfl | rfl <;> rfl
  | bin c p l r ihl ihr =>
    intro L h hw
    obtain ⟨h1, h2, h3⟩ := h
    have il := ihl L h2 hw
    have ir := ihr (L ++ l.flat L.length) h3 il.wf
    have e0 : (L ++ l.flat L.length).length = L.length + l.size := by simp [Ex.flat_length]
    rw [e0] at ir
    have hc := bin_cases h1
    have e1 : L ++ (Ex.bin c p l r).flat L.length = (L ++ l.flat L.length ++ r.flat (L.length + l.size)) ++ [opNd c (L.length + l.size - 1) (L.length + l.size + r.size - 1) p] := by simp [Ex.flat]
    have e2 : L.length + (Ex.bin c p l r).size - 1 = (L ++ l.flat L.length ++ r.flat (L.length + l.size)).length := by simp [Ex.size, Ex.flat_length] <;> omega
    rw [e1, e2]
    have lt1 : L.length + l.size - 1 < (L ++ l.flat L.length ++ r.flat (L.length + l.size)).length := by
      have := il.lt
      rw [List.length_append]
      omega
    have wn : WfN (L ++ l.flat L.length ++ r.flat (L.length + l.size)).length (opNd c (L.length + l.size - 1) (L.length + l.size + r.size - 1) p) := wf_bin (by omega) (by omega) lt1 ir.lt
    refine ⟨ir.wf.snoc wn, by simp, ?_, ?_, opAt_last _ _⟩
    · rw [den_last _ _ ir.wf wn]
      show nodeD (opNd c _ _ p) (den _ (L.length + l.size - 1)) (den _ (L.length + l.size + r.size - 1)) = _
      rw [ir.dn, den_append _ _ _ il.wf il.lt, il.dn]
      rcases hc with rfl | rfl | rfl | rfl <;> rfl
    · rw [fm_last _ _ ir.wf wn]
      show nodeF (opNd c _ _ p) (rankP (opAt _ (L.length + l.size - 1))) (rankP (opAt _ (L.length + l.size + r.size - 1))) (Go.Proofs.YtodabmkcihafhaaGreatDoor.fm _ (L.length + l.size - 1)) (Go.Proofs.YtodabmkcihafhaaGreatDoor.fm _ (L.length + l.size + r.size - 1)) = _
      rw [ir.fm, fm_append _ _ _ il.wf il.lt, il.fm, ir.op, opAt_append _ _ _ il.lt, il.op]
      rcases hc with rfl | rfl | rfl | rfl <;> rfl
/-- Of a text that is an expression: what the program reads, and its form. -/
theorem top_flat (s : ByteArray) (hg : good s = true) : den (top s).L (top s).k = exV (treeT s) ∧ fm (top s).L (top s).k = fmE (treeT s) := by
  obtain ⟨h1, h2, h3, _⟩ := top_tree s hg
  have f := flat_of (treeT s) [] h3 (fun k n h => by simp at h)
  simp only [List.nil_append, List.length_nil, Nat.zero_add] at f
  have hk : (top s).k = (treeT s).size - 1 := by omega
  rw [h1, hk]
  exact ⟨f.dn, f.fm⟩
end Go.Proofs.YtodabmkcihafhaaGreatDoor
