import Derived.Deep.AppendLies
import Derived.Deep.RegionLaw
import Derived.Deep.DeepCutAuto
import Derived.Test.YtodabmkcihafhaaGreatDoorB3
import Derived.Test.YtodabmkcihafhaaGreatDoorB1

/- Plain: which trees a reading gives; a tree's numbers from its list of nodes. -/
namespace Go.Proofs.YtodabmkcihafhaaGreatDoor

/-- A numeral's runes: a fraction alone, or up to three digits (the first not 0, but 0 itself) and perhaps a fraction. -/
def NumeOk (l : List Int) : Prop :=
  (∃ c, l = [c] ∧ isFrac c = true) ∨
  (∃ d ds fr, l = d :: (ds ++ fr) ∧ isDig d = true ∧ (d = 48 → ds = []) ∧ ds.length ≤ 2 ∧ (∀ c ∈ ds, isDig c = true) ∧ (fr = [] ∨ ∃ c, fr = [c] ∧ isFrac c = true))
def ExOk : Ex → Prop
  | .num l _ => NumeOk l
  | .leaf c _ => c = 105 ∨ isNm c = true
  | .un c _ e => isUn c = true ∧ ExOk e
  | .bin c _ l r => isBin c = true ∧ ExOk l ∧ ExOk r
/-- The places of a tree's leaves, from lo on and below hi, rise. -/
def PlOk : Nat → Nat → Ex → Prop
  | _, _, .num _ _ => True
  | lo, hi, .leaf _ p => lo ≤ p ∧ p < hi
  | lo, hi, .un _ _ e => PlOk lo hi e
  | lo, hi, .bin _ _ l r => ∃ m, lo ≤ m ∧ m ≤ hi ∧ PlOk lo m l ∧ PlOk m hi r
theorem PlOk.mono : ∀ (e : Ex) (lo hi lo' hi' : Nat), lo' ≤ lo → hi ≤ hi' → PlOk lo hi e → PlOk lo' hi' e := by
  intro e
  induction e with
  | num l p => intro _ _ _ _ _ _ _; trivial
  | leaf c p => intro lo hi lo' hi' h1 h2 h; obtain ⟨a, b⟩ := h; exact ⟨by omega, by omega⟩
  | un c p e ih => intro lo hi lo' hi' h1 h2 h; exact ih lo hi lo' hi' h1 h2 h
  | bin c p l r ihl ihr =>
    intro lo hi lo' hi' h1 h2 h
    obtain ⟨m, a, b, c, d⟩ := h
    exact ⟨m, by omega, by omega, ihl _ _ _ _ h1 (Nat.le_refl _) c, ihr _ _ _ _ (Nat.le_refl _) h2 d⟩
def After (h : Nat) (ts : List Tok) : Prop := ∀ t ∈ ts, h ≤ t.p
def Rise (ts : List Tok) : Prop := ts.Pairwise (fun a b => a.p < b.p)
theorem Rise.tail {ts : List Tok} (h : Rise ts) : Rise ts.tail := by
  cases ts with
  | nil => exact h
  | cons t r => exact (List.pairwise_cons.1 h).2
theorem After.tail {k : Nat} {ts : List Tok} (h : After k ts) : After k ts.tail := fun t ht => h t (List.mem_of_mem_tail ht)
theorem after_tail {ts : List Tok} (h : Rise ts) (hne : 1 ≤ ts.length) : After (hp ts + 1) ts.tail := by
  cases ts with
  | nil => simp at hne
  | cons t r => exact fun u hu => (List.pairwise_cons.1 h).1 u hu
theorem After.hp {k : Nat} {ts : List Tok} (h : After k ts) (hne : 1 ≤ ts.length) : k ≤ hp ts := by
  cases ts with
  | nil => simp at hne
  | cons t r => exact h t (by simp)
theorem digs_suf : ∀ (n : Nat) (ts : List Tok), (digs n ts).2 <:+ ts := by
  intro n
  induction n with
  | zero => intro ts; exact List.suffix_refl _
  | succ n ih =>
    intro ts
    simp only [digs]
    split
    · exact (ih ts.tail).trans (List.tail_suffix ts)
    · exact List.suffix_refl _
theorem fracT_suf (ts : List Tok) : (fracT ts).2 <:+ ts := by
  unfold fracT
  split
  · exact List.tail_suffix ts
  · exact List.suffix_refl _
theorem numT_suf (ts : List Tok) : (numT ts).2 <:+ ts := by
  unfold numT
  split
  · exact List.tail_suffix ts
  · simp only
    refine (fracT_suf _).trans ?_
    split
    · exact List.tail_suffix ts
    · exact (digs_suf _ _).trans (List.tail_suffix ts)
theorem Rise.suf {a b : List Tok} (h : Rise b) (hs : a <:+ b) : Rise a := List.Pairwise.sublist hs.sublist h
theorem After.suf {k : Nat} {a b : List Tok} (h : After k b) (hs : a <:+ b) : After k a := fun t ht => h t (hs.subset ht)
theorem digs_ok : ∀ (n : Nat) (ts : List Tok), (digs n ts).1.length ≤ n ∧ ∀ c ∈ (digs n ts).1, isDig c = true := by
  intro n
  induction n with
  | zero => intro ts; exact ⟨Nat.le_refl _, fun c h => by simp [digs] at h⟩
  | succ n ih =>
    intro ts
    simp only [digs]
    split
    · rename_i h
      obtain ⟨a, b⟩ := ih ts.tail
      refine ⟨by simp; omega, ?_⟩
      intro c hc
      simp at hc
      rcases hc with rfl | hc
      · exact h
      · exact b c hc
    · exact ⟨by simp, fun c h => by simp at h⟩
theorem numT_ok (ts : List Tok) (h : (isDig (hd ts) || isFrac (hd ts)) = true) : NumeOk (numT ts).1 := by
  unfold numT
  by_cases hf : isFrac (hd ts) = true
  · rw [if_pos hf]; exact Or.inl ⟨_, rfl, hf⟩
  · rw [if_neg hf]
    have hdg : isDig (hd ts) = true := by
      rw [Bool.or_eq_true] at h
      rcases h with h | h
      · exact h
      · exact absurd h hf
    simp only
    have fr : ∀ us : List Tok, (fracT us).1 = [] ∨ ∃ c, (fracT us).1 = [c] ∧ isFrac c = true := by
      intro us
      unfold fracT
      split
      · rename_i q; exact Or.inr ⟨_, rfl, q⟩
      · exact Or.inl rfl
    by_cases h48 : hd ts = 48
    · rw [if_pos h48]
      exact Or.inr ⟨hd ts, [], _, rfl, hdg, fun _ => rfl, by simp, by simp, fr _⟩
    · rw [if_neg h48]
      obtain ⟨a, b⟩ := digs_ok 2 ts.tail
      exact Or.inr ⟨hd ts, _, _, rfl, hdg, fun e => absurd e h48, a, b, fr _⟩

/-- What a reading's tree keeps. -/
def TInv (lo : Nat) (T : RT) : Prop := T.ok = true → ExOk T.e ∧ Rise T.ts ∧ ∃ h, lo ≤ h ∧ PlOk lo h T.e ∧ After h T.ts

theorem pt_inv : ∀ (f tag : Nat) (e : Ex) (ts : List Tok) (lo : Nat), Rise ts → (tag < 4 → After lo ts) → (4 ≤ tag → ExOk e ∧ ∃ h, lo ≤ h ∧ PlOk lo h e ∧ After h ts) → TInv lo (pt f tag e ts) := by
  intro f
  induction f with
  | zero => intro tag e ts lo _ _ _ h; cases h
  | succ f ih =>
    have lw : ∀ (tag : Nat) (e : Ex) (ts : List Tok) (lo : Nat), tag < 4 → Rise ts → After lo ts → TInv lo (pt f tag e ts) := fun tag e ts lo h hr ha => ih tag e ts lo hr (fun _ => ha) (fun h' => by omega)
    have hg : ∀ (tag : Nat) (e : Ex) (ts : List Tok) (lo h : Nat), 4 ≤ tag → Rise ts → ExOk e → lo ≤ h → PlOk lo h e → After h ts → TInv lo (pt f tag e ts) := fun tag e ts lo h ht hr he hl hp ha => ih tag e ts lo hr (fun h' => by omega) (fun _ => ⟨he, h, hl, hp, ha⟩)
    have row : ∀ (tag sub : Nat) (e : Ex) (ts : List Tok) (lo : Nat), 4 ≤ tag → sub < 4 → isBin (hd ts) = true → Rise ts → ExOk e → (∃ h, lo ≤ h ∧ PlOk lo h e ∧ After h ts) →
        TInv lo (if (pt f sub e ts.tail).ok = true then pt f tag (.bin (hd ts) (hp ts) e (pt f sub e ts.tail).e) (pt f sub e ts.tail).ts else pt f sub e ts.tail) := by
      intro tag sub e ts lo ht hs hb hr he hP
      obtain ⟨h, hl, hp', ha⟩ := hP
      by_cases ho : (pt f sub e ts.tail).ok = true
      · rw [if_pos ho]
        obtain ⟨i1, i2, h2, hl2, i3, i4⟩ := lw sub e ts.tail h hs hr.tail ha.tail ho
        exact hg tag _ _ lo h2 ht i2 ⟨hb, he, i1⟩ (by omega) ⟨h, hl, hl2, hp', i3⟩ i4
      · rw [if_neg ho]; intro h'; exact absurd h' ho
    intro tag e ts lo hr hA hB
    match tag with
    | 0 =>
      simp only [pt]
      by_cases ho : (pt f 1 e ts).ok = true
      · rw [if_pos ho]
        obtain ⟨i1, i2, h2, hl2, i3, i4⟩ := lw 1 e ts lo (by decide) hr (hA (by decide)) ho
        exact hg 4 _ _ lo h2 (by decide) i2 i1 hl2 i3 i4
      · rw [if_neg ho]; intro h'; exact absurd h' ho
    | 1 =>
      simp only [pt]
      by_cases ho : (pt f 2 e ts).ok = true
      · rw [if_pos ho]
        obtain ⟨i1, i2, h2, hl2, i3, i4⟩ := lw 2 e ts lo (by decide) hr (hA (by decide)) ho
        exact hg 5 _ _ lo h2 (by decide) i2 i1 hl2 i3 i4
      · rw [if_neg ho]; intro h'; exact absurd h' ho
    | 2 =>
      simp only [pt]
      by_cases h0 : hd ts = 8722
      · rw [if_pos h0]
        by_cases ho : (pt f 2 e ts.tail).ok = true
        · rw [if_pos ho]
          obtain ⟨i1, i2, h2, hl2, i3, i4⟩ := lw 2 e ts.tail lo (by decide) hr.tail (hA (by decide)).tail ho
          exact fun _ => ⟨⟨rfl, i1⟩, i2, h2, hl2, i3, i4⟩
        · rw [if_neg ho]; intro h'; exact absurd h' ho
      · rw [if_neg h0]
        by_cases ho : (pt f 3 e ts).ok = true
        · rw [if_pos ho]
          obtain ⟨i1, i2, h2, hl2, i3, i4⟩ := lw 3 e ts lo (by decide) hr (hA (by decide)) ho
          exact hg 6 _ _ lo h2 (by decide) i2 i1 hl2 i3 i4
        · rw [if_neg ho]; intro h'; exact absurd h' ho
    | 3 =>
      have ha := hA (by decide)
      simp only [pt]
      by_cases h1 : (isDig (hd ts) || isFrac (hd ts)) = true
      · rw [if_pos h1]
        exact fun _ => ⟨numT_ok ts h1, hr.suf (numT_suf ts), lo, Nat.le_refl _, trivial, ha.suf (numT_suf ts)⟩
      · rw [if_neg h1]
        by_cases h2 : hd ts = 105 ∨ isNm (hd ts) = true
        · rw [if_pos h2]
          have hne : hd ts ≠ -1 := by
            intro e
            rw [e] at h2
            revert h2; decide
          have hn := ne_of_hd hne
          have := ha.hp hn
          exact fun _ => ⟨h2, hr.tail, hp ts + 1, by omega, ⟨this, by omega⟩, after_tail hr hn⟩
        · rw [if_neg h2]
          by_cases h3 : hd ts = 40
          · rw [if_pos h3]
            by_cases ho : (pt f 0 e ts.tail).ok = true
            · rw [if_pos ho]
              obtain ⟨i1, i2, h2, hl2, i3, i4⟩ := lw 0 e ts.tail lo (by decide) hr.tail ha.tail ho
              split
              · exact fun _ => ⟨i1, i2.tail, h2, hl2, i3, i4.tail⟩
              · intro h; cases h
            · rw [if_neg ho]; intro h'; exact absurd h' ho
          · rw [if_neg h3]; intro h; cases h
    | 4 =>
      obtain ⟨he, hP⟩ := hB (by decide)
      simp only [pt]
      by_cases h0 : inRow 0 (hd ts) = true
      · rw [if_pos h0]
        exact row 4 1 e ts lo (by decide) (by decide) (by unfold inRow at h0; unfold isBin; simp at h0 ⊢; omega) hr he hP
      · rw [if_neg h0]
        exact fun _ => ⟨he, hr, hP⟩
    | 5 =>
      obtain ⟨he, hP⟩ := hB (by decide)
      simp only [pt]
      by_cases h0 : inRow 1 (hd ts) = true
      · rw [if_pos h0]
        exact row 5 2 e ts lo (by decide) (by decide) (by unfold inRow at h0; unfold isBin; simp at h0 ⊢; omega) hr he hP
      · rw [if_neg h0]
        exact fun _ => ⟨he, hr, hP⟩
    | n + 6 =>
      obtain ⟨he, h, hl, hp', ha⟩ := hB (by omega)
      simp only [pt]
      by_cases h0 : isMk (hd ts) = true
      · rw [if_pos h0]
        exact hg 6 _ _ lo h (by decide) hr.tail ⟨by unfold isMk at h0; unfold isUn; simp at h0 ⊢; omega, he⟩ hl hp' ha.tail
      · rw [if_neg h0]
        exact fun _ => ⟨he, hr, h, hl, hp', ha⟩

/-! ### The list, worked node by node -/
def stepN (env : Env) (vs : List Num) (n : Nd) : Got :=
  if n.op = 48 then .ok ⟨lowP n.num n.den, ⟨0, 1⟩⟩
  else if n.op = 105 ∨ isNm n.op = true then .ok (leafN env n.op)
  else opP n.op (vs.getD n.a ⟨⟨0, 1⟩, ⟨0, 1⟩⟩) (vs.getD n.b ⟨⟨0, 1⟩, ⟨0, 1⟩⟩)
/-- What the nodes come to: their numbers behind those that are there, or the first error. -/
inductive Run where
  | ok (vs : List Num)
  | err (e : Int) (p : Nat)
def runL (env : Env) : List Num → List Nd → Run
  | vs, [] => .ok vs
  | vs, n :: r => match stepN env vs n with
    | .ok x => runL env (vs ++ [x]) r
    | .err e => .err e n.pl
theorem opP_un {c : Int} (h : isUn c = true) (x y z : Num) : opP c x y = opP c x z := by
  unfold isUn at h
  simp at h
  unfold opP
  rcases h with (rfl | rfl) | rfl <;> rfl
theorem runL_app (env : Env) : ∀ (a b : List Nd) (vs : List Num), runL env vs (a ++ b) = match runL env vs a with | .ok ws => runL env ws b | .err e p => .err e p := by
  intro a
  induction a with
  | nil => intro b vs; rfl
  | cons n r ih =>
    intro b vs
    simp only [List.cons_append, runL]
    cases stepN env vs n with
    | ok x => exact ih b _
    | err e => rfl
theorem runL_tree (env : Env) : ∀ (e : Ex) (vs : List Num), ExOk e →
    match evT env e with
    | .ok x => ∃ ws, runL env vs (e.flat vs.length) = .ok (vs ++ ws ++ [x]) ∧ ws.length + 1 = e.size
    | .err q p => runL env vs (e.flat vs.length) = .err q p := by
  intro e
  induction e with
  | num l p =>
    intro vs _
    refine ⟨[], ?_, rfl⟩
    simp [Ex.flat, runL, stepN, nNd, numeN]
  | leaf c p =>
    intro vs h
    refine ⟨[], ?_, rfl⟩
    have h' : c = 105 ∨ isNm c = true := h
    have h48 : ¬ c = 48 := by
      rcases h' with h | h
      · omega
      · unfold isNm at h; simp at h; omega
    simp only [Ex.flat, runL, stepN, opNd, h48, if_false, h', if_true]
    simp
  | un c p e ih =>
    intro vs h
    obtain ⟨hc, he⟩ := h
    have hn : ¬ (c = 105 ∨ isNm c = true) ∧ ¬ c = 48 := by
      unfold isUn at hc; unfold isNm
      simp at hc ⊢; omega
    have i := ih vs he
    simp only [evT, Ex.flat]
    rw [runL_app]
    cases hev : evT env e with
    | err q r =>
      rw [hev] at i
      simp only at i ⊢
      rw [i]
    | ok x =>
      rw [hev] at i
      obtain ⟨ws, i1, i2⟩ := i
      simp only
      rw [i1]
      have hg : (vs ++ ws ++ [x]).getD (vs.length + e.size - 1) ⟨⟨0, 1⟩, ⟨0, 1⟩⟩ = x := by
        rw [show vs.length + e.size - 1 = (vs ++ ws).length by simp; omega]
        simp
      have hst : stepN env (vs ++ ws ++ [x]) (opNd c (vs.length + e.size - 1) 0 p) = opP c x x := by
        unfold stepN opNd
        simp only
        rw [if_neg hn.2, if_neg hn.1, hg]
        exact opP_un hc _ _ _
      simp only [runL, hst]
      cases hop : opP c x x with
      | ok y =>
        refine ⟨ws ++ [x], ?_, ?_⟩
        · simp
        · simp [Ex.size]; omega
      | err q => rfl
  | bin c p l r ihl ihr =>
    intro vs h
    obtain ⟨hc, hl, hr⟩ := h
    have hn : ¬ (c = 105 ∨ isNm c = true) ∧ ¬ c = 48 := by
      unfold isBin at hc; unfold isNm
      simp at hc ⊢; omega
    have i := ihl vs hl
    simp only [evT, Ex.flat]
    rw [runL_app, runL_app]
    cases hev : evT env l with
    | err q s =>
      rw [hev] at i
      simp only at i ⊢
      rw [i]
    | ok x =>
      rw [hev] at i
      obtain ⟨ws, i1, i2⟩ := i
      simp only
      rw [i1]
      have hlen : (vs ++ ws ++ [x]).length = vs.length + l.size := by simp; omega
      have j := ihr (vs ++ ws ++ [x]) hr
      rw [hlen] at j
      cases hev2 : evT env r with
      | err q s =>
        rw [hev2] at j
        simp only at j ⊢
        rw [j]
      | ok y =>
        rw [hev2] at j
        obtain ⟨us, j1, j2⟩ := j
        simp only
        rw [j1]
        have hgb : (vs ++ ws ++ [x] ++ us ++ [y]).getD (vs.length + l.size + r.size - 1) ⟨⟨0, 1⟩, ⟨0, 1⟩⟩ = y := by
          rw [show vs.length + l.size + r.size - 1 = (vs ++ ws ++ [x] ++ us).length by simp; omega]
          simp
        have hga : (vs ++ ws ++ [x] ++ us ++ [y]).getD (vs.length + l.size - 1) ⟨⟨0, 1⟩, ⟨0, 1⟩⟩ = x := by
          rw [show vs.length + l.size - 1 = (vs ++ ws).length by simp; omega]
          rw [show vs ++ ws ++ [x] ++ us ++ [y] = (vs ++ ws) ++ (x :: (us ++ [y])) by simp]
          simp
        have hst : stepN env (vs ++ ws ++ [x] ++ us ++ [y]) (opNd c (vs.length + l.size - 1) (vs.length + l.size + r.size - 1) p) = opP c x y := by
          unfold stepN opNd
          simp only
          rw [if_neg hn.2, if_neg hn.1, hga, hgb]
        simp only [runL, hst]
        cases hop : opP c x y with
        | ok z =>
          refine ⟨ws ++ [x] ++ us ++ [y], ?_, ?_⟩
          · simp
          · simp [Ex.size]; omega
        | err q => rfl

/-! ### The first name that is missing, from the list -/
def missN (env : Env) (n : Nd) : Bool := isNm n.op && (env n.op).isNone
def missStep (env : Env) (acc : Int) (n : Nd) : Int := if missN env n && (decide (acc < 0) || decide ((n.pl : Int) < acc)) then n.pl else acc
def missL (env : Env) (l : List Nd) (acc : Int) : Int := l.foldl (missStep env) acc
theorem missStep_no {env : Env} {n : Nd} (h : missN env n = false) (acc : Int) : missStep env acc n = acc := by
  unfold missStep
  rw [h]
  rfl
theorem missL_tree (env : Env) : ∀ (e : Ex) (o lo hi : Nat) (acc : Int), ExOk e → PlOk lo hi e → (acc = -1 ∨ (0 ≤ acc ∧ acc < lo)) →
    missL env (e.flat o) acc = (if acc = -1 then (match missT env e with | some p => (p : Int) | none => -1) else acc) ∧ (∀ p, missT env e = some p → lo ≤ p ∧ p < hi) := by
  intro e
  induction e with
  | num l p =>
    intro o lo hi acc _ _ ha
    refine ⟨?_, fun p h => by cases h⟩
    have hno : missN env (nNd l p) = false := by simp [missN, nNd, isNm]
    have : missL env ([nNd l p]) acc = acc := missStep_no hno acc
    simp only [Ex.flat, this, missT]
    split
    · assumption
    · rfl
  | leaf c p =>
    intro o lo hi acc hok hpl ha
    obtain ⟨h1, h2⟩ := hpl
    have hok' : c = 105 ∨ isNm c = true := hok
    by_cases hm : c = 105 ∨ (env c).isSome = true
    · have hno : missN env (opNd c 0 0 p) = false := by
        unfold missN opNd
        simp only
        rcases hm with h | h
        · rw [h]; rfl
        · cases hv : env c with
          | none => rw [hv] at h; cases h
          | some v => simp
      have e1 : missL env ([opNd c 0 0 p]) acc = acc := missStep_no hno acc
      simp only [Ex.flat, e1, missT, if_pos hm]
      refine ⟨?_, fun p h => by cases h⟩
      split
      · assumption
      · rfl
    · have hyes : missN env (opNd c 0 0 p) = true := by
        unfold missN opNd
        simp only
        have hn : isNm c = true := by
          rcases hok' with h | h
          · exact absurd (Or.inl h) hm
          · exact h
        rw [hn]
        cases hv : env c with
        | none => rfl
        | some v => exact absurd (Or.inr (by rw [hv]; rfl)) hm
      have e1 : missL env ([opNd c 0 0 p]) acc = if acc = -1 then (p : Int) else acc := by
        show missStep env acc (opNd c 0 0 p) = _
        unfold missStep
        rw [hyes]
        unfold opNd
        simp only
        rcases ha with ha | ha
        · rw [ha]; rfl
        · rw [if_neg (show ¬ acc = -1 by omega)]
          have q1 : decide (acc < 0) = false := by simp; omega
          have q2 : decide ((p : Int) < acc) = false := by simp; omega
          rw [q1, q2]
          rfl
      simp only [Ex.flat, e1, missT, if_neg hm]
      refine ⟨?_, fun q h => ?_⟩
      · first | rfl | trivial
      · injection h with h; omega
  | un c p e ih =>
    intro o lo hi acc hok hpl ha
    obtain ⟨hc, he⟩ := hok
    have i := ih o lo hi acc he hpl ha
    have hno : missN env (opNd c (o + e.size - 1) 0 p) = false := by
      unfold missN opNd
      simp only
      have : isNm c = false := by
        unfold isUn at hc; unfold isNm
        simp at hc ⊢; omega
      rw [this]; rfl
    refine ⟨?_, i.2⟩
    have e1 : missL env (Ex.flat o (.un c p e)) acc = missL env (e.flat o) acc := by
      simp only [Ex.flat, missL, List.foldl_append, List.foldl_cons, List.foldl_nil]
      exact missStep_no hno _
    rw [e1]
    exact i.1
  | bin c p l r ihl ihr =>
    intro o lo hi acc hok hpl ha
    obtain ⟨hc, hl, hr⟩ := hok
    obtain ⟨m, m1, m2, pl, pr⟩ := hpl
    have hno : missN env (opNd c (o + l.size - 1) (o + l.size + r.size - 1) p) = false := by
      unfold missN opNd
      simp only
      have : isNm c = false := by
        unfold isBin at hc; unfold isNm
        simp at hc ⊢; omega
      rw [this]; rfl
    have e1 : missL env (Ex.flat o (.bin c p l r)) acc = missL env (r.flat (o + l.size)) (missL env (l.flat o) acc) := by
      simp only [Ex.flat, missL, List.foldl_append, List.foldl_cons, List.foldl_nil]
      exact missStep_no hno _
    have i := ihl o lo m acc hl pl ha
    rw [e1, i.1]
    simp only [missT]
    cases hml : missT env l with
    | some q =>
      have hq := i.2 q hml
      have j := ihr (o + l.size) m hi (if acc = -1 then (q : Int) else acc) hr pr (by split <;> omega)
      simp only
      refine ⟨?_, fun p' h => by injection h with h; omega⟩
      rw [j.1, if_neg (by split <;> omega)]
    | none =>
      have j := ihr (o + l.size) m hi acc hr pr (by omega)
      have e2 : (if acc = -1 then -1 else acc) = acc := by split <;> omega
      simp only [e2]
      exact ⟨j.1, fun p' h => by have := j.2 p' h; omega⟩
end Go.Proofs.YtodabmkcihafhaaGreatDoor

/- The document's reader: add. -/
namespace Go.Proofs.YtodabmkcihafhaaGreatDoor
open Go.RowKit
set_option linter.unusedVariables false

theorem nd_agg (n : Nd) : ndCells [n] = [.int .i64 n.op, .int .i64 n.a, .int .i64 n.b, .int .i64 n.num, .int .i64 n.den, .string n.text, .int .i64 n.pl] := rfl

theorem Tryz.infoNode : (Tryz.prog.info? 137).map (fun i => (i.zero, i.size, i.bytes)) = some (some (.agg #[.int .i64 0, .int .i64 0, .int .i64 0, .int .i64 0, .int .i64 0, .string ByteArray.empty, .int .i64 0]), 7, 64) := by kernel_rfl

def ndArr (n : Nd) : Array Value := #[.int .i64 n.op, .int .i64 n.a, .int .i64 n.b, .int .i64 n.num, .int .i64 n.den, .string n.text, .int .i64 n.pl]
theorem nd_one (n : Nd) : ∀ u ∈ n.cells, u.oneCell' = true := by
  intro u hu
  simp [Nd.cells] at hu
  rcases hu with rfl | rfl | rfl | rfl | rfl | rfl | rfl <;> rfl
theorem nd_new (w : World) (n : Nd) (o : Obj) : ∀ j u, n.cells[j]? = some u → (((w.alloc o).alloc (.cells #[.int .i64 n.op, .int .i64 n.a, .int .i64 n.b, .int .i64 n.num, .int .i64 n.den, .string n.text, .int .i64 n.pl] 137)).drew).cell? ((⟨w.heap.size + 1, 0, none⟩ : Addr).add j) = some u := by
  refine World.news_of_block (cs := #[.int .i64 n.op, .int .i64 n.a, .int .i64 n.b, .int .i64 n.num, .int .i64 n.den, .string n.text, .int .i64 n.pl]) (t := 137) (fr := (0, 0)) ?_
  have := heap_alloc_new (w.alloc o) (.cells #[.int .i64 n.op, .int .i64 n.a, .int .i64 n.b, .int .i64 n.num, .int .i64 n.den, .string n.text, .int .i64 n.pl] 137)
  rw [show (w.alloc o).heap.size = w.heap.size + 1 by simp] at this
  exact this
theorem ndCells_snoc (L : List Nd) (n : Nd) : ndCells L ++ n.cells = ndCells (L ++ [n]) := by simp [ndCells]

set_option maxHeartbeats 1000000 in
theorem add_any (s : ByteArray) (b i : Nat) (L : List Nd) (bad : Int) (n : Nd) (w : World) (hL : L.length ≤ 1000) (h : RdSt s b i L bad w) :
    Calls Tryz.prog 129 #[.pointer (some ⟨b, 0, none⟩), .agg #[.int .i64 n.op, .int .i64 n.a, .int .i64 n.b, .int .i64 n.num, .int .i64 n.den, .string n.text, .int .i64 n.pl]] w
      fun e w' => e = .returned (.int .i64 L.length) ∧ RdSt s b i (L ++ [n]) bad w' ∧ Below b w w' := by
  obtain ⟨v, hb, ho⟩ := h
  obtain ⟨c0, c1, c2, c3, f1, f2, f3⟩ := rd_cells hb
  have hlt : b < w.heap.size := (Array.getElem?_eq_some_iff.1 hb).1
  have Hb : Hid (w.heap[b]? = some (.cells #[.string s, .int .i64 i, v, .int .i64 bad] 201 (0, 0))) := hb
  have Ho : Hid (w.ownsRow (b + 1) 137 7 v L.length (ndCells L)) := ho
  clear hb ho
  go_enter Tryz.func129, Tryz.ntmps129
  go_wp2_with fail
  obtain ⟨i0, hi, hz0, hz1, hz2⟩ := info_parts Tryz.infoNode
  have Hi : Hid (Tryz.prog.info? 137 = some i0) := hi
  have Hz : Hid (i0.zero = some (.agg #[.int .i64 0, .int .i64 0, .int .i64 0, .int .i64 0, .int .i64 0, .string ByteArray.empty, .int .i64 0])) := hz0
  have Hz1 : Hid (i0.size = 7) := hz1
  have Hz2 : Hid (i0.bytes = 64) := hz2
  clear hi hz0 hz1 hz2
  go_region_law (
    refine step_append_lies _ rfl (.tmp 9) (.tmp 11) 131 rfl (b + 1) 137 i0 _ 7 64 Tryz.underlying131 Hi.out Hz.out Hz1.out Hz2.out rfl (by decide) v L.length (ndCells L) rfl ((Ho.out.alloc _).alloc _) ⟨w.heap.size + 1, 0, none⟩ 1 1 n.cells rfl rfl (nd_new w n _) (nd_one n) (by decide) (by unfold maxLen; omega) (by omega) (by simp; omega) (w.heap.size + 2) (by simp) ?_
    intro g cap w1 hown hgrow hat hlt1
    have hwb : w1.heap[b]? = w.heap[b]? := by
      rw [hgrow.block b (by simp; omega) (fun e => by have := (Ho.out.lt b e.symm).1; omega)]
      show ((w.alloc _).alloc _).heap[b]? = _
      rw [Below.heap_alloc _ _ _ (by simp; omega), Below.heap_alloc _ _ _ hlt]
    obtain ⟨d0, d1, d2, d3, k1, k2, k3⟩ := rd_cells (hwb.trans Hb.out)
    have X : Hid (w1.ownsRow (b + 1) 137 7 (.slice (some ⟨g, 0, none⟩) (L.length + 1) cap) (L.length + 1) (ndCells L ++ n.cells) ∧ w1.heap[b]? = some (.cells #[.string s, .int .i64 i, v, .int .i64 bad] 201 (0, 0)) ∧ Below b w w1) := by
      refine ⟨hown, hwb.trans Hb.out, ?_⟩
      exact ((((Below.refl b w).alloc (by omega) _).alloc (by simp; omega) _).drew).grown hgrow (by simp; omega) (fun k hk => by have := (Ho.out.lt k hk).1; omega)
    clear hown hgrow hat hwb)
  all_goals
    go_wp2
    go_ret
    obtain ⟨x1, x2, x3⟩ := X.out
    refine ⟨rfl, ⟨.slice (some ⟨g, 0, none⟩) (L.length + 1) cap, by simp [World.setCell, Array.getElem?_modify, x2], ?_⟩, x3.setCell (p := ⟨b, 2, none⟩) (Nat.le_refl b) _⟩
    rw [ndCells_snoc] at x1
    rw [show (L ++ [n]).length = L.length + 1 by simp]
    exact own_setCell x1 _ _
end Go.Proofs.YtodabmkcihafhaaGreatDoor

/- The document's reader: numeral. -/
namespace Go.Proofs.YtodabmkcihafhaaGreatDoor
open Go.RowKit
set_option linter.unusedVariables false

theorem RdSt.ext {s : ByteArray} {b i : Nat} {L : List Nd} {bad : Int} {w w' : World} (h : RdSt s b i L bad w) (he : ∀ k, k < w.heap.size → w'.heap[k]? = w.heap[k]?) : RdSt s b i L bad w' := by
  have hlt := h.lt
  obtain ⟨v, hb, ho⟩ := h
  refine ⟨v, (he b hlt).trans hb, ho.1, ?_⟩
  rcases ho.2 with h2 | ⟨g, cap, cur, hv, hg, hh, r⟩
  · exact Or.inl h2
  · exact Or.inr ⟨g, cap, cur, hv, hg, (he g (Array.getElem?_eq_some_iff.1 hh).1).trans hh, r⟩
theorem add_as (s : ByteArray) (b i : Nat) (L : List Nd) (bad : Int) (n : Nd) (V : Value) (w : World) (hL : L.length ≤ 1000) (h : RdSt s b i L bad w) (hV : V = .agg #[.int .i64 n.op, .int .i64 n.a, .int .i64 n.b, .int .i64 n.num, .int .i64 n.den, .string n.text, .int .i64 n.pl]) :
    Calls Tryz.prog 129 #[.pointer (some ⟨b, 0, none⟩), V] w
      fun e w' => e = .returned (.int .i64 L.length) ∧ RdSt s b i (L ++ [n]) bad w' ∧ Below b w w' := by
  subst hV
  exact add_any s b i L bad n w hL h
theorem RdSt.num1 {s : ByteArray} {b i : Nat} {L : List Nd} {bad : Int} {w : World} (h : RdSt s b i L bad w) (o : Obj) (m i' : Nat) (u : Value) : RdSt s b i' L bad (((((w.alloc o).drewN m).setCell ⟨b, 1, none⟩ (.int .i64 (i' : Nat))).setCell ⟨w.heap.size, 5, none⟩ u).drew) := by
  have hlt := h.lt
  refine (h.setI i').ext ?_
  intro k hk
  have hk2 : k < w.heap.size := by simpa [World.setCell] using hk
  show ((((w.alloc o).drewN m).setCell ⟨b, 1, none⟩ (.int .i64 (i' : Nat))).setCell ⟨w.heap.size, 5, none⟩ u).heap[k]? = _
  rw [Below.heap_setCell _ _ _ _ (by simp; omega)]
  by_cases e : k = b
  · subst e
    simp only [World.setCell, Array.getElem?_modify]
    rw [if_pos trivial, if_pos trivial]
    show Option.map _ (w.alloc o).heap[k]? = _
    rw [Below.heap_alloc _ _ _ hk2]
  · rw [Below.heap_setCell _ _ _ _ (by simpa using e), Below.heap_setCell _ _ _ _ (by simpa using e)]
    show (w.alloc o).heap[k]? = _
    rw [Below.heap_alloc _ _ _ hk2]
theorem below_num1 {b : Nat} {w0 w : World} (h : Below b w0 w) (hlt : b < w.heap.size) (o : Obj) (m : Nat) (u u' : Value) : Below b w0 (((((w.alloc o).drewN m).setCell ⟨b, 1, none⟩ u').setCell ⟨w.heap.size, 5, none⟩ u).drew) :=
  (((below_drewN (h.alloc (by omega) o) m).setCell (p := ⟨b, 1, none⟩) (Nat.le_refl b) _).setCell (p := ⟨w.heap.size, 5, none⟩) (by simp; omega) _).drew
theorem RdSt.alloc {s : ByteArray} {b i : Nat} {L : List Nd} {bad : Int} {w : World} (h : RdSt s b i L bad w) (o : Obj) : RdSt s b i L bad (w.alloc o) := by
  have hlt := h.lt
  obtain ⟨v, hb, ho⟩ := h
  exact ⟨v, by rw [Below.heap_alloc _ _ _ hlt]; exact hb, ho.alloc o⟩

theorem RdSt.num2 {s : ByteArray} {b i : Nat} {L : List Nd} {bad : Int} {w : World} (h : RdSt s b i L bad w) (o : Obj) : RdSt s b i L bad ((w.alloc o).drew) := h.alloc o
theorem skip_ex (s : ByteArray) (b i : Nat) (L : List Nd) (bad : Int) (w : World) (hs : s.size ≤ 120) (hi : i ≤ s.size) (h : RdSt s b i L bad w) :
    Calls Tryz.prog 128 #[.pointer (some ⟨b, 0, none⟩)] w fun e w' => e = .returned (.tuple #[]) ∧ ∃ n, w' = (w.drewN n).setCell ⟨b, 1, none⟩ (.int .i64 ((i + (atP s i).2 : Nat) : Int)) := by
  obtain ⟨v, hb, _⟩ := h
  obtain ⟨c0, c1, c2, c3, f1, f2, f3⟩ := rd_cells hb
  exact skip_exact s b i w hs hi c0 c1 f1

set_option maxHeartbeats 2000000 in
set_option maxRecDepth 100000 in
theorem numeral_any (s : ByteArray) (b i : Nat) (L : List Nd) (bad : Int) (w : World) (hs : s.size ≤ 120) (hL : L.length ≤ 1000) (hi : i < s.size) (h : RdSt s b i L bad w) :
    Calls Tryz.prog 159 #[.pointer (some ⟨b, 0, none⟩)] w
      fun e w' => e = .returned (.int .i64 L.length) ∧ RdSt s b (numEnd2 s i) (L ++ [numB s i]) bad w' ∧ Below b w w' := by
  have HH : Hid (RdSt s b i L bad w) := h
  obtain ⟨v, hb, _⟩ := h
  obtain ⟨c0, c1, c2, c3, f1, f2, f3⟩ := rd_cells hb
  clear hb
  go_enter Tryz.func159, Tryz.ntmps159
  go_wp2_with fail
  go_loopw [4, 5] (fun s4 s5 wr => ∃ k j n : Nat, k ≤ 3 ∧ s5 = .int .i64 k ∧ s4 = .int .i64 n ∧ j ≤ s.size ∧ i ≤ j ∧ n ≤ 999 ∧ Hid ((k = 0 ∧ n = 0) ∨ (k = 1 ∧ n ≤ 9) ∨ (k = 2 ∧ n ≤ 99) ∨ k = 3) ∧ Hid (digB s (bt s i == 48) (3 - k) j n = digB s (bt s i == 48) 3 i 0) ∧ RdSt s b j L bad wr ∧ Below b w wr) (fun _ s5 _ => 3 - (intOf s5).toNat)
  case atStart => exact ⟨0, i, 0, by omega, rfl, rfl, by omega, by omega, by omega, Or.inl ⟨rfl, rfl⟩, rfl, HH.out, Below.refl _ _⟩
  case round =>
    clear c0 c1 c2 c3 f1 f2 f3 HH
    obtain ⟨k, j, n, hk, rfl, rfl, hj, hij, hn, HN, HD, h, hbel⟩ := hrel
    have HH : Hid (RdSt s b j L bad wr) := h
    obtain ⟨v, hb, _⟩ := h
    obtain ⟨c0, c1, c2, c3, f1, f2, f3⟩ := rd_cells hb
    clear hb
    have g0 := bt_get s j
    have gi := bt_get s i
    go_wp2_with fail
    go_cut [64] (fun s64 wc => s64 = .bool (decide (k < 3 ∧ j < s.size ∧ 48 ≤ bt s j ∧ bt s j ≤ 57 ∧ ¬ (k = 1 ∧ bt s i = 48))) ∧ ∃ n, wc = wr.drewN n)
    case first =>
      by_cases a1 : k < 3
      · have A1 : (k : Int) < 3 := by omega
        by_cases a2 : j < s.size
        · have A2 : (j : Int) < s.size := by omega
          by_cases a3 : 48 ≤ bt s j
          · have A3 : (48 : Int) ≤ (bt s j : Nat) := by omega
            by_cases a4 : bt s j ≤ 57
            · have A4 : ((bt s j : Nat) : Int) ≤ 57 := by omega
              by_cases a5 : k = 1
              · have A5 : ((k : Int) == 1) = true := by simp; omega
                by_cases a6 : bt s i = 48
                · have A6 : (((bt s i : Nat) : Int) == 48) = true := by simp; omega
                  have B5 : Hid (k = 1) := a5
                  have B6 : Hid (bt s i = 48) := a6
                  clear a5 a6
                  go_quiet (fail)
                  go_wp2_with fail
                  go_meet
                  case rel => exact ⟨congrArg Value.bool (by have b5 := B5.out; have b6 := B6.out; simp; omega), _, rfl⟩
                · have A6 : (((bt s i : Nat) : Int) == 48) = false := by simp; omega
                  have B5 : Hid (k = 1) := a5
                  clear a5
                  go_quiet (fail)
                  go_wp2_with fail
                  go_meet
                  case rel => exact ⟨congrArg Value.bool (by simp; omega), _, rfl⟩
              · have A5 : ((k : Int) == 1) = false := by simp; omega
                go_quiet (fail)
                go_wp2_with fail
                go_meet
                case rel => exact ⟨congrArg Value.bool (by simp; omega), _, rfl⟩
            · have A4 : decide (((bt s j : Nat) : Int) ≤ 57) = false := by simp; omega
              go_quiet (fail)
              go_wp2_with fail
              go_meet
              case rel => exact ⟨congrArg Value.bool (by simp; omega), _, rfl⟩
          · have A3 : decide ((48 : Int) ≤ (bt s j : Nat)) = false := by simp; omega
            go_quiet (fail)
            go_wp2_with fail
            go_meet
            case rel => exact ⟨congrArg Value.bool (by simp; omega), _, rfl⟩
        · have A2 : decide ((j : Int) < s.size) = false := by simp; omega
          go_quiet (fail)
          go_wp2_with fail
          go_meet
          case rel => exact ⟨congrArg Value.bool (by simp; omega), _, rfl⟩
      · have A1 : decide ((k : Int) < 3) = false := by simp; omega
        go_quiet (fail)
        go_wp2_with fail
        go_meet
        case rel => exact ⟨congrArg Value.bool (by simp; omega), _, rfl⟩
    case rest =>
      obtain ⟨rfl, m, rfl⟩ := hcut
      have HW : Hid (RdSt s b j L bad (wr.drewN m)) := HH.out.drewN m
      have hbel2 := below_drewN hbel m
      generalize wr.drewN m = W at *
      clear c0 c1 c2 c3 f1 f2 f3 HH hbel
      obtain ⟨v2, hb2, _⟩ := HW.out
      obtain ⟨c0, c1, c2, c3, f1, f2, f3⟩ := rd_cells hb2
      clear hb2
      by_cases hc : k < 3 ∧ j < s.size ∧ 48 ≤ bt s j ∧ bt s j ≤ 57 ∧ ¬(k = 1 ∧ bt s i = 48)
      · rw [decide_eq_true hc]
        have A2 : (j : Int) < s.size := by omega
        have wb := wrapN (bt s j) (by omega)
        have A3 : (48 : Int) ≤ (bt s j : Nat) := by omega
        have A4 : ((bt s j : Nat) : Int) ≤ 57 := by omega
        have HC : Hid (k < 3 ∧ j < s.size ∧ 48 ≤ bt s j ∧ bt s j ≤ 57 ∧ ¬(k = 1 ∧ bt s i = 48)) := hc
        clear hc
        go_wp2_with fail
        go_quiet (fail)
        go_wp2_with fail
        have hc := HC.out
        have hnn := HN.out
        refine ⟨⟨k + 1, j + 1, 10 * n + (bt s j - 48), by omega, by go_num, ?_, by omega, by omega, by omega, ?_, ?_, (HW.out.drewN nq).setI (j + 1), (below_drewN hbel2 nq).setCell (p := ⟨b, 1, none⟩) (Nat.le_refl b) _⟩, by simp [intOf]; omega⟩
        · congr 1; omega
        · show _ ∨ _; omega
        · show digB _ _ _ _ _ = _; rw [← digB_go s i k j n hc]; exact HD.out
      · rw [decide_eq_false hc]
        have HE : Hid ((j, n) = digB s (bt s i == 48) 3 i 0) := by
          have := HD.out
          rw [digB_stop s i k j n hk hc] at this
          exact this
        clear HD hc HN
        obtain ⟨hl, hl2, _⟩ := atP_le s j
        have hl2 := hl2 hj
        go_wp2_with fail
        go_quiet ((go_at_call 112; exact Calls.quiet_of (at_any _ _ _ (by omega) (by omega))))
        have HW2 : Hid (RdSt s b j L bad (W.drewN nq)) := HW.out.drewN nq
        have hbel3 := below_drewN hbel2 nq
        generalize W.drewN nq = W2 at *
        clear c0 c1 c2 c3 f1 f2 f3 HW hbel2
        have hlt : b < W2.heap.size := HW2.out.lt
        obtain ⟨v3, hb3, _⟩ := HW2.out
        obtain ⟨c0, c1, c2, c3, f1, f2, f3⟩ := rd_cells hb3
        clear hb3
        by_cases h189 : (atP s j).1 = 189
        · have H189 : (((atP s j).1 : Int) == 189) = true := by simp; omega
          have H188 : (((atP s j).1 : Int) == 188) = false := by simp; omega
          have H190 : (((atP s j).1 : Int) == 190) = false := by simp; omega
          have HF : Hid (fracOf (atP s j).1 n = (2 * n + 1, 2)) := by show fracOf _ _ = _; unfold fracOf; rw [if_pos h189]
          clear h189
          go_wp2_with fail
          refine (skip_ex s b j L bad _ hs hj (HW2.out.alloc _)).mono ?_
          rintro e w' ⟨rfl, nq2, rfl⟩
          go_wp2_with fail
          go_region
          go_wp2_with fail
          refine (add_as s b (j + (atP s j).2) L bad ⟨48, 0, 0, ((2 * n + 1 : Nat) : Int), 2, s.extract i (j + (atP s j).2), i⟩ _ _ hL (HW2.out.num1 _ _ _ _) (by simp)).mono ?_
          rintro e w' ⟨rfl, hR, hB⟩
          go_wp2_with fail
          go_ret
          obtain ⟨e1, e2⟩ := numB_eq s i j n (2 * n + 1) 2 HE.out HF.out
          rw [e1, e2, if_neg (by decide)]
          exact ⟨rfl, hR, (below_num1 hbel3 hlt _ _ _ _).trans hB⟩
        by_cases h188 : (atP s j).1 = 188
        · have H189 : (((atP s j).1 : Int) == 189) = false := by simp; omega
          have H188 : (((atP s j).1 : Int) == 188) = true := by simp; omega
          have H190 : (((atP s j).1 : Int) == 190) = false := by simp; omega
          have HF : Hid (fracOf (atP s j).1 n = (4 * n + 1, 4)) := by show fracOf _ _ = _; unfold fracOf; rw [if_neg h189, if_pos h188]
          clear h188
          go_wp2_with fail
          refine (skip_ex s b j L bad _ hs hj (HW2.out.alloc _)).mono ?_
          rintro e w' ⟨rfl, nq2, rfl⟩
          go_wp2_with fail
          go_region
          go_wp2_with fail
          refine (add_as s b (j + (atP s j).2) L bad ⟨48, 0, 0, ((4 * n + 1 : Nat) : Int), 4, s.extract i (j + (atP s j).2), i⟩ _ _ hL (HW2.out.num1 _ _ _ _) (by simp)).mono ?_
          rintro e w' ⟨rfl, hR, hB⟩
          go_wp2_with fail
          go_ret
          obtain ⟨e1, e2⟩ := numB_eq s i j n (4 * n + 1) 4 HE.out HF.out
          rw [e1, e2, if_neg (by decide)]
          exact ⟨rfl, hR, (below_num1 hbel3 hlt _ _ _ _).trans hB⟩
        by_cases h190 : (atP s j).1 = 190
        · have H189 : (((atP s j).1 : Int) == 189) = false := by simp; omega
          have H188 : (((atP s j).1 : Int) == 188) = false := by simp; omega
          have H190 : (((atP s j).1 : Int) == 190) = true := by simp; omega
          have HF : Hid (fracOf (atP s j).1 n = (4 * n + 3, 4)) := by show fracOf _ _ = _; unfold fracOf; rw [if_neg h189, if_neg h188, if_pos h190]
          clear h190
          go_wp2_with fail
          refine (skip_ex s b j L bad _ hs hj (HW2.out.alloc _)).mono ?_
          rintro e w' ⟨rfl, nq2, rfl⟩
          go_wp2_with fail
          go_region
          go_wp2_with fail
          refine (add_as s b (j + (atP s j).2) L bad ⟨48, 0, 0, ((4 * n + 3 : Nat) : Int), 4, s.extract i (j + (atP s j).2), i⟩ _ _ hL (HW2.out.num1 _ _ _ _) (by simp)).mono ?_
          rintro e w' ⟨rfl, hR, hB⟩
          go_wp2_with fail
          go_ret
          obtain ⟨e1, e2⟩ := numB_eq s i j n (4 * n + 3) 4 HE.out HF.out
          rw [e1, e2, if_neg (by decide)]
          exact ⟨rfl, hR, (below_num1 hbel3 hlt _ _ _ _).trans hB⟩
        have H189 : (((atP s j).1 : Int) == 189) = false := by simp; omega
        have H188 : (((atP s j).1 : Int) == 188) = false := by simp; omega
        have H190 : (((atP s j).1 : Int) == 190) = false := by simp; omega
        have HF : Hid (fracOf (atP s j).1 n = (n, 1)) := by show fracOf _ _ = _; unfold fracOf; rw [if_neg h189, if_neg h188, if_neg h190]
        clear h189 h188 h190
        go_wp2_with fail
        go_region
        go_wp2_with fail
        refine (add_as s b j L bad ⟨48, 0, 0, ((n : Nat) : Int), 1, s.extract i j, i⟩ _ _ hL (HW2.out.num2 _) (by rfl)).mono ?_
        rintro e w' ⟨rfl, hR, hB⟩
        go_wp2_with fail
        go_ret
        obtain ⟨e1, e2⟩ := numB_eq s i j n n 1 HE.out HF.out
        rw [e1, e2, if_pos rfl]
        exact ⟨rfl, hR, ((hbel3.alloc (by omega) _).drew).trans hB⟩
end Go.Proofs.YtodabmkcihafhaaGreatDoor
