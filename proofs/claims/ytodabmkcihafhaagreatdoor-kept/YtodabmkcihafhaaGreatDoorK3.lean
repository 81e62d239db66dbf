import Derived.Test.YtodabmkcihafhaaGreatDoorRows
import Derived.WalkKit
import Derived.WalkSpells
import Derived.WalkLawsBesides
import Derived.Deep.QuietTactic
import Derived.BigQuiet
import Derived.Deep.RegionLaw
import Derived.Deep.AppendLies
import Derived.Test.YtodabmkcihafhaaGreatDoorK1
import Derived.Test.YtodabmkcihafhaaGreatDoorK0

/- Plain: fractions and numbers, reckoned with a bound. -/
namespace Go.Proofs.YtodabmkcihafhaaGreatDoor

structure Fr where
  n : Int
  d : Int
structure Num where
  re : Fr
  im : Fr

def gcdP (n d : Int) : Int := (Nat.gcd n.natAbs d.natAbs : Nat)
def lowP (n d : Int) : Fr := ⟨n / gcdP n d, d / gcdP n d⟩
def Fr.big (f : Fr) : Bool := decide (f.n > 999999 ∨ f.n < -999999 ∨ f.d > 999999)
def mkB (n d : Int) : Bool := (lowP n d).big
def mkF (n d : Int) : Fr := if mkB n d then ⟨0, 1⟩ else lowP n d
def Fr.neg (f : Fr) : Fr := ⟨-f.n, f.d⟩
def plF (a b : Fr) : Fr := mkF (a.n * b.d + b.n * a.d) (a.d * b.d)
def plB (a b : Fr) : Bool := mkB (a.n * b.d + b.n * a.d) (a.d * b.d)
def tmF (a b : Fr) : Fr := mkF (a.n * b.n) (a.d * b.d)
def tmB (a b : Fr) : Bool := mkB (a.n * b.n) (a.d * b.d)

def Fr.Ok (f : Fr) : Prop := 0 < f.d ∧ f.d ≤ 999999 ∧ -999999 ≤ f.n ∧ f.n ≤ 999999 ∧ Nat.gcd f.n.natAbs f.d.natAbs = 1
def Num.Ok (x : Num) : Prop := x.re.Ok ∧ x.im.Ok

theorem fr_zero_ok : Fr.Ok ⟨0, 1⟩ := by refine ⟨by decide, by decide, by decide, by decide, by decide⟩
theorem fr_one_ok : Fr.Ok ⟨1, 1⟩ := by refine ⟨by decide, by decide, by decide, by decide, by decide⟩
theorem Fr.Ok.neg {f : Fr} (h : f.Ok) : f.neg.Ok := by
  obtain ⟨a, b, c, d, e⟩ := h
  refine ⟨a, b, ?_, ?_, ?_⟩
  · show -999999 ≤ -f.n; omega
  · show -f.n ≤ 999999; omega
  · show Nat.gcd (-f.n).natAbs f.d.natAbs = 1
    rw [Int.natAbs_neg]; exact e
theorem gcdP_pos {n d : Int} (h : 0 < d) : 0 < gcdP n d := by
  unfold gcdP
  have := Nat.gcd_pos_of_pos_right n.natAbs (show 0 < d.natAbs by omega)
  omega
theorem gcdP_dvd_n (n d : Int) : gcdP n d ∣ n := by
  unfold gcdP
  exact Int.dvd_natAbs.1 (Int.natCast_dvd_natCast.2 (Nat.gcd_dvd_left _ _))
theorem gcdP_dvd_d (n d : Int) : gcdP n d ∣ d := by
  unfold gcdP
  exact Int.dvd_natAbs.1 (Int.natCast_dvd_natCast.2 (Nat.gcd_dvd_right _ _))
theorem low_mul_n (n d : Int) : (lowP n d).n * gcdP n d = n := Int.ediv_mul_cancel (gcdP_dvd_n n d)
theorem low_mul_d (n d : Int) : (lowP n d).d * gcdP n d = d := Int.ediv_mul_cancel (gcdP_dvd_d n d)
theorem low_d_pos {n d : Int} (h : 0 < d) : 0 < (lowP n d).d := by
  have h1 := low_mul_d n d
  have h2 := gcdP_pos (n := n) h
  rcases Int.lt_or_le 0 (lowP n d).d with h3 | h3
  · exact h3
  · have := Int.mul_le_mul_of_nonneg_right h3 (Int.le_of_lt h2)
    omega
theorem low_gcd {n d : Int} (h : 0 < d) : Nat.gcd (lowP n d).n.natAbs (lowP n d).d.natAbs = 1 := by
  have h1 : (lowP n d).n.natAbs * Nat.gcd n.natAbs d.natAbs = n.natAbs := by
    have := congrArg Int.natAbs (low_mul_n n d)
    rw [Int.natAbs_mul] at this
    exact this
  have h2 : (lowP n d).d.natAbs * Nat.gcd n.natAbs d.natAbs = d.natAbs := by
    have := congrArg Int.natAbs (low_mul_d n d)
    rw [Int.natAbs_mul] at this
    exact this
  have hg : 0 < Nat.gcd n.natAbs d.natAbs := Nat.gcd_pos_of_pos_right _ (by omega)
  have h3 : Nat.gcd ((lowP n d).n.natAbs * Nat.gcd n.natAbs d.natAbs) ((lowP n d).d.natAbs * Nat.gcd n.natAbs d.natAbs) = Nat.gcd n.natAbs d.natAbs := by
    rw [h1, h2]
  rw [Nat.gcd_mul_right] at h3
  exact Nat.eq_of_mul_eq_mul_right hg (by rw [h3, Nat.one_mul])
theorem mkF_ok {n d : Int} (h : 0 < d) : (mkF n d).Ok := by
  unfold mkF
  by_cases hb : mkB n d = true
  · rw [if_pos hb]; exact fr_zero_ok
  · rw [if_neg hb]
    unfold mkB Fr.big at hb
    simp at hb
    exact ⟨low_d_pos h, by omega, by omega, by omega, low_gcd h⟩
theorem mul_pos' {a b : Int} (ha : 0 < a) (hb : 0 < b) : 0 < a * b := Int.mul_pos ha hb
theorem plF_ok {a b : Fr} (ha : a.Ok) (hb : b.Ok) : (plF a b).Ok := mkF_ok (mul_pos' ha.1 hb.1)
theorem tmF_ok {a b : Fr} (ha : a.Ok) (hb : b.Ok) : (tmF a b).Ok := mkF_ok (mul_pos' ha.1 hb.1)

/-- How great a product of two parts gets. -/
theorem mul_bound {a b : Int} (h1 : -999999 ≤ a) (h2 : a ≤ 999999) (h3 : -999999 ≤ b) (h4 : b ≤ 999999) : -999998000001 ≤ a * b ∧ a * b ≤ 999998000001 := by
  have ha : a.natAbs ≤ 999999 := by omega
  have hb : b.natAbs ≤ 999999 := by omega
  have := Nat.mul_le_mul ha hb
  have e := Int.natAbs_mul a b
  omega
theorem Fr.Ok.mul_n {a b : Fr} (ha : a.Ok) (hb : b.Ok) : -999998000001 ≤ a.n * b.n ∧ a.n * b.n ≤ 999998000001 := mul_bound ha.2.2.1 ha.2.2.2.1 hb.2.2.1 hb.2.2.2.1
theorem Fr.Ok.mul_nd {a b : Fr} (ha : a.Ok) (hb : b.Ok) : -999998000001 ≤ a.n * b.d ∧ a.n * b.d ≤ 999998000001 := mul_bound ha.2.2.1 ha.2.2.2.1 (by have := hb.1; omega) hb.2.1
theorem Fr.Ok.mul_d {a b : Fr} (ha : a.Ok) (hb : b.Ok) : 0 < a.d * b.d ∧ a.d * b.d ≤ 999998000001 := ⟨mul_pos' ha.1 hb.1, (mul_bound (by have := ha.1; omega) ha.2.1 (by have := hb.1; omega) hb.2.1).2⟩

/-! ### Numbers -/
def addN (x y : Num) : Num := ⟨plF x.re y.re, plF x.im y.im⟩
def addB (x y : Num) : Bool := plB x.re y.re || plB x.im y.im
def Num.neg (x : Num) : Num := ⟨x.re.neg, x.im.neg⟩
def Num.conj (x : Num) : Num := ⟨x.re, x.im.neg⟩
def subN (x y : Num) : Num := addN x y.neg
def subB (x y : Num) : Bool := addB x y.neg
def mulN (x y : Num) : Num := ⟨plF (tmF x.re y.re) (tmF x.im y.im).neg, plF (tmF x.re y.im) (tmF x.im y.re)⟩
def mulB (x y : Num) : Bool := tmB x.re y.re || tmB x.im y.im || plB (tmF x.re y.re) (tmF x.im y.im).neg || tmB x.re y.im || tmB x.im y.re || plB (tmF x.re y.im) (tmF x.im y.re)
def sqF (y : Num) : Fr := plF (tmF y.re y.re) (tmF y.im y.im)
def sqB (y : Num) : Bool := tmB y.re y.re || tmB y.im y.im || plB (tmF y.re y.re) (tmF y.im y.im)
def Fr.inv (f : Fr) : Fr := ⟨f.d, f.n⟩
def dvRe (x y : Num) : Fr := plF (tmF x.re y.re) (tmF x.im y.im)
def dvIm (x y : Num) : Fr := plF (tmF x.im y.re) (tmF x.re y.im).neg
def divN (x y : Num) : Num := ⟨tmF (dvRe x y) (sqF y).inv, tmF (dvIm x y) (sqF y).inv⟩
def divB (x y : Num) : Bool :=
  tmB x.re y.re || tmB x.im y.im || plB (tmF x.re y.re) (tmF x.im y.im) || tmB (dvRe x y) (sqF y).inv ||
  tmB x.im y.re || tmB x.re y.im || plB (tmF x.im y.re) (tmF x.re y.im).neg || tmB (dvIm x y) (sqF y).inv
def Num.zero (x : Num) : Bool := x.re.n == 0 && x.im.n == 0

theorem addN_ok {x y : Num} (hx : x.Ok) (hy : y.Ok) : (addN x y).Ok := ⟨plF_ok hx.1 hy.1, plF_ok hx.2 hy.2⟩
theorem Num.Ok.neg {x : Num} (hx : x.Ok) : x.neg.Ok := ⟨hx.1.neg, hx.2.neg⟩
theorem Num.Ok.conj {x : Num} (hx : x.Ok) : x.conj.Ok := ⟨hx.1, hx.2.neg⟩
theorem mulN_ok {x y : Num} (hx : x.Ok) (hy : y.Ok) : (mulN x y).Ok := ⟨plF_ok (tmF_ok hx.1 hy.1) (tmF_ok hx.2 hy.2).neg, plF_ok (tmF_ok hx.1 hy.2) (tmF_ok hx.2 hy.1)⟩
/-- Of a fraction in lowest terms the same one comes. -/
theorem low_of_ok {n d : Int} (h : Nat.gcd n.natAbs d.natAbs = 1) : lowP n d = ⟨n, d⟩ := by
  unfold lowP gcdP
  rw [h]
  simp
theorem mk_of_ok {f : Fr} (h : f.Ok) : mkF f.n f.d = f ∧ mkB f.n f.d = false := by
  obtain ⟨a, b, c, d, e⟩ := h
  have hb : mkB f.n f.d = false := by
    unfold mkB
    rw [low_of_ok e]
    unfold Fr.big
    simp
    omega
  refine ⟨?_, hb⟩
  unfold mkF
  rw [hb, low_of_ok e]
  rfl
theorem mk_of_inv {f : Fr} (h : f.Ok) (hp : 0 < f.n) : mkF f.d f.n = f.inv ∧ mkB f.d f.n = false ∧ f.inv.Ok := by
  obtain ⟨a, b, c, d, e⟩ := h
  have e' : Nat.gcd f.d.natAbs f.n.natAbs = 1 := by rw [Nat.gcd_comm]; exact e
  have hok : f.inv.Ok := ⟨hp, d, by show -999999 ≤ f.d; omega, b, e'⟩
  have := mk_of_ok hok
  exact ⟨this.1, this.2, hok⟩

/-- A sum of squares that was not too big is above 0. -/
theorem mkF_of_not {n d : Int} (hb : mkB n d = false) : mkF n d = lowP n d := by
  unfold mkF
  rw [hb]
  rfl
theorem low_n_nonneg {n d : Int} (hd : 0 < d) (hn : 0 ≤ n) : 0 ≤ (lowP n d).n := Int.ediv_nonneg hn (Int.le_of_lt (gcdP_pos hd))
theorem low_n_pos {n d : Int} (hd : 0 < d) (hn : 0 < n) : 0 < (lowP n d).n := by
  have h1 := low_mul_n n d
  have h2 := low_n_nonneg hd (Int.le_of_lt hn)
  rcases Int.lt_or_le 0 (lowP n d).n with h | h
  · exact h
  · have : (lowP n d).n = 0 := by omega
    rw [this] at h1
    omega
theorem sq_nonneg' (a : Int) : 0 ≤ a * a := by
  have := Int.natAbs_mul_self (a := a)
  omega
theorem sq_pos' {a : Int} (h : a ≠ 0) : 0 < a * a := by
  have h1 := Int.natAbs_mul_self (a := a)
  have h2 : 0 < a.natAbs := by omega
  have := Nat.mul_pos h2 h2
  omega
theorem tm_sq_nonneg {f : Fr} (hf : f.Ok) : 0 ≤ (tmF f f).n := by
  unfold tmF mkF
  split
  · exact Int.le_refl _
  · exact low_n_nonneg (mul_pos' hf.1 hf.1) (sq_nonneg' _)
theorem tm_sq_pos {f : Fr} (hf : f.Ok) (h0 : f.n ≠ 0) (hb : tmB f f = false) : 0 < (tmF f f).n := by
  unfold tmF
  rw [mkF_of_not hb]
  exact low_n_pos (mul_pos' hf.1 hf.1) (sq_pos' h0)
theorem sq_pos {y : Num} (hy : y.Ok) (hz : y.zero = false) (hb : sqB y = false) : 0 < (sqF y).n := by
  unfold sqB at hb
  simp only [Bool.or_eq_false_iff] at hb
  obtain ⟨⟨b1, b2⟩, b3⟩ := hb
  unfold sqF plF
  rw [mkF_of_not b3]
  have o1 := tmF_ok hy.1 hy.1
  have o2 := tmF_ok hy.2 hy.2
  refine low_n_pos (mul_pos' o1.1 o2.1) ?_
  have n1 := tm_sq_nonneg hy.1
  have n2 := tm_sq_nonneg hy.2
  have m1 := Int.mul_nonneg n1 (Int.le_of_lt o2.1)
  have m2 := Int.mul_nonneg n2 (Int.le_of_lt o1.1)
  unfold Num.zero at hz
  by_cases h : y.re.n = 0
  · have h2 : y.im.n ≠ 0 := by
      intro h2
      rw [h, h2] at hz
      revert hz; decide
    have := mul_pos' (tm_sq_pos hy.2 h2 b2) o1.1
    omega
  · have := mul_pos' (tm_sq_pos hy.1 h b1) o2.1
    omega
theorem divN_ok {x y : Num} (hx : x.Ok) (hy : y.Ok) (hz : y.zero = false) (hb : sqB y = false) : (divN x y).Ok := by
  have hi := (mk_of_inv (plF_ok (tmF_ok hy.1 hy.1) (tmF_ok hy.2 hy.2)) (sq_pos hy hz hb)).2.2
  exact ⟨tmF_ok (plF_ok (tmF_ok hx.1 hy.1) (tmF_ok hx.2 hy.2)) hi, tmF_ok (plF_ok (tmF_ok hx.2 hy.1) (tmF_ok hx.1 hy.2).neg) hi⟩

/-- One operation: its sign, and what it is made on; the error. -/
inductive Got where
  | ok (x : Num)
  | err (e : Int)
def bigOr (b : Bool) (x : Num) : Got := if b then .err 5 else .ok x
def opP (op : Int) (x y : Num) : Got :=
  if op = 43 then bigOr (addB x y) (addN x y)
  else if op = 8722 then bigOr (subB x y) (subN x y)
  else if op = 215 then bigOr (mulB x y) (mulN x y)
  else if op = 247 then (if y.zero then .err 4 else bigOr (sqB y || divB x y) (divN x y))
  else if op = 178 then bigOr (mulB x x) (mulN x x)
  else if op = 110 then .ok x.neg
  else .ok x.conj

/-- What a tree comes to: a number, or an error with its place. -/
inductive Ans where
  | ok (x : Num)
  | err (e : Int) (p : Nat)
def Got.at (g : Got) (p : Nat) : Ans := match g with | .ok x => .ok x | .err e => .err e p
def numeN (l : List Int) : Num := ⟨lowP (numVal l).1 (numVal l).2, ⟨0, 1⟩⟩
/-- The names' numbers (those that are there). -/
abbrev Env := Int → Option Num
def leafN (env : Env) (c : Int) : Num := if c = 105 then ⟨⟨0, 1⟩, ⟨1, 1⟩⟩ else (env c).getD ⟨⟨0, 1⟩, ⟨0, 1⟩⟩
def evT (env : Env) : Ex → Ans
  | .num l _ => .ok (numeN l)
  | .leaf c _ => .ok (leafN env c)
  | .un c p e => match evT env e with
    | .ok x => (opP c x x).at p
    | .err q r => .err q r
  | .bin c p l r => match evT env l with
    | .err q s => .err q s
    | .ok x => match evT env r with
      | .err q s => .err q s
      | .ok y => (opP c x y).at p
/-- The first name that is not there. -/
def missT (env : Env) : Ex → Option Nat
  | .num _ _ => none
  | .leaf c p => if c = 105 ∨ (env c).isSome then none else some p
  | .un _ _ e => missT env e
  | .bin _ _ l r => match missT env l with
    | some p => some p
    | none => missT env r
/-- P5, of a tree. -/
def valT (env : Env) (e : Ex) : Ans := match missT env e with
  | some p => .err 3 p
  | none => evT env e
end Go.Proofs.YtodabmkcihafhaaGreatDoor

/- Plain: which trees a reading gives; a tree's numbers from its list of nodes. -/
namespace Go.Proofs.YtodabmkcihafhaaGreatDoor

/-- A numeral's runes: a fraction alone, or up to three digits (the first not 0, but 0 itself) and perhaps a fraction. -/
def NumeOk (l : List Int) : Prop :=
  (∃ c, l = [c] ∧ isFrac c = true) ∨
  (∃ d ds fr, l = d :: (ds ++ fr) ∧ isDig d = true ∧ (d = 48 → ds = []) ∧ ds.length ≤ 2 ∧ (∀ c ∈ ds, isDig c = true) ∧ (fr = [] ∨ ∃ c, fr = [c] ∧ isFrac c = true))
def ExOk : Ex → Prop
  | .num l _ => NumeOk l
  | .leaf c _ => c = 105 ∨ isNm c = true
  | .un c _ e => isUn c = true ∧ ExOk e
  | .bin c _ l r => isBin c = true ∧ ExOk l ∧ ExOk r
/-- The places of a tree's leaves, from lo on and below hi, rise. -/
def PlOk : Nat → Nat → Ex → Prop
  | _, _, .num _ _ => True
  | lo, hi, .leaf _ p => lo ≤ p ∧ p < hi
  | lo, hi, .un _ _ e => PlOk lo hi e
  | lo, hi, .bin _ _ l r => ∃ m, lo ≤ m ∧ m ≤ hi ∧ PlOk lo m l ∧ PlOk m hi r
theorem PlOk.mono : ∀ (e : Ex) (lo hi lo' hi' : Nat), lo' ≤ lo → hi ≤ hi' → PlOk lo hi e → PlOk lo' hi' e := by
  intro e
  induction e with
  | num l p => intro _ _ _ _ _ _ _; trivial
  | leaf c p => intro lo hi lo' hi' h1 h2 h; obtain ⟨a, b⟩ := h; exact ⟨by omega, by omega⟩
  | un c p e ih => intro lo hi lo' hi' h1 h2 h; exact ih lo hi lo' hi' h1 h2 h
  | bin c p l r ihl ihr =>
    intro lo hi lo' hi' h1 h2 h
    obtain ⟨m, a, b, c, d⟩ := h
    exact ⟨m, by omega, by omega, ihl _ _ _ _ h1 (Nat.le_refl _) c, ihr _ _ _ _ (Nat.le_refl _) h2 d⟩
def After (h : Nat) (ts : List Tok) : Prop := ∀ t ∈ ts, h ≤ t.p
def Rise (ts : List Tok) : Prop := ts.Pairwise (fun a b => a.p < b.p)
theorem Rise.tail {ts : List Tok} (h : Rise ts) : Rise ts.tail := by
  cases ts with
  | nil => exact h
  | cons t r => exact (List.pairwise_cons.1 h).2
theorem After.tail {k : Nat} {ts : List Tok} (h : After k ts) : After k ts.tail := fun t ht => h t (List.mem_of_mem_tail ht)
theorem after_tail {ts : List Tok} (h : Rise ts) (hne : 1 ≤ ts.length) : After (hp ts + 1) ts.tail := by
  cases ts with
  | nil => simp at hne
  | cons t r => exact fun u hu => (List.pairwise_cons.1 h).1 u hu
theorem After.hp {k : Nat} {ts : List Tok} (h : After k ts) (hne : 1 ≤ ts.length) : k ≤ hp ts := by
  cases ts with
  | nil => simp at hne
  | cons t r => exact h t (by simp)
theorem digs_suf : ∀ (n : Nat) (ts : List Tok), (digs n ts).2 <:+ ts := by
  intro n
  induction n with
  | zero => intro ts; exact List.suffix_refl _
  | succ n ih =>
    intro ts
    simp only [digs]
    split
    · exact (ih ts.tail).trans (List.tail_suffix ts)
    · exact List.suffix_refl _
theorem fracT_suf (ts : List Tok) : (fracT ts).2 <:+ ts := by
  unfold fracT
  split
  · exact List.tail_suffix ts
  · exact List.suffix_refl _
theorem numT_suf (ts : List Tok) : (numT ts).2 <:+ ts := by
  unfold numT
  split
  · exact List.tail_suffix ts
  · simp only
    refine (fracT_suf _).trans ?_
    split
    · exact List.tail_suffix ts
    · exact (digs_suf _ _).trans (List.tail_suffix ts)
theorem Rise.suf {a b : List Tok} (h : Rise b) (hs : a <:+ b) : Rise a := List.Pairwise.sublist hs.sublist h
theorem After.suf {k : Nat} {a b : List Tok} (h : After k b) (hs : a <:+ b) : After k a := fun t ht => h t (hs.subset ht)
theorem digs_ok : ∀ (n : Nat) (ts : List Tok), (digs n ts).1.length ≤ n ∧ ∀ c ∈ (digs n ts).1, isDig c = true := by
  intro n
  induction n with
  | zero => intro ts; exact ⟨Nat.le_refl _, fun c h => by simp [digs] at h⟩
  | succ n ih =>
    intro ts
    simp only [digs]
    split
    · rename_i h
      obtain ⟨a, b⟩ := ih ts.tail
      refine ⟨by simp; omega, ?_⟩
      intro c hc
      simp at hc
      rcases hc with rfl | hc
      · exact h
      · exact b c hc
    · exact ⟨by simp, fun c h => by simp at h⟩
theorem numT_ok (ts : List Tok) (h : (isDig (hd ts) || isFrac (hd ts)) = true) : NumeOk (numT ts).1 := by
  unfold numT
  by_cases hf : isFrac (hd ts) = true
  · rw [if_pos hf]; exact Or.inl ⟨_, rfl, hf⟩
  · rw [if_neg hf]
    have hdg : isDig (hd ts) = true := by
      rw [Bool.or_eq_true] at h
      rcases h with h | h
      · exact h
      · exact absurd h hf
    simp only
    have fr : ∀ us : List Tok, (fracT us).1 = [] ∨ ∃ c, (fracT us).1 = [c] ∧ isFrac c = true := by
      intro us
      unfold fracT
      split
      · rename_i q; exact Or.inr ⟨_, rfl, q⟩
      · exact Or.inl rfl
    by_cases h48 : hd ts = 48
    · rw [if_pos h48]
      exact Or.inr ⟨hd ts, [], _, rfl, hdg, fun _ => rfl, by simp, by simp, fr _⟩
    · rw [if_neg h48]
      obtain ⟨a, b⟩ := digs_ok 2 ts.tail
      exact Or.inr ⟨hd ts, _, _, rfl, hdg, fun e => absurd e h48, a, b, fr _⟩

/-- What a reading's tree keeps. -/
def TInv (lo : Nat) (T : RT) : Prop := T.ok = true → ExOk T.e ∧ Rise T.ts ∧ ∃ h, lo ≤ h ∧ PlOk lo h T.e ∧ After h T.ts

theorem pt_inv : ∀ (f tag : Nat) (e : Ex) (ts : List Tok) (lo : Nat), Rise ts → (tag < 4 → After lo ts) → (4 ≤ tag → ExOk e ∧ ∃ h, lo ≤ h ∧ PlOk lo h e ∧ After h ts) → TInv lo (pt f tag e ts) := by
  intro f
  induction f with
  | zero => intro tag e ts lo _ _ _ h; cases h
  | succ f ih =>
    have lw : ∀ (tag : Nat) (e : Ex) (ts : List Tok) (lo : Nat), tag < 4 → Rise ts → After lo ts → TInv lo (pt f tag e ts) := fun tag e ts lo h hr ha => ih tag e ts lo hr (fun _ => ha) (fun h' => by omega)
    have hg : ∀ (tag : Nat) (e : Ex) (ts : List Tok) (lo h : Nat), 4 ≤ tag → Rise ts → ExOk e → lo ≤ h → PlOk lo h e → After h ts → TInv lo (pt f tag e ts) := fun tag e ts lo h ht hr he hl hp ha => ih tag e ts lo hr (fun h' => by omega) (fun _ => ⟨he, h, hl, hp, ha⟩)
    have row : ∀ (tag sub : Nat) (e : Ex) (ts : List Tok) (lo : Nat), 4 ≤ tag → sub < 4 → isBin (hd ts) = true → Rise ts → ExOk e → (∃ h, lo ≤ h ∧ PlOk lo h e ∧ After h ts) →
        TInv lo (if (pt f sub e ts.tail).ok = true then pt f tag (.bin (hd ts) (hp ts) e (pt f sub e ts.tail).e) (pt f sub e ts.tail).ts else pt f sub e ts.tail) := by
      intro tag sub e ts lo ht hs hb hr he hP
      obtain ⟨h, hl, hp', ha⟩ := hP
      by_cases ho : (pt f sub e ts.tail).ok = true
      · rw [if_pos ho]
        obtain ⟨i1, i2, h2, hl2, i3, i4⟩ := lw sub e ts.tail h hs hr.tail ha.tail ho
        exact hg tag _ _ lo h2 ht i2 ⟨hb, he, i1⟩ (by omega) ⟨h, hl, hl2, hp', i3⟩ i4
      · rw [if_neg ho]; intro h'; exact absurd h' ho
    intro tag e ts lo hr hA hB
    match tag with
    | 0 =>
      simp only [pt]
      by_cases ho : (pt f 1 e ts).ok = true
      · rw [if_pos ho]
        obtain ⟨i1, i2, h2, hl2, i3, i4⟩ := lw 1 e ts lo (by decide) hr (hA (by decide)) ho
        exact hg 4 _ _ lo h2 (by decide) i2 i1 hl2 i3 i4
      · rw [if_neg ho]; intro h'; exact absurd h' ho
    | 1 =>
      simp only [pt]
      by_cases ho : (pt f 2 e ts).ok = true
      · rw [if_pos ho]
        obtain ⟨i1, i2, h2, hl2, i3, i4⟩ := lw 2 e ts lo (by decide) hr (hA (by decide)) ho
        exact hg 5 _ _ lo h2 (by decide) i2 i1 hl2 i3 i4
      · rw [if_neg ho]; intro h'; exact absurd h' ho
    | 2 =>
      simp only [pt]
      by_cases h0 : hd ts = 8722
      · rw [if_pos h0]
        by_cases ho : (pt f 2 e ts.tail).ok = true
        · rw [if_pos ho]
          obtain ⟨i1, i2, h2, hl2, i3, i4⟩ := lw 2 e ts.tail lo (by decide) hr.tail (hA (by decide)).tail ho
          exact fun _ => ⟨⟨rfl, i1⟩, i2, h2, hl2, i3, i4⟩
        · rw [if_neg ho]; intro h'; exact absurd h' ho
      · rw [if_neg h0]
        by_cases ho : (pt f 3 e ts).ok = true
        · rw [if_pos ho]
          obtain ⟨i1, i2, h2, hl2, i3, i4⟩ := lw 3 e ts lo (by decide) hr (hA (by decide)) ho
          exact hg 6 _ _ lo h2 (by decide) i2 i1 hl2 i3 i4
        · rw [if_neg ho]; intro h'; exact absurd h' ho
    | 3 =>
      have ha := hA (by decide)
      simp only [pt]
      by_cases h1 : (isDig (hd ts) || isFrac (hd ts)) = true
      · rw [if_pos h1]
        exact fun _ => ⟨numT_ok ts h1, hr.suf (numT_suf ts), lo, Nat.le_refl _, trivial, ha.suf (numT_suf ts)⟩
      · rw [if_neg h1]
        by_cases h2 : hd ts = 105 ∨ isNm (hd ts) = true
        · rw [if_pos h2]
          have hne : hd ts ≠ -1 := by
            intro e
            rw [e] at h2
            revert h2; decide
          have hn := ne_of_hd hne
          have := ha.hp hn
          exact fun _ => ⟨h2, hr.tail, hp ts + 1, by omega, ⟨this, by omega⟩, after_tail hr hn⟩
        · rw [if_neg h2]
          by_cases h3 : hd ts = 40
          · rw [if_pos h3]
            by_cases ho : (pt f 0 e ts.tail).ok = true
            · rw [if_pos ho]
              obtain ⟨i1, i2, h2, hl2, i3, i4⟩ := lw 0 e ts.tail lo (by decide) hr.tail ha.tail ho
              split
              · exact fun _ => ⟨i1, i2.tail, h2, hl2, i3, i4.tail⟩
              · intro h; cases h
            · rw [if_neg ho]; intro h'; exact absurd h' ho
          · rw [if_neg h3]; intro h; cases h
    | 4 =>
      obtain ⟨he, hP⟩ := hB (by decide)
      simp only [pt]
      by_cases h0 : inRow 0 (hd ts) = true
      · rw [if_pos h0]
        exact row 4 1 e ts lo (by decide) (by decide) (by unfold inRow at h0; unfold isBin; simp at h0 ⊢; omega) hr he hP
      · rw [if_neg h0]
        exact fun _ => ⟨he, hr, hP⟩
    | 5 =>
      obtain ⟨he, hP⟩ := hB (by decide)
      simp only [pt]
      by_cases h0 : inRow 1 (hd ts) = true
      · rw [if_pos h0]
        exact row 5 2 e ts lo (by decide) (by decide) (by unfold inRow at h0; unfold isBin; simp at h0 ⊢; omega) hr he hP
      · rw [if_neg h0]
        exact fun _ => ⟨he, hr, hP⟩
    | n + 6 =>
      obtain ⟨he, h, hl, hp', ha⟩ := hB (by omega)
      simp only [pt]
      by_cases h0 : isMk (hd ts) = true
      · rw [if_pos h0]
        exact hg 6 _ _ lo h (by decide) hr.tail ⟨by unfold isMk at h0; unfold isUn; simp at h0 ⊢; omega, he⟩ hl hp' ha.tail
      · rw [if_neg h0]
        exact fun _ => ⟨he, hr, h, hl, hp', ha⟩

/-! ### The list, worked node by node -/
def stepN (env : Env) (vs : List Num) (n : Nd) : Got :=
  if n.op = 48 then .ok ⟨lowP n.num n.den, ⟨0, 1⟩⟩
  else if n.op = 105 ∨ isNm n.op = true then .ok (leafN env n.op)
  else opP n.op (vs.getD n.a ⟨⟨0, 1⟩, ⟨0, 1⟩⟩) (vs.getD n.b ⟨⟨0, 1⟩, ⟨0, 1⟩⟩)
/-- What the nodes come to: their numbers behind those that are there, or the first error. -/
inductive Run where
  | ok (vs : List Num)
  | err (e : Int) (p : Nat)
def runL (env : Env) : List Num → List Nd → Run
  | vs, [] => .ok vs
  | vs, n :: r => match stepN env vs n with
    | .ok x => runL env (vs ++ [x]) r
    | .err e => .err e n.pl
theorem opP_un {c : Int} (h : isUn c = true) (x y z : Num) : opP c x y = opP c x z := by
  unfold isUn at h
  simp at h
  unfold opP
  rcases h with (rfl | rfl) | rfl <;> rfl
theorem runL_app (env : Env) : ∀ (a b : List Nd) (vs : List Num), runL env vs (a ++ b) = match runL env vs a with | .ok ws => runL env ws b | .err e p => .err e p := by
  intro a
  induction a with
  | nil => intro b vs; rfl
  | cons n r ih =>
    intro b vs
    simp only [List.cons_append, runL]
    cases stepN env vs n with
    | ok x => exact ih b _
    | err e => rfl
theorem runL_tree (env : Env) : ∀ (e : Ex) (vs : List Num), ExOk e →
    match evT env e with
    | .ok x => ∃ ws, runL env vs (e.flat vs.length) = .ok (vs ++ ws ++ [x]) ∧ ws.length + 1 = e.size
    | .err q p => runL env vs (e.flat vs.length) = .err q p := by
  intro e
  induction e with
  | num l p =>
    intro vs _
    refine ⟨[], ?_, rfl⟩
    simp [Ex.flat, runL, stepN, nNd, numeN]
  | leaf c p =>
    intro vs h
    refine ⟨[], ?_, rfl⟩
    have h' : c = 105 ∨ isNm c = true := h
    have h48 : ¬ c = 48 := by
      rcases h' with h | h
      · omega
      · unfold isNm at h; simp at h; omega
    simp only [Ex.flat, runL, stepN, opNd, h48, if_false, h', if_true]
    simp
  | un c p e ih =>
    intro vs h
    obtain ⟨hc, he⟩ := h
    have hn : ¬ (c = 105 ∨ isNm c = true) ∧ ¬ c = 48 := by
      unfold isUn at hc; unfold isNm
      simp at hc ⊢; omega
    have i := ih vs he
    simp only [evT, Ex.flat]
    rw [runL_app]
    cases hev : evT env e with
    | err q r =>
      rw [hev] at i
      simp only at i ⊢
      rw [i]
    | ok x =>
      rw [hev] at i
      obtain ⟨ws, i1, i2⟩ := i
      simp only
      rw [i1]
      have hg : (vs ++ ws ++ [x]).getD (vs.length + e.size - 1) ⟨⟨0, 1⟩, ⟨0, 1⟩⟩ = x := by
        rw [show vs.length + e.size - 1 = (vs ++ ws).length by simp; omega]
        simp
      have hst : stepN env (vs ++ ws ++ [x]) (opNd c (vs.length + e.size - 1) 0 p) = opP c x x := by
        unfold stepN opNd
        simp only
        rw [if_neg hn.2, if_neg hn.1, hg]
        exact opP_un hc _ _ _
      simp only [runL, hst]
      cases hop : opP c x x with
      | ok y =>
        refine ⟨ws ++ [x], ?_, ?_⟩
        · simp
        · simp [Ex.size]; omega
      | err q => rfl
  | bin c p l r ihl ihr =>
    intro vs h
    obtain ⟨hc, hl, hr⟩ := h
    have hn : ¬ (c = 105 ∨ isNm c = true) ∧ ¬ c = 48 := by
      unfold isBin at hc; unfold isNm
      simp at hc ⊢; omega
    have i := ihl vs hl
    simp only [evT, Ex.flat]
    rw [runL_app, runL_app]
    cases hev : evT env l with
    | err q s =>
      rw [hev] at i
      simp only at i ⊢
      rw [i]
    | ok x =>
      rw [hev] at i
      obtain ⟨ws, i1, i2⟩ := i
      simp only
      rw [i1]
      have hlen : (vs ++ ws ++ [x]).length = vs.length + l.size := by simp; omega
      have j := ihr (vs ++ ws ++ [x]) hr
      rw [hlen] at j
      cases hev2 : evT env r with
      | err q s =>
        rw [hev2] at j
        simp only at j ⊢
        rw [j]
      | ok y =>
        rw [hev2] at j
        obtain ⟨us, j1, j2⟩ := j
        simp only
        rw [j1]
        have hgb : (vs ++ ws ++ [x] ++ us ++ [y]).getD (vs.length + l.size + r.size - 1) ⟨⟨0, 1⟩, ⟨0, 1⟩⟩ = y := by
          rw [show vs.length + l.size + r.size - 1 = (vs ++ ws ++ [x] ++ us).length by simp; omega]
          simp
        have hga : (vs ++ ws ++ [x] ++ us ++ [y]).getD (vs.length + l.size - 1) ⟨⟨0, 1⟩, ⟨0, 1⟩⟩ = x := by
          rw [show vs.length + l.size - 1 = (vs ++ ws).length by simp; omega]
          rw [show vs ++ ws ++ [x] ++ us ++ [y] = (vs ++ ws) ++ (x :: (us ++ [y])) by simp]
          simp
        have hst : stepN env (vs ++ ws ++ [x] ++ us ++ [y]) (opNd c (vs.length + l.size - 1) (vs.length + l.size + r.size - 1) p) = opP c x y := by
          unfold stepN opNd
          simp only
          rw [if_neg hn.2, if_neg hn.1, hga, hgb]
        simp only [runL, hst]
        cases hop : opP c x y with
        | ok z =>
          refine ⟨ws ++ [x] ++ us ++ [y], ?_, ?_⟩
          · simp
          · simp [Ex.size]; omega
        | err q => rfl

/-! ### The first name that is missing, from the list -/
def missN (env : Env) (n : Nd) : Bool := isNm n.op && (env n.op).isNone
def missStep (env : Env) (acc : Int) (n : Nd) : Int := if missN env n && (decide (acc < 0) || decide ((n.pl : Int) < acc)) then n.pl else acc
def missL (env : Env) (l : List Nd) (acc : Int) : Int := l.foldl (missStep env) acc
theorem missStep_no {env : Env} {n : Nd} (h : missN env n = false) (acc : Int) : missStep env acc n = acc := by
  unfold missStep
  rw [h]
  rfl
theorem missL_tree (env : Env) : ∀ (e : Ex) (o lo hi : Nat) (acc : Int), ExOk e → PlOk lo hi e → (acc = -1 ∨ (0 ≤ acc ∧ acc < lo)) →
    missL env (e.flat o) acc = (if acc = -1 then (match missT env e with | some p => (p : Int) | none => -1) else acc) ∧ (∀ p, missT env e = some p → lo ≤ p ∧ p < hi) := by
  intro e
  induction e with
  | num l p =>
    intro o lo hi acc _ _ ha
    refine ⟨?_, fun p h => by cases h⟩
    have hno : missN env (nNd l p) = false := by simp [missN, nNd, isNm]
    have : missL env ([nNd l p]) acc = acc := missStep_no hno acc
    simp only [Ex.flat, this, missT]
    split
    · assumption
    · rfl
  | leaf c p =>
    intro o lo hi acc hok hpl ha
    obtain ⟨h1, h2⟩ := hpl
    have hok' : c = 105 ∨ isNm c = true := hok
    by_cases hm : c = 105 ∨ (env c).isSome = true
    · have hno : missN env (opNd c 0 0 p) = false := by
        unfold missN opNd
        simp only
        rcases hm with h | h
        · rw [h]; rfl
        · cases hv : env c with
          | none => rw [hv] at h; cases h
          | some v => simp
      have e1 : missL env ([opNd c 0 0 p]) acc = acc := missStep_no hno acc
      simp only [Ex.flat, e1, missT, if_pos hm]
      refine ⟨?_, fun p h => by cases h⟩
      split
      · assumption
      · rfl
    · have hyes : missN env (opNd c 0 0 p) = true := by
        unfold missN opNd
        simp only
        have hn : isNm c = true := by
          rcases hok' with h | h
          · exact absurd (Or.inl h) hm
          · exact h
        rw [hn]
        cases hv : env c with
        | none => rfl
        | some v => exact absurd (Or.inr (by rw [hv]; rfl)) hm
      have e1 : missL env ([opNd c 0 0 p]) acc = if acc = -1 then (p : Int) else acc := by
        show missStep env acc (opNd c 0 0 p) = _
        unfold missStep
        rw [hyes]
        unfold opNd
        simp only
        rcases ha with ha | ha
        · rw [ha]; rfl
        · rw [if_neg (show ¬ acc = -1 by omega)]
          have q1 : decide (acc < 0) = false := by simp; omega
          have q2 : decide ((p : Int) < acc) = false := by simp; omega
          rw [q1, q2]
          rfl
      simp only [Ex.flat, e1, missT, if_neg hm]
      refine ⟨?_, fun q h => ?_⟩
      · first | rfl | trivial
      · injection h with h; omega
  | un c p e ih =>
    intro o lo hi acc hok hpl ha
    obtain ⟨hc, he⟩ := hok
    have i := ih o lo hi acc he hpl ha
    have hno : missN env (opNd c (o + e.size - 1) 0 p) = false := by
      unfold missN opNd
      simp only
      have : isNm c = false := by
        unfold isUn at hc; unfold isNm
        simp at hc ⊢; omega
      rw [this]; rfl
    refine ⟨?_, i.2⟩
    have e1 : missL env (Ex.flat o (.un c p e)) acc = missL env (e.flat o) acc := by
      simp only [Ex.flat, missL, List.foldl_append, List.foldl_cons, List.foldl_nil]
      exact missStep_no hno _
    rw [e1]
    exact i.1
  | bin c p l r ihl ihr =>
    intro o lo hi acc hok hpl ha
    obtain ⟨hc, hl, hr⟩ := hok
    obtain ⟨m, m1, m2, pl, pr⟩ := hpl
    have hno : missN env (opNd c (o + l.size - 1) (o + l.size + r.size - 1) p) = false := by
      unfold missN opNd
      simp only
      have : isNm c = false := by
        unfold isBin at hc; unfold isNm
        simp at hc ⊢; omega
      rw [this]; rfl
    have e1 : missL env (Ex.flat o (.bin c p l r)) acc = missL env (r.flat (o + l.size)) (missL env (l.flat o) acc) := by
      simp only [Ex.flat, missL, List.foldl_append, List.foldl_cons, List.foldl_nil]
      exact missStep_no hno _
    have i := ihl o lo m acc hl pl ha
    rw [e1, i.1]
    simp only [missT]
    cases hml : missT env l with
    | some q =>
      have hq := i.2 q hml
      have j := ihr (o + l.size) m hi (if acc = -1 then (q : Int) else acc) hr pr (by split <;> omega)
      simp only
      refine ⟨?_, fun p' h => by injection h with h; omega⟩
      rw [j.1, if_neg (by split <;> omega)]
    | none =>
      have j := ihr (o + l.size) m hi acc hr pr (by omega)
      have e2 : (if acc = -1 then -1 else acc) = acc := by split <;> omega
      simp only [e2]
      exact ⟨j.1, fun p' h => by have := j.2 p' h; omega⟩
end Go.Proofs.YtodabmkcihafhaaGreatDoor

/- The document's 'at'. -/
namespace Go.Proofs.YtodabmkcihafhaaGreatDoor
open Go.RowKit
set_option linter.unusedVariables false

theorem and192 (n : Nat) (h : n < 256) : (bits BinOp.and IntKind.u8 (n : Int) 192 == 128) = decide (n / 64 = 2) := by
  have : ∀ m : Fin 256, (bits BinOp.and IntKind.u8 ((m.val : Nat) : Int) 192 == 128) = decide (m.val / 64 = 2) := by decide +kernel
  exact this ⟨n, h⟩
theorem and63 (n : Nat) (h : n < 256) : bits BinOp.and IntKind.u8 (n : Int) 63 = ((n % 64 : Nat) : Int) := by
  have : ∀ m : Fin 256, bits BinOp.and IntKind.u8 ((m.val : Nat) : Int) 63 = ((m.val % 64 : Nat) : Int) := by decide +kernel
  exact this ⟨n, h⟩
theorem and31 (n : Nat) (h : n < 256) : bits BinOp.and IntKind.i64 (n : Int) 31 = ((n % 32 : Nat) : Int) := by
  have : ∀ m : Fin 256, bits BinOp.and IntKind.i64 ((m.val : Nat) : Int) 31 = ((m.val % 32 : Nat) : Int) := by decide +kernel
  exact this ⟨n, h⟩
theorem and15 (n : Nat) (h : n < 256) : bits BinOp.and IntKind.i64 (n : Int) 15 = ((n % 16 : Nat) : Int) := by
  have : ∀ m : Fin 256, bits BinOp.and IntKind.i64 ((m.val : Nat) : Int) 15 = ((m.val % 16 : Nat) : Int) := by decide +kernel
  exact this ⟨n, h⟩
theorem wrapN (n : Nat) (h : n < 1000000) : wrap64 (n : Int) = n := by
  unfold wrap64; omega


set_option maxHeartbeats 2000000 in
set_option maxRecDepth 100000 in
theorem at_one (s : ByteArray) (k : Nat) (w : World) (hs : k ≤ 120) (hlt : k < s.size) (h1 : bt s k < 128) :
    Calls Tryz.prog 112 #[.string s, .int .i64 k] w fun e w' => e = .returned (.tuple #[.int .i64 (bt s k : Nat), .int .i64 1]) ∧ ∃ n, w' = w.drewN n := by
  have b0 := bt_lt s k
  have g0 := bt_get s k
  have wN := wrapN (bt s k) (by omega)
  go_enter Tryz.func112, Tryz.ntmps112
  go_wp2
  go_ret2
  exact ⟨rfl, 0, rfl⟩

set_option maxHeartbeats 2000000 in
set_option maxRecDepth 100000 in
theorem at_two (s : ByteArray) (k : Nat) (w : World) (hs : k ≤ 120) (hlt : k < s.size) (h1 : 194 ≤ bt s k) (h2 : bt s k ≤ 223) (h3 : k + 1 < s.size) (h4 : bt s (k + 1) / 64 = 2) :
    Calls Tryz.prog 112 #[.string s, .int .i64 k] w fun e w' => e = .returned (.tuple #[.int .i64 ((bt s k % 32 * 64 + bt s (k + 1) % 64 : Nat) : Int), .int .i64 2]) ∧ ∃ n, w' = w.drewN n := by
  have b0 := bt_lt s k
  have g0 := bt_get s k
  have wN := wrapN (bt s k) (by omega)
  have b1 := bt_lt s (k + 1)
  have g1 := bt_get s (k + 1)
  have a1 := and192 (bt s (k + 1)) (by omega)
  have m1 := and63 (bt s (k + 1)) (by omega)
  have m0 := and31 (bt s k) (by omega)
  have n1 := wrapN (bt s (k + 1) % 64) (by omega)
  go_enter Tryz.func112, Tryz.ntmps112
  go_wp2
  go_ret2
  refine ⟨?_, 0, rfl⟩
  congr 5

set_option maxHeartbeats 2000000 in
set_option maxRecDepth 100000 in
theorem at_none0 (s : ByteArray) (k : Nat) (w : World) (hs : k ≤ 120) (hlt : k < s.size) (h0 : 128 ≤ bt s k) (h1 : bt s k < 194 ∨ 223 < bt s k) (h2 : ¬ bt s k = 226) :
    Calls Tryz.prog 112 #[.string s, .int .i64 k] w fun e w' => e = .returned (.tuple #[.int .i64 0, .int .i64 0]) ∧ ∃ n, w' = w.drewN n := by
  have b0 := bt_lt s k
  have g0 := bt_get s k
  have wN := wrapN (bt s k) (by omega)
  go_enter Tryz.func112, Tryz.ntmps112
  rcases h1 with h1 | h1
  all_goals
    go_wp2
    go_ret2
    exact ⟨rfl, 0, rfl⟩

set_option maxHeartbeats 2000000 in
set_option maxRecDepth 100000 in
theorem at_none1 (s : ByteArray) (k : Nat) (w : World) (hs : k ≤ 120) (hlt : k < s.size) (h0 : 194 ≤ bt s k) (h1 : bt s k ≤ 223) (h2 : s.size ≤ k + 1) :
    Calls Tryz.prog 112 #[.string s, .int .i64 k] w fun e w' => e = .returned (.tuple #[.int .i64 0, .int .i64 0]) ∧ ∃ n, w' = w.drewN n := by
  have b0 := bt_lt s k
  have g0 := bt_get s k
  have wN := wrapN (bt s k) (by omega)
  go_enter Tryz.func112, Tryz.ntmps112
  go_wp2
  go_ret2
  exact ⟨rfl, 0, rfl⟩

set_option maxHeartbeats 2000000 in
set_option maxRecDepth 100000 in
theorem at_none2 (s : ByteArray) (k : Nat) (w : World) (hs : k ≤ 120) (hlt : k < s.size) (h0 : 194 ≤ bt s k) (h1 : bt s k ≤ 223) (h2 : k + 1 < s.size) (h3 : ¬ bt s (k + 1) / 64 = 2) :
    Calls Tryz.prog 112 #[.string s, .int .i64 k] w fun e w' => e = .returned (.tuple #[.int .i64 0, .int .i64 0]) ∧ ∃ n, w' = w.drewN n := by
  have b0 := bt_lt s k
  have g0 := bt_get s k
  have wN := wrapN (bt s k) (by omega)
  have b1 := bt_lt s (k + 1)
  have g1 := bt_get s (k + 1)
  have a1 := and192 (bt s (k + 1)) (by omega)
  go_enter Tryz.func112, Tryz.ntmps112
  go_wp2
  go_ret2
  exact ⟨rfl, 0, rfl⟩

set_option maxHeartbeats 2000000 in
set_option maxRecDepth 100000 in
theorem at_none3 (s : ByteArray) (k : Nat) (w : World) (hs : k ≤ 120) (hlt : k < s.size) (h0 : bt s k = 226) (h1 : s.size ≤ k + 2) :
    Calls Tryz.prog 112 #[.string s, .int .i64 k] w fun e w' => e = .returned (.tuple #[.int .i64 0, .int .i64 0]) ∧ ∃ n, w' = w.drewN n := by
  have g0 : ∀ h : k < s.size, (s[k]'h).toNat = 226 := fun h => (bt_get s k h).trans h0
  clear h0
  have wN : wrap64 226 = 226 := by decide +kernel
  have z1 : ¬ (226 : Int) ≤ 223 := by decide
  go_enter Tryz.func112, Tryz.ntmps112
  go_wp2
  go_ret2
  exact ⟨rfl, 0, rfl⟩

set_option maxHeartbeats 2000000 in
set_option maxRecDepth 100000 in
theorem at_none4 (s : ByteArray) (k : Nat) (w : World) (hs : k ≤ 120) (hlt : k < s.size) (h0 : bt s k = 226) (h1 : k + 2 < s.size) (q1 : ¬ bt s (k + 1) / 64 = 2) :
    Calls Tryz.prog 112 #[.string s, .int .i64 k] w fun e w' => e = .returned (.tuple #[.int .i64 0, .int .i64 0]) ∧ ∃ n, w' = w.drewN n := by
  have g0 : ∀ h : k < s.size, (s[k]'h).toNat = 226 := fun h => (bt_get s k h).trans h0
  clear h0
  have wN : wrap64 226 = 226 := by decide +kernel
  have z1 : ¬ (226 : Int) ≤ 223 := by decide
  have b1 := bt_lt s (k + 1)
  have g1 := bt_get s (k + 1)
  have a1 : (bits BinOp.and IntKind.u8 (bt s (k + 1)) 192 == 128) = false := (and192 (bt s (k + 1)) (by omega)).trans (by simp [q1])
  clear q1
  go_enter Tryz.func112, Tryz.ntmps112
  go_wp2
  go_ret2
  exact ⟨rfl, 0, rfl⟩

set_option maxHeartbeats 2000000 in
set_option maxRecDepth 100000 in
theorem at_none5 (s : ByteArray) (k : Nat) (w : World) (hs : k ≤ 120) (hlt : k < s.size) (h0 : bt s k = 226) (h1 : k + 2 < s.size) (q1 : bt s (k + 1) / 64 = 2) (q2 : ¬ bt s (k + 2) / 64 = 2) :
    Calls Tryz.prog 112 #[.string s, .int .i64 k] w fun e w' => e = .returned (.tuple #[.int .i64 0, .int .i64 0]) ∧ ∃ n, w' = w.drewN n := by
  have g0 : ∀ h : k < s.size, (s[k]'h).toNat = 226 := fun h => (bt_get s k h).trans h0
  clear h0
  have wN : wrap64 226 = 226 := by decide +kernel
  have z1 : ¬ (226 : Int) ≤ 223 := by decide
  have b1 := bt_lt s (k + 1)
  have g1 := bt_get s (k + 1)
  have a1 : (bits BinOp.and IntKind.u8 (bt s (k + 1)) 192 == 128) = true := (and192 (bt s (k + 1)) (by omega)).trans (by simp [q1])
  clear q1
  have b2 := bt_lt s (k + 2)
  have g2 := bt_get s (k + 2)
  have a2 : (bits BinOp.and IntKind.u8 (bt s (k + 2)) 192 == 128) = false := (and192 (bt s (k + 2)) (by omega)).trans (by simp [q2])
  clear q2
  go_enter Tryz.func112, Tryz.ntmps112
  go_wp2
  go_ret2
  exact ⟨rfl, 0, rfl⟩

theorem ret2 {a b c d : Int} (h : a = b) (h2 : c = d) : Ending.returned (.tuple #[.int .i64 a, .int .i64 c]) = .returned (.tuple #[.int .i64 b, .int .i64 d]) := by rw [h, h2]
theorem at3_num (x y : Nat) (hx : x < 64) (hy : y < 64) : wrap64 (wrap64 (wrap64 (2 * 4096) + wrap64 ((x : Int) * 64)) + wrap64 (y : Int)) = ((8192 + x * 64 + y : Nat) : Int) := by
  unfold wrap64; omega

set_option maxHeartbeats 2000000 in
set_option maxRecDepth 100000 in
theorem at_three (s : ByteArray) (k : Nat) (w : World) (hs : k ≤ 120) (hlt : k < s.size) (h0 : bt s k = 226) (h1 : k + 2 < s.size) (q1 : bt s (k + 1) / 64 = 2) (q2 : bt s (k + 2) / 64 = 2) :
    Calls Tryz.prog 112 #[.string s, .int .i64 k] w fun e w' => e = .returned (.tuple #[.int .i64 ((8192 + bt s (k + 1) % 64 * 64 + bt s (k + 2) % 64 : Nat) : Int), .int .i64 3]) ∧ ∃ n, w' = w.drewN n := by
  have g0 : ∀ h : k < s.size, (s[k]'h).toNat = 226 := fun h => (bt_get s k h).trans h0
  clear h0
  have wN : wrap64 226 = 226 := by decide +kernel
  have z1 : ¬ (226 : Int) ≤ 223 := by decide
  have b1 := bt_lt s (k + 1)
  have g1 := bt_get s (k + 1)
  have a1 : (bits BinOp.and IntKind.u8 (bt s (k + 1)) 192 == 128) = true := (and192 (bt s (k + 1)) (by omega)).trans (by simp [q1])
  clear q1
  have b2 := bt_lt s (k + 2)
  have g2 := bt_get s (k + 2)
  have a2 : (bits BinOp.and IntKind.u8 (bt s (k + 2)) 192 == 128) = true := (and192 (bt s (k + 2)) (by omega)).trans (by simp [q2])
  clear q2
  have m1 := and63 (bt s (k + 1)) (by omega)
  have m2 := and63 (bt s (k + 2)) (by omega)
  have l1 : bt s (k + 1) % 64 < 64 := by omega
  have l2 : bt s (k + 2) % 64 < 64 := by omega
  generalize bt s (k + 1) % 64 = x at *
  generalize bt s (k + 2) % 64 = y at *
  have m0 : bits BinOp.and IntKind.i64 226 15 = 2 := by decide +kernel
  go_enter Tryz.func112, Tryz.ntmps112
  go_wp2
  go_quiet (fail)
  go_wp2
  go_ret2
  refine ⟨ret2 ?_ rfl, nq, rfl⟩
  simp

theorem atK_any (s : ByteArray) (k : Nat) (w : World) (hs : k ≤ 120) (hk : k ≤ s.size) :
    Calls Tryz.prog 112 #[.string s, .int .i64 k] w fun e w' => e = .returned (.tuple #[.int .i64 (atP s k).1, .int .i64 (atP s k).2]) ∧ ∃ n, w' = w.drewN n := by
  by_cases hlt : k < s.size
  · by_cases h1 : bt s k < 128
    · rw [show atP s k = (bt s k, 1) by simp [atP, h1] <;> omega]
      exact at_one s k w hs hlt h1
    · by_cases h2 : 194 ≤ bt s k ∧ bt s k ≤ 223
      · by_cases h3 : k + 1 < s.size
        · by_cases h4 : bt s (k + 1) / 64 = 2
          · rw [show atP s k = (bt s k % 32 * 64 + bt s (k + 1) % 64, 2) by simp [atP, h1, h2, h3, h4] <;> omega]
            exact at_two s k w hs hlt h2.1 h2.2 h3 h4
          · rw [show atP s k = (0, 0) by simp [atP, h1, h4] <;> omega]
            exact at_none2 s k w hs hlt h2.1 h2.2 h3 h4
        · rw [show atP s k = (0, 0) by simp [atP, h1, h3] <;> omega]
          exact at_none1 s k w hs hlt h2.1 h2.2 (by omega)
      · by_cases h0 : bt s k = 226
        · by_cases h3 : k + 2 < s.size
          · by_cases h4 : bt s (k + 1) / 64 = 2
            · by_cases h5 : bt s (k + 2) / 64 = 2
              · rw [show atP s k = (8192 + bt s (k + 1) % 64 * 64 + bt s (k + 2) % 64, 3) by simp [atP, h0, h3, h4, h5] <;> omega]
                exact at_three s k w hs hlt h0 h3 h4 h5
              · rw [show atP s k = (0, 0) by simp [atP, h0, h5]]
                exact at_none5 s k w hs hlt h0 h3 h4 h5
            · rw [show atP s k = (0, 0) by simp [atP, h0, h4]]
              exact at_none4 s k w hs hlt h0 h3 h4
          · rw [show atP s k = (0, 0) by simp [atP, h0, h3]]
            exact at_none3 s k w hs hlt h0 (by omega)
        · rw [show atP s k = (0, 0) by unfold atP; repeat (rw [if_neg (by omega)])]
          exact at_none0 s k w hs hlt (by omega) (by omega) h0
  · rw [show atP s k = (0, 0) by simp [atP] <;> omega]
    go_enter Tryz.func112, Tryz.ntmps112
    go_wp2
    go_ret2
    exact ⟨rfl, 0, rfl⟩
theorem at_any (s : ByteArray) (k : Nat) (w : World) (hs : s.size ≤ 120) (hk : k ≤ s.size) :
    Calls Tryz.prog 112 #[.string s, .int .i64 k] w fun e w' => e = .returned (.tuple #[.int .i64 (atP s k).1, .int .i64 (atP s k).2]) ∧ ∃ n, w' = w.drewN n := atK_any s k w (by omega) hk
theorem atP_le (s : ByteArray) (k : Nat) : (atP s k).2 ≤ 3 ∧ (k ≤ s.size → k + (atP s k).2 ≤ s.size) ∧ (atP s k).1 < 20000 := by
  have b0 := bt_lt s k
  unfold atP
  repeat' split
  all_goals simp
  all_goals omega
end Go.Proofs.YtodabmkcihafhaaGreatDoor

/- The document's reader: its state in memory; sign, skip, fail, add. -/
namespace Go.Proofs.YtodabmkcihafhaaGreatDoor
open Go.RowKit
set_option linter.unusedVariables false

def Nd.cells (n : Nd) : List Value := [.int .i64 n.op, .int .i64 n.a, .int .i64 n.b, .int .i64 n.num, .int .i64 n.den, .string n.text, .int .i64 n.pl]
def ndCells (L : List Nd) : List Value := L.flatMap Nd.cells

/-- The reader, in block b: its text, its place, its nodes (a row of its own, behind b), its fault. -/
def RdSt (s : ByteArray) (b i : Nat) (L : List Nd) (bad : Int) (w : World) : Prop :=
  ∃ v, w.heap[b]? = some (.cells #[.string s, .int .i64 i, v, .int .i64 bad] 201 (0, 0)) ∧ w.ownsRow (b + 1) 137 7 v L.length (ndCells L)

theorem rd_cells {s : ByteArray} {b i : Nat} {v : Value} {bad : Int} {w : World} (h : w.heap[b]? = some (.cells #[.string s, .int .i64 i, v, .int .i64 bad] 201 (0, 0))) :
    w.cell? ⟨b, 0, none⟩ = some (.string s) ∧ w.cell? ⟨b, 1, none⟩ = some (.int .i64 i) ∧ w.cell? ⟨b, 2, none⟩ = some v ∧ w.cell? ⟨b, 3, none⟩ = some (.int .i64 bad) ∧
    w.frozen? ⟨b, 1, none⟩ = false ∧ w.frozen? ⟨b, 2, none⟩ = false ∧ w.frozen? ⟨b, 3, none⟩ = false := by
  simp [World.cell?, World.frozen?, h]
theorem RdSt.lt {s : ByteArray} {b i : Nat} {L : List Nd} {bad : Int} {w : World} (h : RdSt s b i L bad w) : b < w.heap.size := by
  obtain ⟨v, hb, _⟩ := h
  exact (Array.getElem?_eq_some_iff.1 hb).1
theorem RdSt.drewN {s : ByteArray} {b i : Nat} {L : List Nd} {bad : Int} {w : World} (h : RdSt s b i L bad w) (n : Nat) : RdSt s b i L bad (w.drewN n) := h
theorem own_setCell {w : World} {b : Nat} {e : TypeId} {n : Nat} {size : Nat} {v : Value} {xs : List Value} (o : w.ownsRow (b + 1) e size v n xs) (j : Nat) (u : Value) : (w.setCell ⟨b, j, none⟩ u).ownsRow (b + 1) e size v n xs :=
  ownsRow_setCell_below o (by simp) _
theorem RdSt.setI {s : ByteArray} {b i : Nat} {L : List Nd} {bad : Int} {w : World} (h : RdSt s b i L bad w) (i' : Nat) : RdSt s b i' L bad (w.setCell ⟨b, 1, none⟩ (.int .i64 i')) := by
  obtain ⟨v, hb, o⟩ := h
  exact ⟨v, by simp [World.setCell, Array.getElem?_modify, hb], own_setCell o _ _⟩
theorem RdSt.setBad {s : ByteArray} {b i : Nat} {L : List Nd} {bad : Int} {w : World} (h : RdSt s b i L bad w) (bad' : Int) : RdSt s b i L bad' (w.setCell ⟨b, 3, none⟩ (.int .i64 bad')) := by
  obtain ⟨v, hb, o⟩ := h
  exact ⟨v, by simp [World.setCell, Array.getElem?_modify, hb], own_setCell o _ _⟩

theorem below_drewN {B : Nat} {a w : World} (h : Below B a w) : ∀ n, Below B a (w.drewN n) := by
  intro n
  induction n with
  | zero => exact h
  | succ n ih => exact ih.drew

/-! ### What only one block has turned -/
theorem gb_refl (w : World) (r : Option Nat) : w.grownBy w r := ⟨rfl, rfl, rfl, Nat.le_refl _, fun _ _ _ => rfl⟩
theorem gb_trans {a b c : World} {r : Option Nat} (h : a.grownBy b r) (k : b.grownBy c r) : a.grownBy c r :=
  ⟨k.os.trans h.os, k.tape.trans h.tape, k.output.trans h.output, Nat.le_trans h.size k.size, fun i hi hn => (k.block i (Nat.lt_of_lt_of_le hi h.size) hn).trans (h.block i hi hn)⟩
theorem gb_alloc {a w : World} {r : Option Nat} (h : a.grownBy w r) (o : Obj) : a.grownBy (w.alloc o) r := gb_trans h (World.grownBy_alloc w o r)
theorem gb_set {a w : World} {b : Nat} (h : a.grownBy w (some b)) (i : Nat) (v : Value) : a.grownBy (w.setCell ⟨b, i, none⟩ v) (some b) :=
  ⟨h.os, h.tape, h.output, by simpa using h.size, fun j hj hn => by rw [Below.heap_setCell _ _ _ _ (fun e => hn (by rw [e]))]; exact h.block j hj hn⟩
/-- A cell of a block that is new. -/
theorem gb_new {a w : World} {r : Option Nat} (h : a.grownBy w r) {b : Nat} (hb : a.heap.size ≤ b) (i : Nat) (v : Value) : a.grownBy (w.setCell ⟨b, i, none⟩ v) r :=
  ⟨h.os, h.tape, h.output, by simpa using h.size, fun j hj hn => by rw [Below.heap_setCell _ _ _ _ (by simp; omega)]; exact h.block j hj hn⟩
theorem gb_below {a w w' : World} {r : Option Nat} (h : a.grownBy w r) (hb : Below w.heap.size w w') : a.grownBy w' r :=
  ⟨hb.os.trans h.os, hb.tape.trans h.tape, hb.output.trans h.output, Nat.le_trans h.size hb.size, fun j hj hn => (hb.block j (Nat.lt_of_lt_of_le hj h.size)).trans (h.block j hj hn)⟩
theorem gb_drewN {a w : World} {r : Option Nat} (h : a.grownBy w r) (n : Nat) : a.grownBy (w.drewN n) r := by
  induction n with
  | zero => exact h
  | succ n ih => exact ⟨ih.os, ih.tape, ih.output, ih.size, ih.block⟩
theorem gb_to_below {a w : World} {b : Nat} (h : a.grownBy w (some b)) {B : Nat} (hB : B ≤ b) (hs : B ≤ a.heap.size) : Below B a w :=
  ⟨h.os, h.tape, h.output, h.size, fun j hj => h.block j (by omega) (fun e => by injection e with e; omega)⟩
theorem gb_of_new {a w0 w : World} {b : Nat} {r : Option Nat} (h0 : a.grownBy w0 r) (h : w0.grownBy w (some b)) (hb : a.heap.size ≤ b) : a.grownBy w r :=
  ⟨h.os.trans h0.os, h.tape.trans h0.tape, h.output.trans h0.output, Nat.le_trans h0.size h.size, fun j hj hn => (h.block j (Nat.lt_of_lt_of_le hj h0.size) (fun e => by injection e with e; omega)).trans (h0.block j hj hn)⟩
set_option maxHeartbeats 400000 in
theorem skip_exact (s : ByteArray) (b i : Nat) (w : World) (hs : s.size ≤ 120) (hi : i ≤ s.size) (c0 : w.cell? ⟨b, 0, none⟩ = some (.string s)) (c1 : w.cell? ⟨b, 1, none⟩ = some (.int .i64 i)) (f1 : w.frozen? ⟨b, 1, none⟩ = false) :
    Calls Tryz.prog 128 #[.pointer (some ⟨b, 0, none⟩)] w fun e w' => e = .returned (.tuple #[]) ∧ ∃ n, w' = (w.drewN n).setCell ⟨b, 1, none⟩ (.int .i64 ((i + (atP s i).2 : Nat) : Int)) := by
  have hl := (atP_le s i).1
  go_enter Tryz.func128, Tryz.ntmps128
  go_wp2_with fail
  go_quiet ((go_at_call 112; exact Calls.quiet_of (at_any _ _ _ (by omega) (by omega))))
  go_wp2_with fail
  go_end0
  exact ⟨rfl, nq, by simp⟩

theorem skip_any (s : ByteArray) (b i : Nat) (L : List Nd) (bad : Int) (w : World) (hs : s.size ≤ 120) (hi : i ≤ s.size) (h : RdSt s b i L bad w) :
    Calls Tryz.prog 128 #[.pointer (some ⟨b, 0, none⟩)] w fun e w' => e = .returned (.tuple #[]) ∧ RdSt s b (i + (atP s i).2) L bad w' ∧ Below b w w' := by
  have HH := h
  obtain ⟨v, hb, _⟩ := h
  obtain ⟨c0, c1, c2, c3, f1, f2, f3⟩ := rd_cells hb
  refine (skip_exact s b i w hs hi c0 c1 f1).mono ?_
  rintro e w' ⟨rfl, n, rfl⟩
  exact ⟨rfl, (HH.drewN n).setI (i + (atP s i).2), (below_drewN (Below.refl b w) n).setCell (p := ⟨b, 1, none⟩) (Nat.le_refl b) _⟩

set_option maxHeartbeats 400000 in
theorem fail_any (s : ByteArray) (b i : Nat) (L : List Nd) (bad : Int) (w : World) (hs : s.size ≤ 120) (hi : i ≤ s.size) (h : RdSt s b i L bad w) :
    Calls Tryz.prog 87 #[.pointer (some ⟨b, 0, none⟩)] w fun e w' => e = .returned (.tuple #[]) ∧ RdSt s b i L (if bad < 0 then i else bad) w' ∧ Below b w w' := by
  have HH : Hid (RdSt s b i L bad w) := h
  obtain ⟨v, hb, _⟩ := h
  obtain ⟨c0, c1, c2, c3, f1, f2, f3⟩ := rd_cells hb
  clear hb
  by_cases hneg : bad < 0
  · rw [if_pos hneg]
    go_enter Tryz.func87, Tryz.ntmps87
    go_wp2_with fail
    go_end0
    refine ⟨rfl, ?_, ?_⟩
    · exact HH.out.setBad i
    · exact (Below.refl b w).setCell (p := ⟨b, 3, none⟩) (Nat.le_refl b) _
  · rw [if_neg hneg]
    go_enter Tryz.func87, Tryz.ntmps87
    go_wp2_with fail
    go_end0
    exact ⟨rfl, HH.out, Below.refl _ _⟩

def rdI (b : Nat) (w : World) : Nat := match w.cell? ⟨b, 1, none⟩ with | some (.int _ q) => q.toNat | _ => 0

theorem RdSt.place {s : ByteArray} {b i : Nat} {L : List Nd} {bad : Int} {w : World} (h : RdSt s b i L bad w) : rdI b w = i := by
  obtain ⟨v, hb, _⟩ := h
  simp [rdI, (rd_cells hb).2.1]
set_option maxHeartbeats 1000000 in
theorem sign_any (s : ByteArray) (b i : Nat) (L : List Nd) (bad : Int) (w : World) (hs : s.size ≤ 120) (hi : i ≤ s.size) (h : RdSt s b i L bad w) :
    Calls Tryz.prog 86 #[.pointer (some ⟨b, 0, none⟩)] w fun e w' => e = .returned (.int .i64 (atP s (skipB s i)).1) ∧ RdSt s b (skipB s i) L bad w' ∧ Below b w w' := by
  go_enter Tryz.func86, Tryz.ntmps86
  go_wp2_with fail
  go_loopw [] (fun wr => ∃ j : Nat, RdSt s b j L bad wr ∧ j ≤ s.size ∧ skipB s j = skipB s i ∧ Below b w wr) (fun wr => s.size - rdI b wr)
  case atStart => exact ⟨i, h, hi, rfl, Below.refl _ _⟩
  case round =>
    clear h
    obtain ⟨j, h, hj, hsk, hbel⟩ := hrel
    have HH : Hid (RdSt s b j L bad wr) := h
    obtain ⟨v, hb, _⟩ := h
    obtain ⟨c0, c1, c2, c3, f1, f2, f3⟩ := rd_cells hb
    clear hb
    have HS : Hid (skipB s j = skipB s i) := hsk
    clear hsk
    by_cases hlt : j < s.size
    · have g0 := bt_get s j
      by_cases h32 : bt s j = 32
      · have g0' : ∀ h : j < s.size, (s[j]'h).toNat = 32 := fun h => (g0 h).trans h32
        clear g0
        go_wp2_with fail
        go_quiet (fail)
        go_wp2_with fail
        have R := (HH.out.drewN nq).setI (j + 1)
        refine ⟨⟨j + 1, R, by omega, ?_, (below_drewN hbel nq).setCell (p := ⟨b, 1, none⟩) (Nat.le_refl b) _⟩, ?_⟩
        · rw [← skipB_on s j hlt h32]; exact HS.out
        · have e1 := R.place
          have e2 := HH.out.place
          simp only [Int.natCast_add, Int.cast_ofNat_Int] at e1
          rw [e1, e2]; omega
      · have ne : (((bt s j : Nat) : Int) == 32) = false := by simp; omega
        have hsk := HS.out
        rw [skipB_off s j (by omega)] at hsk
        have HE : Hid (skipB s i = j) := hsk.symm
        clear HS hsk
        go_wp2_with fail
        go_quiet (fail)
        go_wp2_with fail
        have HH2 : Hid (RdSt s b j L bad (wr.drewN nq)) := HH.out.drewN nq
        have hbel2 := below_drewN hbel nq
        generalize wr.drewN nq = W at *
        clear c0 c1 c2 c3 f1 f2 f3 HH hbel
        obtain ⟨v2, hb2, _⟩ := HH2.out
        obtain ⟨c0, c1, c2, c3, f1, f2, f3⟩ := rd_cells hb2
        clear hb2
        go_quiet ((go_at_call 112; exact Calls.quiet_of (at_any _ _ _ (by omega) (by omega))))
        go_wp2_with fail
        go_ret
        rw [HE.out]
        exact ⟨rfl, HH2.out, below_drewN hbel2 _⟩
    · have hsk := HS.out
      rw [skipB_off s j (by omega)] at hsk
      have HE : Hid (skipB s i = j) := hsk.symm
      clear HS hsk
      go_wp2_with fail
      go_quiet (fail)
      go_wp2_with fail
      have HH2 : Hid (RdSt s b j L bad (wr.drewN nq)) := HH.out.drewN nq
      have hbel2 := below_drewN hbel nq
      generalize wr.drewN nq = W at *
      clear c0 c1 c2 c3 f1 f2 f3 HH hbel
      obtain ⟨v2, hb2, _⟩ := HH2.out
      obtain ⟨c0, c1, c2, c3, f1, f2, f3⟩ := rd_cells hb2
      clear hb2
      go_quiet ((go_at_call 112; exact Calls.quiet_of (at_any _ _ _ (by omega) (by omega))))
      go_wp2_with fail
      go_ret
      rw [HE.out]
      exact ⟨rfl, HH2.out, below_drewN hbel2 _⟩
end Go.Proofs.YtodabmkcihafhaaGreatDoor

/- The document's reader: add. -/
namespace Go.Proofs.YtodabmkcihafhaaGreatDoor
open Go.RowKit
set_option linter.unusedVariables false

theorem nd_agg (n : Nd) : ndCells [n] = [.int .i64 n.op, .int .i64 n.a, .int .i64 n.b, .int .i64 n.num, .int .i64 n.den, .string n.text, .int .i64 n.pl] := rfl

theorem Tryz.infoNode : (Tryz.prog.info? 137).map (fun i => (i.zero, i.size, i.bytes)) = some (some (.agg #[.int .i64 0, .int .i64 0, .int .i64 0, .int .i64 0, .int .i64 0, .string ByteArray.empty, .int .i64 0]), 7, 64) := by kernel_rfl

def ndArr (n : Nd) : Array Value := #[.int .i64 n.op, .int .i64 n.a, .int .i64 n.b, .int .i64 n.num, .int .i64 n.den, .string n.text, .int .i64 n.pl]
theorem nd_one (n : Nd) : ∀ u ∈ n.cells, u.oneCell' = true := by
  intro u hu
  simp [Nd.cells] at hu
  rcases hu with rfl | rfl | rfl | rfl | rfl | rfl | rfl <;> rfl
theorem nd_new (w : World) (n : Nd) (o : Obj) : ∀ j u, n.cells[j]? = some u → (((w.alloc o).alloc (.cells #[.int .i64 n.op, .int .i64 n.a, .int .i64 n.b, .int .i64 n.num, .int .i64 n.den, .string n.text, .int .i64 n.pl] 137)).drew).cell? ((⟨w.heap.size + 1, 0, none⟩ : Addr).add j) = some u := by
  refine World.news_of_block (cs := #[.int .i64 n.op, .int .i64 n.a, .int .i64 n.b, .int .i64 n.num, .int .i64 n.den, .string n.text, .int .i64 n.pl]) (t := 137) (fr := (0, 0)) ?_
  have := heap_alloc_new (w.alloc o) (.cells #[.int .i64 n.op, .int .i64 n.a, .int .i64 n.b, .int .i64 n.num, .int .i64 n.den, .string n.text, .int .i64 n.pl] 137)
  rw [show (w.alloc o).heap.size = w.heap.size + 1 by simp] at this
  exact this
theorem ndCells_snoc (L : List Nd) (n : Nd) : ndCells L ++ n.cells = ndCells (L ++ [n]) := by simp [ndCells]

set_option maxHeartbeats 1000000 in
theorem add_any (s : ByteArray) (b i : Nat) (L : List Nd) (bad : Int) (n : Nd) (w : World) (hL : L.length ≤ 1000) (h : RdSt s b i L bad w) :
    Calls Tryz.prog 129 #[.pointer (some ⟨b, 0, none⟩), .agg #[.int .i64 n.op, .int .i64 n.a, .int .i64 n.b, .int .i64 n.num, .int .i64 n.den, .string n.text, .int .i64 n.pl]] w
      fun e w' => e = .returned (.int .i64 L.length) ∧ RdSt s b i (L ++ [n]) bad w' ∧ Below b w w' := by
  obtain ⟨v, hb, ho⟩ := h
  obtain ⟨c0, c1, c2, c3, f1, f2, f3⟩ := rd_cells hb
  have hlt : b < w.heap.size := (Array.getElem?_eq_some_iff.1 hb).1
  have Hb : Hid (w.heap[b]? = some (.cells #[.string s, .int .i64 i, v, .int .i64 bad] 201 (0, 0))) := hb
  have Ho : Hid (w.ownsRow (b + 1) 137 7 v L.length (ndCells L)) := ho
  clear hb ho
  go_enter Tryz.func129, Tryz.ntmps129
  go_wp2_with fail
  obtain ⟨i0, hi, hz0, hz1, hz2⟩ := info_parts Tryz.infoNode
  have Hi : Hid (Tryz.prog.info? 137 = some i0) := hi
  have Hz : Hid (i0.zero = some (.agg #[.int .i64 0, .int .i64 0, .int .i64 0, .int .i64 0, .int .i64 0, .string ByteArray.empty, .int .i64 0])) := hz0
  have Hz1 : Hid (i0.size = 7) := hz1
  have Hz2 : Hid (i0.bytes = 64) := hz2
  clear hi hz0 hz1 hz2
  go_region_law (
    refine step_append_lies _ rfl (.tmp 9) (.tmp 11) 131 rfl (b + 1) 137 i0 _ 7 64 Tryz.underlying131 Hi.out Hz.out Hz1.out Hz2.out rfl (by decide) v L.length (ndCells L) rfl ((Ho.out.alloc _).alloc _) ⟨w.heap.size + 1, 0, none⟩ 1 1 n.cells rfl rfl (nd_new w n _) (nd_one n) (by decide) (by unfold maxLen; omega) (by omega) (by simp; omega) (w.heap.size + 2) (by simp) ?_
    intro g cap w1 hown hgrow hat hlt1
    have hwb : w1.heap[b]? = w.heap[b]? := by
      rw [hgrow.block b (by simp; omega) (fun e => by have := (Ho.out.lt b e.symm).1; omega)]
      show ((w.alloc _).alloc _).heap[b]? = _
      rw [Below.heap_alloc _ _ _ (by simp; omega), Below.heap_alloc _ _ _ hlt]
    obtain ⟨d0, d1, d2, d3, k1, k2, k3⟩ := rd_cells (hwb.trans Hb.out)
    have X : Hid (w1.ownsRow (b + 1) 137 7 (.slice (some ⟨g, 0, none⟩) (L.length + 1) cap) (L.length + 1) (ndCells L ++ n.cells) ∧ w1.heap[b]? = some (.cells #[.string s, .int .i64 i, v, .int .i64 bad] 201 (0, 0)) ∧ Below b w w1) := by
      refine ⟨hown, hwb.trans Hb.out, ?_⟩
      exact ((((Below.refl b w).alloc (by omega) _).alloc (by simp; omega) _).drew).grown hgrow (by simp; omega) (fun k hk => by have := (Ho.out.lt k hk).1; omega)
    clear hown hgrow hat hwb)
  all_goals
    go_wp2
    go_ret
    obtain ⟨x1, x2, x3⟩ := X.out
    refine ⟨rfl, ⟨.slice (some ⟨g, 0, none⟩) (L.length + 1) cap, by simp [World.setCell, Array.getElem?_modify, x2], ?_⟩, x3.setCell (p := ⟨b, 2, none⟩) (Nat.le_refl b) _⟩
    rw [ndCells_snoc] at x1
    rw [show (L ++ [n]).length = L.length + 1 by simp]
    exact own_setCell x1 _ _
end Go.Proofs.YtodabmkcihafhaaGreatDoor
