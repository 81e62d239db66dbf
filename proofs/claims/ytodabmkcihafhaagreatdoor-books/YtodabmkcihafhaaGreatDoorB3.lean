import Derived.Deep.QuietTactic
import Derived.BigQuiet
import Derived.Deep.RegionLaw
import Derived.Test.YtodabmkcihafhaaGreatDoorRows
import Derived.Deep.LoopGhost
import Derived.RegionTactic
import Derived.ChangeAlike
import Derived.BigRegion
import Derived.Deep.RegionWith
import Derived.Lib.QuietBelow
import Derived.Test.YtodabmkcihafhaaGreatDoorB2
import Derived.Test.YtodabmkcihafhaaGreatDoorB0

/- Plain: fractions and numbers, reckoned with a bound. -/
namespace Go.Proofs.YtodabmkcihafhaaGreatDoor

structure Fr where
  n : Int
  d : Int
structure Num where
  re : Fr
  im : Fr

def gcdP (n d : Int) : Int := (Nat.gcd n.natAbs d.natAbs : Nat)
def lowP (n d : Int) : Fr := ⟨n / gcdP n d, d / gcdP n d⟩
def Fr.big (f : Fr) : Bool := decide (f.n > 999999 ∨ f.n < -999999 ∨ f.d > 999999)
def mkB (n d : Int) : Bool := (lowP n d).big
def mkF (n d : Int) : Fr := if mkB n d then ⟨0, 1⟩ else lowP n d
def Fr.neg (f : Fr) : Fr := ⟨-f.n, f.d⟩
def plF (a b : Fr) : Fr := mkF (a.n * b.d + b.n * a.d) (a.d * b.d)
def plB (a b : Fr) : Bool := mkB (a.n * b.d + b.n * a.d) (a.d * b.d)
def tmF (a b : Fr) : Fr := mkF (a.n * b.n) (a.d * b.d)
def tmB (a b : Fr) : Bool := mkB (a.n * b.n) (a.d * b.d)

def Fr.Ok (f : Fr) : Prop := 0 < f.d ∧ f.d ≤ 999999 ∧ -999999 ≤ f.n ∧ f.n ≤ 999999 ∧ Nat.gcd f.n.natAbs f.d.natAbs = 1
def Num.Ok (x : Num) : Prop := x.re.Ok ∧ x.im.Ok

theorem fr_zero_ok : Fr.Ok ⟨0, 1⟩ := by refine ⟨by decide, by decide, by decide, by decide, by decide⟩
theorem fr_one_ok : Fr.Ok ⟨1, 1⟩ := by refine ⟨by decide, by decide, by decide, by decide, by decide⟩
theorem Fr.Ok.neg {f : Fr} (h : f.Ok) : f.neg.Ok := by
  obtain ⟨a, b, c, d, e⟩ := h
  refine ⟨a, b, ?_, ?_, ?_⟩
  · show -999999 ≤ -f.n; omega
  · show -f.n ≤ 999999; omega
  · show Nat.gcd (-f.n).natAbs f.d.natAbs = 1
    rw [Int.natAbs_neg]; exact e
theorem gcdP_pos {n d : Int} (h : 0 < d) : 0 < gcdP n d := by
  unfold gcdP
  have := Nat.gcd_pos_of_pos_right n.natAbs (show 0 < d.natAbs by omega)
  omega
theorem gcdP_dvd_n (n d : Int) : gcdP n d ∣ n := by
  unfold gcdP
  exact Int.dvd_natAbs.1 (Int.natCast_dvd_natCast.2 (Nat.gcd_dvd_left _ _))
theorem gcdP_dvd_d (n d : Int) : gcdP n d ∣ d := by
  unfold gcdP
  exact Int.dvd_natAbs.1 (Int.natCast_dvd_natCast.2 (Nat.gcd_dvd_right _ _))
theorem low_mul_n (n d : Int) : (lowP n d).n * gcdP n d = n := Int.ediv_mul_cancel (gcdP_dvd_n n d)
theorem low_mul_d (n d : Int) : (lowP n d).d * gcdP n d = d := Int.ediv_mul_cancel (gcdP_dvd_d n d)
theorem low_d_pos {n d : Int} (h : 0 < d) : 0 < (lowP n d).d := by
  have h1 := low_mul_d n d
  have h2 := gcdP_pos (n := n) h
  rcases Int.lt_or_le 0 (lowP n d).d with h3 | h3
  · exact h3
  · have := Int.mul_le_mul_of_nonneg_right h3 (Int.le_of_lt h2)
    omega
theorem low_gcd {n d : Int} (h : 0 < d) : Nat.gcd (lowP n d).n.natAbs (lowP n d).d.natAbs = 1 := by
  have h1 : (lowP n d).n.natAbs * Nat.gcd n.natAbs d.natAbs = n.natAbs := by
    have := congrArg Int.natAbs (low_mul_n n d)
    rw [Int.natAbs_mul] at this
    exact this
  have h2 : (lowP n d).d.natAbs * Nat.gcd n.natAbs d.natAbs = d.natAbs := by
    have := congrArg Int.natAbs (low_mul_d n d)
    rw [Int.natAbs_mul] at this
    exact this
  have hg : 0 < Nat.gcd n.natAbs d.natAbs := Nat.gcd_pos_of_pos_right _ (by omega)
  have h3 : Nat.gcd ((lowP n d).n.natAbs * Nat.gcd n.natAbs d.natAbs) ((lowP n d).d.natAbs * Nat.gcd n.natAbs d.natAbs) = Nat.gcd n.natAbs d.natAbs := by
    rw [h1, h2]
  rw [Nat.gcd_mul_right] at h3
  exact Nat.eq_of_mul_eq_mul_right hg (by rw [h3, Nat.one_mul])
theorem mkF_ok {n d : Int} (h : 0 < d) : (mkF n d).Ok := by
  unfold mkF
  by_cases hb : mkB n d = true
  · rw [if_pos hb]; exact fr_zero_ok
  · rw [if_neg hb]
    unfold mkB Fr.big at hb
    simp at hb
    exact ⟨low_d_pos h, by omega, by omega, by omega, low_gcd h⟩
theorem mul_pos' {a b : Int} (ha : 0 < a) (hb : 0 < b) : 0 < a * b := Int.mul_pos ha hb
theorem plF_ok {a b : Fr} (ha : a.Ok) (hb : b.Ok) : (plF a b).Ok := mkF_ok (mul_pos' ha.1 hb.1)
theorem tmF_ok {a b : Fr} (ha : a.Ok) (hb : b.Ok) : (tmF a b).Ok := mkF_ok (mul_pos' ha.1 hb.1)

/-- How great a product of two parts gets. -/
theorem mul_bound {a b : Int} (h1 : -999999 ≤ a) (h2 : a ≤ 999999) (h3 : -999999 ≤ b) (h4 : b ≤ 999999) : -999998000001 ≤ a * b ∧ a * b ≤ 999998000001 := by
  have ha : a.natAbs ≤ 999999 := by omega
  have hb : b.natAbs ≤ 999999 := by omega
  have := Nat.mul_le_mul ha hb
  have e := Int.natAbs_mul a b
  omega
theorem Fr.Ok.mul_n {a b : Fr} (ha : a.Ok) (hb : b.Ok) : -999998000001 ≤ a.n * b.n ∧ a.n * b.n ≤ 999998000001 := mul_bound ha.2.2.1 ha.2.2.2.1 hb.2.2.1 hb.2.2.2.1
theorem Fr.Ok.mul_nd {a b : Fr} (ha : a.Ok) (hb : b.Ok) : -999998000001 ≤ a.n * b.d ∧ a.n * b.d ≤ 999998000001 := mul_bound ha.2.2.1 ha.2.2.2.1 (by have := hb.1; omega) hb.2.1
theorem Fr.Ok.mul_d {a b : Fr} (ha : a.Ok) (hb : b.Ok) : 0 < a.d * b.d ∧ a.d * b.d ≤ 999998000001 := ⟨mul_pos' ha.1 hb.1, (mul_bound (by have := ha.1; omega) ha.2.1 (by have := hb.1; omega) hb.2.1).2⟩

/-! ### Numbers -/
def addN (x y : Num) : Num := ⟨plF x.re y.re, plF x.im y.im⟩
def addB (x y : Num) : Bool := plB x.re y.re || plB x.im y.im
def Num.neg (x : Num) : Num := ⟨x.re.neg, x.im.neg⟩
def Num.conj (x : Num) : Num := ⟨x.re, x.im.neg⟩
def subN (x y : Num) : Num := addN x y.neg
def subB (x y : Num) : Bool := addB x y.neg
def mulN (x y : Num) : Num := ⟨plF (tmF x.re y.re) (tmF x.im y.im).neg, plF (tmF x.re y.im) (tmF x.im y.re)⟩
def mulB (x y : Num) : Bool := tmB x.re y.re || tmB x.im y.im || plB (tmF x.re y.re) (tmF x.im y.im).neg || tmB x.re y.im || tmB x.im y.re || plB (tmF x.re y.im) (tmF x.im y.re)
def sqF (y : Num) : Fr := plF (tmF y.re y.re) (tmF y.im y.im)
def sqB (y : Num) : Bool := tmB y.re y.re || tmB y.im y.im || plB (tmF y.re y.re) (tmF y.im y.im)
def Fr.inv (f : Fr) : Fr := ⟨f.d, f.n⟩
def dvRe (x y : Num) : Fr := plF (tmF x.re y.re) (tmF x.im y.im)
def dvIm (x y : Num) : Fr := plF (tmF x.im y.re) (tmF x.re y.im).neg
def divN (x y : Num) : Num := ⟨tmF (dvRe x y) (sqF y).inv, tmF (dvIm x y) (sqF y).inv⟩
def divB (x y : Num) : Bool :=
  tmB x.re y.re || tmB x.im y.im || plB (tmF x.re y.re) (tmF x.im y.im) || tmB (dvRe x y) (sqF y).inv ||
  tmB x.im y.re || tmB x.re y.im || plB (tmF x.im y.re) (tmF x.re y.im).neg || tmB (dvIm x y) (sqF y).inv
def Num.zero (x : Num) : Bool := x.re.n == 0 && x.im.n == 0

theorem addN_ok {x y : Num} (hx : x.Ok) (hy : y.Ok) : (addN x y).Ok := ⟨plF_ok hx.1 hy.1, plF_ok hx.2 hy.2⟩
theorem Num.Ok.neg {x : Num} (hx : x.Ok) : x.neg.Ok := ⟨hx.1.neg, hx.2.neg⟩
theorem Num.Ok.conj {x : Num} (hx : x.Ok) : x.conj.Ok := ⟨hx.1, hx.2.neg⟩
theorem mulN_ok {x y : Num} (hx : x.Ok) (hy : y.Ok) : (mulN x y).Ok := ⟨plF_ok (tmF_ok hx.1 hy.1) (tmF_ok hx.2 hy.2).neg, plF_ok (tmF_ok hx.1 hy.2) (tmF_ok hx.2 hy.1)⟩
/-- Of a fraction in lowest terms the same one comes. -/
theorem low_of_ok {n d : Int} (h : Nat.gcd n.natAbs d.natAbs = 1) : lowP n d = ⟨n, d⟩ := by
  unfold lowP gcdP
  rw [h]
  simp
theorem mk_of_ok {f : Fr} (h : f.Ok) : mkF f.n f.d = f ∧ mkB f.n f.d = false := by
  obtain ⟨a, b, c, d, e⟩ := h
  have hb : mkB f.n f.d = false := by
    unfold mkB
    rw [low_of_ok e]
    unfold Fr.big
    simp
    omega
  refine ⟨?_, hb⟩
  unfold mkF
  rw [hb, low_of_ok e]
  rfl
theorem mk_of_inv {f : Fr} (h : f.Ok) (hp : 0 < f.n) : mkF f.d f.n = f.inv ∧ mkB f.d f.n = false ∧ f.inv.Ok := by
  obtain ⟨a, b, c, d, e⟩ := h
  have e' : Nat.gcd f.d.natAbs f.n.natAbs = 1 := by rw [Nat.gcd_comm]; exact e
  have hok : f.inv.Ok := ⟨hp, d, by show -999999 ≤ f.d; omega, b, e'⟩
  have := mk_of_ok hok
  exact ⟨this.1, this.2, hok⟩

/-- A sum of squares that was not too big is above 0. -/
theorem mkF_of_not {n d : Int} (hb : mkB n d = false) : mkF n d = lowP n d := by
  unfold mkF
  rw [hb]
  rfl
theorem low_n_nonneg {n d : Int} (hd : 0 < d) (hn : 0 ≤ n) : 0 ≤ (lowP n d).n := Int.ediv_nonneg hn (Int.le_of_lt (gcdP_pos hd))
theorem low_n_pos {n d : Int} (hd : 0 < d) (hn : 0 < n) : 0 < (lowP n d).n := by
  have h1 := low_mul_n n d
  have h2 := low_n_nonneg hd (Int.le_of_lt hn)
  rcases Int.lt_or_le 0 (lowP n d).n with h | h
  · exact h
  · have : (lowP n d).n = 0 := by omega
    rw [this] at h1
    omega
theorem sq_nonneg' (a : Int) : 0 ≤ a * a := by
  have := Int.natAbs_mul_self (a := a)
  omega
theorem sq_pos' {a : Int} (h : a ≠ 0) : 0 < a * a := by
  have h1 := Int.natAbs_mul_self (a := a)
  have h2 : 0 < a.natAbs := by omega
  have := Nat.mul_pos h2 h2
  omega
theorem tm_sq_nonneg {f : Fr} (hf : f.Ok) : 0 ≤ (tmF f f).n := by
  unfold tmF mkF
  split
  · exact Int.le_refl _
  · exact low_n_nonneg (mul_pos' hf.1 hf.1) (sq_nonneg' _)
theorem tm_sq_pos {f : Fr} (hf : f.Ok) (h0 : f.n ≠ 0) (hb : tmB f f = false) : 0 < (tmF f f).n := by
  unfold tmF
  rw [mkF_of_not hb]
  exact low_n_pos (mul_pos' hf.1 hf.1) (sq_pos' h0)
theorem sq_pos {y : Num} (hy : y.Ok) (hz : y.zero = false) (hb : sqB y = false) : 0 < (sqF y).n := by
  unfold sqB at hb
  simp only [Bool.or_eq_false_iff] at hb
  obtain ⟨⟨b1, b2⟩, b3⟩ := hb
  unfold sqF plF
  rw [mkF_of_not b3]
  have o1 := tmF_ok hy.1 hy.1
  have o2 := tmF_ok hy.2 hy.2
  refine low_n_pos (mul_pos' o1.1 o2.1) ?_
  have n1 := tm_sq_nonneg hy.1
  have n2 := tm_sq_nonneg hy.2
  have m1 := Int.mul_nonneg n1 (Int.le_of_lt o2.1)
  have m2 := Int.mul_nonneg n2 (Int.le_of_lt o1.1)
  unfold Num.zero at hz
  by_cases h : y.re.n = 0
  · have h2 : y.im.n ≠ 0 := by
      intro h2
      rw [h, h2] at hz
      revert hz; decide
    have := mul_pos' (tm_sq_pos hy.2 h2 b2) o1.1
    omega
  · have := mul_pos' (tm_sq_pos hy.1 h b1) o2.1
    omega
theorem divN_ok {x y : Num} (hx : x.Ok) (hy : y.Ok) (hz : y.zero = false) (hb : sqB y = false) : (divN x y).Ok := by
  have hi := (mk_of_inv (plF_ok (tmF_ok hy.1 hy.1) (tmF_ok hy.2 hy.2)) (sq_pos hy hz hb)).2.2
  exact ⟨tmF_ok (plF_ok (tmF_ok hx.1 hy.1) (tmF_ok hx.2 hy.2)) hi, tmF_ok (plF_ok (tmF_ok hx.2 hy.1) (tmF_ok hx.1 hy.2).neg) hi⟩

/-- One operation: its sign, and what it is made on; the error. -/
inductive Got where
  | ok (x : Num)
  | err (e : Int)
def bigOr (b : Bool) (x : Num) : Got := if b then .err 5 else .ok x
def opP (op : Int) (x y : Num) : Got :=
  if op = 43 then bigOr (addB x y) (addN x y)
  else if op = 8722 then bigOr (subB x y) (subN x y)
  else if op = 215 then bigOr (mulB x y) (mulN x y)
  else if op = 247 then (if y.zero then .err 4 else bigOr (sqB y || divB x y) (divN x y))
  else if op = 178 then bigOr (mulB x x) (mulN x x)
  else if op = 110 then .ok x.neg
  else .ok x.conj

/-- What a tree comes to: a number, or an error with its place. -/
inductive Ans where
  | ok (x : Num)
  | err (e : Int) (p : Nat)
def Got.at (g : Got) (p : Nat) : Ans := match g with | .ok x => .ok x | .err e => .err e p
def numeN (l : List Int) : Num := ⟨lowP (numVal l).1 (numVal l).2, ⟨0, 1⟩⟩
/-- The names' numbers (those that are there). -/
abbrev Env := Int → Option Num
def leafN (env : Env) (c : Int) : Num := if c = 105 then ⟨⟨0, 1⟩, ⟨1, 1⟩⟩ else (env c).getD ⟨⟨0, 1⟩, ⟨0, 1⟩⟩
def evT (env : Env) : Ex → Ans
  | .num l _ => .ok (numeN l)
  | .leaf c _ => .ok (leafN env c)
  | .un c p e => match evT env e with
    | .ok x => (opP c x x).at p
    | .err q r => .err q r
  | .bin c p l r => match evT env l with
    | .err q s => .err q s
    | .ok x => match evT env r with
      | .err q s => .err q s
      | .ok y => (opP c x y).at p
/-- The first name that is not there. -/
def missT (env : Env) : Ex → Option Nat
  | .num _ _ => none
  | .leaf c p => if c = 105 ∨ (env c).isSome then none else some p
  | .un _ _ e => missT env e
  | .bin _ _ l r => match missT env l with
    | some p => some p
    | none => missT env r
/-- P5, of a tree. -/
def valT (env : Env) (e : Ex) : Ans := match missT env e with
  | some p => .err 3 p
  | none => evT env e
end Go.Proofs.YtodabmkcihafhaaGreatDoor

/- The document's reader: its state in memory; sign, skip, fail, add. -/
namespace Go.Proofs.YtodabmkcihafhaaGreatDoor
open Go.RowKit
set_option linter.unusedVariables false

def Nd.cells (n : Nd) : List Value := [.int .i64 n.op, .int .i64 n.a, .int .i64 n.b, .int .i64 n.num, .int .i64 n.den, .string n.text, .int .i64 n.pl]
def ndCells (L : List Nd) : List Value := L.flatMap Nd.cells

/-- The reader, in block b: its text, its place, its nodes (a row of its own, behind b), its fault. -/
def RdSt (s : ByteArray) (b i : Nat) (L : List Nd) (bad : Int) (w : World) : Prop :=
  ∃ v, w.heap[b]? = some (.cells #[.string s, .int .i64 i, v, .int .i64 bad] 201 (0, 0)) ∧ w.ownsRow (b + 1) 137 7 v L.length (ndCells L)

theorem rd_cells {s : ByteArray} {b i : Nat} {v : Value} {bad : Int} {w : World} (h : w.heap[b]? = some (.cells #[.string s, .int .i64 i, v, .int .i64 bad] 201 (0, 0))) :
    w.cell? ⟨b, 0, none⟩ = some (.string s) ∧ w.cell? ⟨b, 1, none⟩ = some (.int .i64 i) ∧ w.cell? ⟨b, 2, none⟩ = some v ∧ w.cell? ⟨b, 3, none⟩ = some (.int .i64 bad) ∧
    w.frozen? ⟨b, 1, none⟩ = false ∧ w.frozen? ⟨b, 2, none⟩ = false ∧ w.frozen? ⟨b, 3, none⟩ = false := by
  simp [World.cell?, World.frozen?, h]
theorem RdSt.lt {s : ByteArray} {b i : Nat} {L : List Nd} {bad : Int} {w : World} (h : RdSt s b i L bad w) : b < w.heap.size := by
  obtain ⟨v, hb, _⟩ := h
  exact (Array.getElem?_eq_some_iff.1 hb).1
theorem RdSt.drewN {s : ByteArray} {b i : Nat} {L : List Nd} {bad : Int} {w : World} (h : RdSt s b i L bad w) (n : Nat) : RdSt s b i L bad (w.drewN n) := h
theorem own_setCell {w : World} {b : Nat} {e : TypeId} {n : Nat} {size : Nat} {v : Value} {xs : List Value} (o : w.ownsRow (b + 1) e size v n xs) (j : Nat) (u : Value) : (w.setCell ⟨b, j, none⟩ u).ownsRow (b + 1) e size v n xs :=
  ownsRow_setCell_below o (by simp) _
theorem RdSt.setI {s : ByteArray} {b i : Nat} {L : List Nd} {bad : Int} {w : World} (h : RdSt s b i L bad w) (i' : Nat) : RdSt s b i' L bad (w.setCell ⟨b, 1, none⟩ (.int .i64 i')) := by
  obtain ⟨v, hb, o⟩ := h
  exact ⟨v, by simp [World.setCell, Array.getElem?_modify, hb], own_setCell o _ _⟩
theorem RdSt.setBad {s : ByteArray} {b i : Nat} {L : List Nd} {bad : Int} {w : World} (h : RdSt s b i L bad w) (bad' : Int) : RdSt s b i L bad' (w.setCell ⟨b, 3, none⟩ (.int .i64 bad')) := by
  obtain ⟨v, hb, o⟩ := h
  exact ⟨v, by simp [World.setCell, Array.getElem?_modify, hb], own_setCell o _ _⟩

theorem below_drewN {B : Nat} {a w : World} (h : Below B a w) : ∀ n, Below B a (w.drewN n) := by
  intro n
  induction n with
  | zero => exact h
  | succ n ih => exact ih.drew

/-! ### What only one block has turned -/
theorem gb_refl (w : World) (r : Option Nat) : w.grownBy w r := ⟨rfl, rfl, rfl, Nat.le_refl _, fun _ _ _ => rfl⟩
theorem gb_trans {a b c : World} {r : Option Nat} (h : a.grownBy b r) (k : b.grownBy c r) : a.grownBy c r :=
  ⟨k.os.trans h.os, k.tape.trans h.tape, k.output.trans h.output, Nat.le_trans h.size k.size, fun i hi hn => (k.block i (Nat.lt_of_lt_of_le hi h.size) hn).trans (h.block i hi hn)⟩
theorem gb_alloc {a w : World} {r : Option Nat} (h : a.grownBy w r) (o : Obj) : a.grownBy (w.alloc o) r := gb_trans h (World.grownBy_alloc w o r)
theorem gb_set {a w : World} {b : Nat} (h : a.grownBy w (some b)) (i : Nat) (v : Value) : a.grownBy (w.setCell ⟨b, i, none⟩ v) (some b) :=
  ⟨h.os, h.tape, h.output, by simpa using h.size, fun j hj hn => by rw [Below.heap_setCell _ _ _ _ (fun e => hn (by rw [e]))]; exact h.block j hj hn⟩
/-- A cell of a block that is new. -/
theorem gb_new {a w : World} {r : Option Nat} (h : a.grownBy w r) {b : Nat} (hb : a.heap.size ≤ b) (i : Nat) (v : Value) : a.grownBy (w.setCell ⟨b, i, none⟩ v) r :=
  ⟨h.os, h.tape, h.output, by simpa using h.size, fun j hj hn => by rw [Below.heap_setCell _ _ _ _ (by simp; omega)]; exact h.block j hj hn⟩
theorem gb_below {a w w' : World} {r : Option Nat} (h : a.grownBy w r) (hb : Below w.heap.size w w') : a.grownBy w' r :=
  ⟨hb.os.trans h.os, hb.tape.trans h.tape, hb.output.trans h.output, Nat.le_trans h.size hb.size, fun j hj hn => (hb.block j (Nat.lt_of_lt_of_le hj h.size)).trans (h.block j hj hn)⟩
theorem gb_drewN {a w : World} {r : Option Nat} (h : a.grownBy w r) (n : Nat) : a.grownBy (w.drewN n) r := by
  induction n with
  | zero => exact h
  | succ n ih => exact ⟨ih.os, ih.tape, ih.output, ih.size, ih.block⟩
theorem gb_to_below {a w : World} {b : Nat} (h : a.grownBy w (some b)) {B : Nat} (hB : B ≤ b) (hs : B ≤ a.heap.size) : Below B a w :=
  ⟨h.os, h.tape, h.output, h.size, fun j hj => h.block j (by omega) (fun e => by injection e with e; omega)⟩
theorem gb_of_new {a w0 w : World} {b : Nat} {r : Option Nat} (h0 : a.grownBy w0 r) (h : w0.grownBy w (some b)) (hb : a.heap.size ≤ b) : a.grownBy w r :=
  ⟨h.os.trans h0.os, h.tape.trans h0.tape, h.output.trans h0.output, Nat.le_trans h0.size h.size, fun j hj hn => (h.block j (Nat.lt_of_lt_of_le hj h0.size) (fun e => by injection e with e; omega)).trans (h0.block j hj hn)⟩
set_option maxHeartbeats 400000 in
theorem skip_exact (s : ByteArray) (b i : Nat) (w : World) (hs : s.size ≤ 120) (hi : i ≤ s.size) (c0 : w.cell? ⟨b, 0, none⟩ = some (.string s)) (c1 : w.cell? ⟨b, 1, none⟩ = some (.int .i64 i)) (f1 : w.frozen? ⟨b, 1, none⟩ = false) :
    Calls Tryz.prog 128 #[.pointer (some ⟨b, 0, none⟩)] w fun e w' => e = .returned (.tuple #[]) ∧ ∃ n, w' = (w.drewN n).setCell ⟨b, 1, none⟩ (.int .i64 ((i + (atP s i).2 : Nat) : Int)) := by
  have hl := (atP_le s i).1
  go_enter Tryz.func128, Tryz.ntmps128
  go_wp2_with fail
  go_quiet ((go_at_call 112; exact Calls.quiet_of (at_any _ _ _ (by omega) (by omega))))
  go_wp2_with fail
  go_end0
  exact ⟨rfl, nq, by simp⟩

theorem skip_any (s : ByteArray) (b i : Nat) (L : List Nd) (bad : Int) (w : World) (hs : s.size ≤ 120) (hi : i ≤ s.size) (h : RdSt s b i L bad w) :
    Calls Tryz.prog 128 #[.pointer (some ⟨b, 0, none⟩)] w fun e w' => e = .returned (.tuple #[]) ∧ RdSt s b (i + (atP s i).2) L bad w' ∧ Below b w w' := by
  have HH := h
  obtain ⟨v, hb, _⟩ := h
  obtain ⟨c0, c1, c2, c3, f1, f2, f3⟩ := rd_cells hb
  refine (skip_exact s b i w hs hi c0 c1 f1).mono ?_
  rintro e w' ⟨rfl, n, rfl⟩
  exact ⟨rfl, (HH.drewN n).setI (i + (atP s i).2), (below_drewN (Below.refl b w) n).setCell (p := ⟨b, 1, none⟩) (Nat.le_refl b) _⟩

set_option maxHeartbeats 400000 in
theorem fail_any (s : ByteArray) (b i : Nat) (L : List Nd) (bad : Int) (w : World) (hs : s.size ≤ 120) (hi : i ≤ s.size) (h : RdSt s b i L bad w) :
    Calls Tryz.prog 87 #[.pointer (some ⟨b, 0, none⟩)] w fun e w' => e = .returned (.tuple #[]) ∧ RdSt s b i L (if bad < 0 then i else bad) w' ∧ Below b w w' := by
  have HH : Hid (RdSt s b i L bad w) := h
  obtain ⟨v, hb, _⟩ := h
  obtain ⟨c0, c1, c2, c3, f1, f2, f3⟩ := rd_cells hb
  clear hb
  by_cases hneg : bad < 0
  · rw [if_pos hneg]
    go_enter Tryz.func87, Tryz.ntmps87
    go_wp2_with fail
    go_end0
    refine ⟨rfl, ?_, ?_⟩
    · exact HH.out.setBad i
    · exact (Below.refl b w).setCell (p := ⟨b, 3, none⟩) (Nat.le_refl b) _
  · rw [if_neg hneg]
    go_enter Tryz.func87, Tryz.ntmps87
    go_wp2_with fail
    go_end0
    exact ⟨rfl, HH.out, Below.refl _ _⟩

def rdI (b : Nat) (w : World) : Nat := match w.cell? ⟨b, 1, none⟩ with | some (.int _ q) => q.toNat | _ => 0

theorem RdSt.place {s : ByteArray} {b i : Nat} {L : List Nd} {bad : Int} {w : World} (h : RdSt s b i L bad w) : rdI b w = i := by
  obtain ⟨v, hb, _⟩ := h
  simp [rdI, (rd_cells hb).2.1]
set_option maxHeartbeats 1000000 in
theorem sign_any (s : ByteArray) (b i : Nat) (L : List Nd) (bad : Int) (w : World) (hs : s.size ≤ 120) (hi : i ≤ s.size) (h : RdSt s b i L bad w) :
    Calls Tryz.prog 86 #[.pointer (some ⟨b, 0, none⟩)] w fun e w' => e = .returned (.int .i64 (atP s (skipB s i)).1) ∧ RdSt s b (skipB s i) L bad w' ∧ Below b w w' := by
  go_enter Tryz.func86, Tryz.ntmps86
  go_wp2_with fail
  go_loopw [] (fun wr => ∃ j : Nat, RdSt s b j L bad wr ∧ j ≤ s.size ∧ skipB s j = skipB s i ∧ Below b w wr) (fun wr => s.size - rdI b wr)
  case atStart => exact ⟨i, h, hi, rfl, Below.refl _ _⟩
  case round =>
    clear h
    obtain ⟨j, h, hj, hsk, hbel⟩ := hrel
    have HH : Hid (RdSt s b j L bad wr) := h
    obtain ⟨v, hb, _⟩ := h
    obtain ⟨c0, c1, c2, c3, f1, f2, f3⟩ := rd_cells hb
    clear hb
    have HS : Hid (skipB s j = skipB s i) := hsk
    clear hsk
    by_cases hlt : j < s.size
    · have g0 := bt_get s j
      by_cases h32 : bt s j = 32
      · have g0' : ∀ h : j < s.size, (s[j]'h).toNat = 32 := fun h => (g0 h).trans h32
        clear g0
        go_wp2_with fail
        go_quiet (fail)
        go_wp2_with fail
        have R := (HH.out.drewN nq).setI (j + 1)
        refine ⟨⟨j + 1, R, by omega, ?_, (below_drewN hbel nq).setCell (p := ⟨b, 1, none⟩) (Nat.le_refl b) _⟩, ?_⟩
        · rw [← skipB_on s j hlt h32]; exact HS.out
        · have e1 := R.place
          have e2 := HH.out.place
          simp only [Int.natCast_add, Int.cast_ofNat_Int] at e1
          rw [e1, e2]; omega
      · have ne : (((bt s j : Nat) : Int) == 32) = false := by simp; omega
        have hsk := HS.out
        rw [skipB_off s j (by omega)] at hsk
        have HE : Hid (skipB s i = j) := hsk.symm
        clear HS hsk
        go_wp2_with fail
        go_quiet (fail)
        go_wp2_with fail
        have HH2 : Hid (RdSt s b j L bad (wr.drewN nq)) := HH.out.drewN nq
        have hbel2 := below_drewN hbel nq
        generalize wr.drewN nq = W at *
        clear c0 c1 c2 c3 f1 f2 f3 HH hbel
        obtain ⟨v2, hb2, _⟩ := HH2.out
        obtain ⟨c0, c1, c2, c3, f1, f2, f3⟩ := rd_cells hb2
        clear hb2
        go_quiet ((go_at_call 112; exact Calls.quiet_of (at_any _ _ _ (by omega) (by omega))))
        go_wp2_with fail
        go_ret
        rw [HE.out]
        exact ⟨rfl, HH2.out, below_drewN hbel2 _⟩
    · have hsk := HS.out
      rw [skipB_off s j (by omega)] at hsk
      have HE : Hid (skipB s i = j) := hsk.symm
      clear HS hsk
      go_wp2_with fail
      go_quiet (fail)
      go_wp2_with fail
      have HH2 : Hid (RdSt s b j L bad (wr.drewN nq)) := HH.out.drewN nq
      have hbel2 := below_drewN hbel nq
      generalize wr.drewN nq = W at *
      clear c0 c1 c2 c3 f1 f2 f3 HH hbel
      obtain ⟨v2, hb2, _⟩ := HH2.out
      obtain ⟨c0, c1, c2, c3, f1, f2, f3⟩ := rd_cells hb2
      clear hb2
      go_quiet ((go_at_call 112; exact Calls.quiet_of (at_any _ _ _ (by omega) (by omega))))
      go_wp2_with fail
      go_ret
      rw [HE.out]
      exact ⟨rfl, HH2.out, below_drewN hbel2 _⟩
end Go.Proofs.YtodabmkcihafhaaGreatDoor

/- The program's fractions: commonDivisor, lowest, plus, less, times. -/
namespace Go.Proofs.YtodabmkcihafhaaGreatDoor
open Go.RowKit
set_option linter.unusedVariables false

theorem gcd_step' (a b : Nat) : Nat.gcd b (a % b) = Nat.gcd a b := by
  rw [Nat.gcd_comm a b, Nat.gcd_rec b a, Nat.gcd_comm (a % b) b]
theorem drewN_add (w : World) (a b : Nat) : (w.drewN a).drewN b = w.drewN (a + b) := by
  induction b with
  | zero => rfl
  | succ b ih => show ((w.drewN a).drewN b).drew = (w.drewN (a + b)).drew; rw [ih]

theorem fr_below (w : World) (o : Obj) : Below w.heap.size w (w.alloc o) := (Below.refl _ _).alloc (Nat.le_refl _) o
set_option maxHeartbeats 1000000 in
theorem cd_any (n d : Int) (w : World) (h1 : -4000000000000 ≤ n) (h2 : n ≤ 4000000000000) (h3 : 0 < d) (h4 : d ≤ 4000000000000) :
    Calls Tryz.prog 155 #[.int .i64 n, .int .i64 d] w fun e w' => e = .returned (.int .i64 (gcdP n d)) ∧ ∃ k, w' = w.drewN k := by
  have HG : Hid (gcdP n d = ((Nat.gcd n.natAbs d.natAbs : Nat) : Int)) := rfl
  go_enter Tryz.func155, Tryz.ntmps155
  go_wp2_with fail
  all_goals
    go_loopg [5, 6] d.natAbs (fun g s5 s6 wr => ∃ a b : Nat, s5 = .int .i64 a ∧ s6 = .int .i64 b ∧ Hid (Nat.gcd a b = Nat.gcd n.natAbs d.natAbs) ∧ a ≤ 4000000000000 ∧ b ≤ 4000000000000 ∧ Hid (b = g) ∧ ∃ k, wr = w.drewN k)
    case atStart =>
      refine ⟨n.natAbs, d.natAbs, ?_, ?_, rfl, by omega, by omega, rfl, 0, rfl⟩
      · congr 1; omega
      · congr 1; omega
    case round =>
      obtain ⟨a, b, rfl, rfl, HI, ha, hb, hg, k, rfl⟩ := hrel
      by_cases hb0 : b = 0
      · subst hb0
        go_wp2_with fail
        go_ret
        refine ⟨?_, k, rfl⟩
        rw [HG.out, ← HI.out, Nat.gcd_zero_right]
        rfl
      · have q1 : ((b : Int) != 0) = true := by simp; omega
        have q2 : ¬ (b : Int) = 0 := by omega
        go_wp2_with fail
        go_quiet (fail)
        go_wp2_with fail
        go_roundg (a % b)
        case measure => have := Nat.mod_lt a (show 0 < b by omega); have := hg.out; omega
        case rel =>
          refine ⟨b, a % b, rfl, ?_, ?_, hb, ?_, rfl, k + nq, ?_⟩
          · rfl
          · show Nat.gcd b (a % b) = _
            rw [gcd_step']; exact HI.out
          · have := Nat.mod_le a b; omega
          · rw [drewN_add]

/-! ### The reckoner -/
def frV (f : Fr) : Value := .agg #[.int .i64 f.n, .int .i64 f.d]
/-- The reckoner, in block b: whether one was too big. -/
def RkSt (b : Nat) (fl : Bool) (w : World) : Prop := w.heap[b]? = some (.cells #[.bool fl] 254 (0, 0))
theorem RkSt.cells {b : Nat} {fl : Bool} {w : World} (h : RkSt b fl w) : w.cell? ⟨b, 0, none⟩ = some (.bool fl) ∧ w.frozen? ⟨b, 0, none⟩ = false := by
  unfold RkSt at h
  simp [World.cell?, World.frozen?, h]
theorem RkSt.set {b : Nat} {fl : Bool} {w : World} (h : RkSt b fl w) (x : Bool) : RkSt b x (w.setCell ⟨b, 0, none⟩ (.bool x)) := by
  unfold RkSt at *
  simp [World.setCell, Array.getElem?_modify, h]
theorem RkSt.drewN {b : Nat} {fl : Bool} {w : World} (h : RkSt b fl w) (k : Nat) : RkSt b fl (w.drewN k) := h
theorem RkSt.lt {b : Nat} {fl : Bool} {w : World} (h : RkSt b fl w) : b < w.heap.size := (Array.getElem?_eq_some_iff.1 h).1

set_option maxHeartbeats 400000 in
theorem tooBig_any (f : Fr) (w : World) : Calls Tryz.prog 156 #[.agg #[.int .i64 f.n, .int .i64 f.d]] w fun e w' => e = .returned (.bool f.big) ∧ Below w.heap.size w w' := by
  have HB : Hid (f.big = decide (f.n > 999999 ∨ f.n < -999999 ∨ f.d > 999999)) := rfl
  generalize f.big = bb at *
  obtain ⟨n, d⟩ := f
  simp only at HB ⊢
  by_cases h1 : n > 999999
  · go_enter Tryz.func156, Tryz.ntmps156
    go_wp2_with fail
    go_ret
    exact ⟨by rw [HB.out]; simp [h1], fr_below w _⟩
  · by_cases h2 : n < -999999
    · go_enter Tryz.func156, Tryz.ntmps156
      go_wp2_with fail
      go_ret
      exact ⟨by rw [HB.out]; simp [h2], fr_below w _⟩
    · go_enter Tryz.func156, Tryz.ntmps156
      go_wp2_with fail
      go_ret
      refine ⟨?_, fr_below w _⟩
      rw [HB.out]
      have e1 : decide (n > 999999) = false := by simp; omega
      have e2 : decide (n < -999999) = false := by simp; omega
      simp only [Bool.decide_or, e1, e2, Bool.false_or]
      rfl

theorem low_abs {n d : Int} (h : 0 < d) : (lowP n d).n.natAbs ≤ n.natAbs ∧ (lowP n d).d.natAbs ≤ d.natAbs := by
  have h1 := congrArg Int.natAbs (low_mul_n n d)
  have h2 := congrArg Int.natAbs (low_mul_d n d)
  rw [Int.natAbs_mul] at h1 h2
  have hg := gcdP_pos (n := n) h
  have hg' : 1 ≤ (gcdP n d).natAbs := by omega
  exact ⟨by rw [← h1]; exact Nat.le_mul_of_pos_right _ hg', by rw [← h2]; exact Nat.le_mul_of_pos_right _ hg'⟩
theorem gcd_le (n d : Int) (h : 0 < d) : gcdP n d ≤ d := Int.le_of_dvd h (gcdP_dvd_d n d)
set_option maxHeartbeats 1000000 in
theorem lowest_any (b : Nat) (fl : Bool) (n d : Int) (w : World) (h1 : -4000000000000 ≤ n) (h2 : n ≤ 4000000000000) (h3 : 0 < d) (h4 : d ≤ 4000000000000) (h : RkSt b fl w) :
    Calls Tryz.prog 147 #[.pointer (some ⟨b, 0, none⟩), .int .i64 n, .int .i64 d] w fun e w' => e = .returned (.agg #[.int .i64 (mkF n d).n, .int .i64 (mkF n d).d]) ∧ RkSt b (fl || mkB n d) w' ∧ w.grownBy w' (some b) := by
  have hg0 := gcdP_pos (n := n) h3
  have hgl := gcd_le n d h3
  have q1 : n.tdiv (gcdP n d) = (lowP n d).n := by
    show _ = n / gcdP n d
    exact Int.tdiv_eq_ediv_of_dvd (gcdP_dvd_n n d)
  have q2 : d.tdiv (gcdP n d) = (lowP n d).d := by
    show _ = d / gcdP n d
    exact Int.tdiv_eq_ediv_of_dvd (gcdP_dvd_d n d)
  have hla := low_abs (n := n) h3
  have hw3 : wrap64 (lowP n d).n = (lowP n d).n := by unfold wrap64; omega
  have hw4 : wrap64 (lowP n d).d = (lowP n d).d := by unfold wrap64; omega
  clear hla
  have HB : Hid (mkB n d = (lowP n d).big) := rfl
  have HF : Hid (mkF n d = if mkB n d then ⟨0, 1⟩ else lowP n d) := rfl
  have hc := fun W => cd_any n d W h1 h2 h3 h4
  generalize mkF n d = F at *
  generalize mkB n d = B at *
  generalize hgg : gcdP n d = g at *
  generalize hll : lowP n d = l at *
  have HQ : Hid (n.tdiv g = l.n ∧ d.tdiv g = l.d) := ⟨q1, q2⟩
  clear hgg hll
  go_enter Tryz.func147, Tryz.ntmps147
  go_wp2_with fail
  refine (hc _).mono ?_
  rintro e w1 ⟨rfl, k, hw1⟩
  have hr1 : RkSt b fl w1 := by
    rw [hw1]
    show (w.alloc _).heap[b]? = _
    rw [Below.heap_alloc _ _ _ h.lt]
    exact h
  have hb1 : Below w.heap.size w w1 := by rw [hw1]; exact below_drewN (fr_below w _) k
  have hz1 : w1.heap[w.heap.size]? = some (.cells #[.int .i64 0, .int .i64 0] 80 (0, 0)) := by
    rw [hw1]
    exact heap_alloc_new w _
  have hlt := h.lt
  clear hw1 h hc
  have q3 : ¬ g = 0 := by omega
  have q4 : (g == 0) = false := by simpa using q3
  go_wp2_with fail
  go_region
  have hb2 : Below w.heap.size w ((w1.alloc (.cells #[.int .i64 l.n, .int .i64 l.d] 80)).drew) := (hb1.alloc hb1.size _).drew
  have hr2 : RkSt b fl ((w1.alloc (.cells #[.int .i64 l.n, .int .i64 l.d] 80)).drew) := by
    show (w1.alloc _).heap[b]? = _
    rw [Below.heap_alloc _ _ _ hr1.lt]
    exact hr1
  have hy2 : ((w1.alloc (.cells #[.int .i64 l.n, .int .i64 l.d] 80)).drew).heap[w1.heap.size]? = some (.cells #[.int .i64 l.n, .int .i64 l.d] 80 (0, 0)) := by
    exact heap_alloc_new w1 _
  have hz2 : ((w1.alloc (.cells #[.int .i64 l.n, .int .i64 l.d] 80)).drew).heap[w.heap.size]? = some (.cells #[.int .i64 0, .int .i64 0] 80 (0, 0)) := by
    show (w1.alloc _).heap[_]? = _
    rw [Below.heap_alloc _ _ _ (Array.getElem?_eq_some_iff.1 hz1).1]
    exact hz1
  have hwb : w.heap.size < w1.heap.size := (Array.getElem?_eq_some_iff.1 hz1).1
  generalize (w1.alloc (.cells #[.int .i64 l.n, .int .i64 l.d] 80)).drew = w2 at *
  generalize w1.heap.size = B1 at *
  clear hr1 hb1 hz1
  have y0 : w2.cell? ⟨B1, 0, none⟩ = some (.int .i64 l.n) := by simp [World.cell?, hy2]
  have y1 : w2.cell? ⟨B1, 1, none⟩ = some (.int .i64 l.d) := by simp [World.cell?, hy2]
  have hB1 : B1 < w2.heap.size := (Array.getElem?_eq_some_iff.1 hy2).1
  go_wp2_with fail
  refine (tooBig_any l _).mono ?_
  rintro e w3 ⟨rfl, hb3⟩
  have hy3 : w3.heap[B1]? = some (.cells #[.int .i64 l.n, .int .i64 l.d] 80 (0, 0)) := by rw [hb3.block _ hB1]; exact hy2
  have hz3 : w3.heap[w.heap.size]? = some (.cells #[.int .i64 0, .int .i64 0] 80 (0, 0)) := by rw [hb3.block _ (by omega)]; exact hz2
  have hr3 : RkSt b fl w3 := by unfold RkSt; rw [hb3.block _ (by omega)]; exact hr2
  have hb03 : Below w.heap.size w w3 := hb2.trans (hb3.mono hb2.size)
  clear hb3 hr2 hy2 hz2 hb2 y0 y1
  have y0 : w3.cell? ⟨B1, 0, none⟩ = some (.int .i64 l.n) := by simp [World.cell?, hy3]
  have y1 : w3.cell? ⟨B1, 1, none⟩ = some (.int .i64 l.d) := by simp [World.cell?, hy3]
  have z0 : w3.cell? ⟨w.heap.size, 0, none⟩ = some (.int .i64 0) := by simp [World.cell?, hz3]
  have z1 : w3.cell? ⟨w.heap.size, 1, none⟩ = some (.int .i64 0) := by simp [World.cell?, hz3]
  have fz0 : w3.frozen? ⟨w.heap.size, 0, none⟩ = false := by simp [World.frozen?, hz3]
  have fz1 : w3.frozen? ⟨w.heap.size, 1, none⟩ = false := by simp [World.frozen?, hz3]
  obtain ⟨r0, fr0⟩ := hr3.cells
  by_cases hbig : l.big = true
  · have HF2 : Hid (F = ⟨0, 1⟩ ∧ (fl || B) = true) := by
      have hB : B = true := HB.out.trans hbig
      refine ⟨?_, by rw [hB]; simp⟩
      rw [HF.out, hB]
      rfl
    go_wp2_with fail
    refine bodyPost_ret (v := .agg #[.int .i64 0, .int .i64 1]) (by simp [results, Tryz.results147, go_sem, z0, z1]) rfl ?_
    rw [HF2.out.1, HF2.out.2]
    refine ⟨rfl, ?_, ?_⟩
    · unfold RkSt
      rw [Below.heap_setCell _ _ _ _ (by simp; omega), Below.heap_setCell _ _ _ _ (by simp; omega)]
      exact hr3.set true
    · exact gb_new (gb_new (gb_set (gb_below (gb_refl w _) hb03) 0 _) (Nat.le_refl _) 0 _) (Nat.le_refl _) 1 _
  · have hbig' : l.big = false := by simpa using hbig
    have HF2 : Hid (F = l ∧ (fl || B) = fl) := by
      have hB : B = false := HB.out.trans hbig'
      refine ⟨?_, by rw [hB]; simp⟩
      rw [HF.out, hB]
      rfl
    go_wp2_with fail
    refine bodyPost_ret (v := .agg #[.int .i64 l.n, .int .i64 l.d]) (by simp [results, Tryz.results147, go_sem, z0, z1]) rfl ?_
    rw [HF2.out.1, HF2.out.2]
    refine ⟨rfl, ?_, ?_⟩
    · unfold RkSt
      rw [Below.heap_setCell _ _ _ _ (by simp; omega), Below.heap_setCell _ _ _ _ (by simp; omega)]
      exact hr3
    · exact gb_new (gb_new (gb_below (gb_refl w _) hb03) (Nat.le_refl _) 0 _) (Nat.le_refl _) 1 _

set_option maxHeartbeats 1000000 in
theorem negated_any (f : Fr) (w : World) (hf : f.Ok) : Calls Tryz.prog 148 #[.agg #[.int .i64 f.n, .int .i64 f.d]] w fun e w' => e = .returned (.agg #[.int .i64 f.neg.n, .int .i64 f.neg.d]) ∧ Below w.heap.size w w' := by
  have hw : wrap64 (-f.n) = -f.n := by unfold wrap64; have := hf.2.2; omega
  clear hf
  obtain ⟨n, d⟩ := f
  unfold Fr.neg
  simp only at *
  go_enter Tryz.func148, Tryz.ntmps148
  go_wp2_with fail
  refine bodyPost_ret (v := .agg #[.int .i64 (-n), .int .i64 d]) (by simp [results, Tryz.results148, go_sem, hw]) rfl ?_
  exact ⟨rfl, ((Below.refl _ w).alloc (Nat.le_refl _) _).alloc (by simp) _⟩
/-- A block of two cells that holds zeros. -/
theorem two_cells {w : World} {B : Nat} {x y : Value} {t : TypeId} (h : w.heap[B]? = some (.cells #[x, y] t (0, 0))) : w.cell? ⟨B, 0, none⟩ = some x ∧ w.cell? ⟨B, 1, none⟩ = some y ∧ w.frozen? ⟨B, 0, none⟩ = false ∧ w.frozen? ⟨B, 1, none⟩ = false := by
  simp [World.cell?, World.frozen?, h]
set_option maxHeartbeats 1000000 in
theorem plus_any (b : Nat) (fl : Bool) (x y : Fr) (w : World) (hx : x.Ok) (hy : y.Ok) (h : RkSt b fl w) :
    Calls Tryz.prog 177 #[.pointer (some ⟨b, 0, none⟩), .agg #[.int .i64 x.n, .int .i64 x.d], .agg #[.int .i64 y.n, .int .i64 y.d]] w fun e w' => e = .returned (.agg #[.int .i64 (plF x y).n, .int .i64 (plF x y).d]) ∧ RkSt b (fl || plB x y) w' ∧ w.grownBy w' (some b) := by
  have m1 := hx.mul_nd hy
  have m2 := hy.mul_nd hx
  have m3 := hx.mul_d hy
  have c := fun W h => lowest_any b fl (x.n * y.d + y.n * x.d) (x.d * y.d) W (by omega) (by omega) m3.1 (by omega) h
  show Calls _ _ _ _ fun e w' => e = .returned (.agg #[.int .i64 (mkF (x.n * y.d + y.n * x.d) (x.d * y.d)).n, .int .i64 (mkF (x.n * y.d + y.n * x.d) (x.d * y.d)).d]) ∧ RkSt b (fl || mkB (x.n * y.d + y.n * x.d) (x.d * y.d)) w' ∧ w.grownBy w' (some b)
  generalize mkF (x.n * y.d + y.n * x.d) (x.d * y.d) = F at *
  generalize mkB (x.n * y.d + y.n * x.d) (x.d * y.d) = B at *
  have hlt := h.lt
  have hh : Hid (RkSt b fl w) := h
  have C : Hid (∀ (W : World), RkSt b fl W → Calls Tryz.prog 147 #[.pointer (some ⟨b, 0, none⟩), .int .i64 (x.n * y.d + y.n * x.d), .int .i64 (x.d * y.d)] W fun e w' => e = .returned (.agg #[.int .i64 F.n, .int .i64 F.d]) ∧ RkSt b (fl || B) w' ∧ W.grownBy w' (some b)) := c
  clear h hx hy c
  go_enter Tryz.func177, Tryz.ntmps177
  go_wp2_with fail
  refine (C.out _ ?_).mono ?_
  · unfold RkSt
    rw [Below.heap_alloc _ _ _ (by simp; omega), Below.heap_alloc _ _ _ (by simp; omega), Below.heap_alloc _ _ _ (by omega)]
    exact hh.out
  rintro e w1 ⟨rfl, hr1, hg1⟩
  have hz1 : w1.heap[w.heap.size + 1 + 1]? = some (.cells #[.int .i64 0, .int .i64 0] 80 (0, 0)) := by
    rw [hg1.block _ (by simp) (by simp; omega)]
    have := heap_alloc_new ((w.alloc (.cells #[.int .i64 x.n, .int .i64 x.d] 80)).alloc (.cells #[.int .i64 y.n, .int .i64 y.d] 80)) (.cells #[.int .i64 0, .int .i64 0] 80)
    rw [show ((w.alloc (.cells #[.int .i64 x.n, .int .i64 x.d] 80)).alloc (.cells #[.int .i64 y.n, .int .i64 y.d] 80)).heap.size = w.heap.size + 1 + 1 by simp] at this
    exact this
  have hg0 : w.grownBy w1 (some b) := gb_trans (gb_alloc (gb_alloc (gb_alloc (gb_refl w _) _) _) _) hg1
  obtain ⟨z0, z1, fz0, fz1⟩ := two_cells hz1
  clear hz1 hg1 C hh
  go_wp2_with fail
  refine bodyPost_ret (v := .agg #[.int .i64 F.n, .int .i64 F.d]) (by simp [results, Tryz.results177, go_sem, z0, z1]) rfl ?_
  refine ⟨rfl, ?_, gb_new (gb_new hg0 (by omega) 0 _) (by omega) 1 _⟩
  unfold RkSt
  rw [Below.heap_setCell _ _ _ _ (by simp; omega), Below.heap_setCell _ _ _ _ (by simp; omega)]
  exact hr1
set_option maxHeartbeats 1000000 in
theorem times_any (b : Nat) (fl : Bool) (x y : Fr) (w : World) (hx : x.Ok) (hy : y.Ok) (h : RkSt b fl w) :
    Calls Tryz.prog 179 #[.pointer (some ⟨b, 0, none⟩), .agg #[.int .i64 x.n, .int .i64 x.d], .agg #[.int .i64 y.n, .int .i64 y.d]] w fun e w' => e = .returned (.agg #[.int .i64 (tmF x y).n, .int .i64 (tmF x y).d]) ∧ RkSt b (fl || tmB x y) w' ∧ w.grownBy w' (some b) := by
  have m1 := hx.mul_n hy
  have m3 := hx.mul_d hy
  have c := fun W h => lowest_any b fl (x.n * y.n) (x.d * y.d) W (by omega) (by omega) m3.1 (by omega) h
  show Calls _ _ _ _ fun e w' => e = .returned (.agg #[.int .i64 (mkF (x.n * y.n) (x.d * y.d)).n, .int .i64 (mkF (x.n * y.n) (x.d * y.d)).d]) ∧ RkSt b (fl || mkB (x.n * y.n) (x.d * y.d)) w' ∧ w.grownBy w' (some b)
  generalize mkF (x.n * y.n) (x.d * y.d) = F at *
  generalize mkB (x.n * y.n) (x.d * y.d) = B at *
  have hlt := h.lt
  have hh : Hid (RkSt b fl w) := h
  have C : Hid (∀ (W : World), RkSt b fl W → Calls Tryz.prog 147 #[.pointer (some ⟨b, 0, none⟩), .int .i64 (x.n * y.n), .int .i64 (x.d * y.d)] W fun e w' => e = .returned (.agg #[.int .i64 F.n, .int .i64 F.d]) ∧ RkSt b (fl || B) w' ∧ W.grownBy w' (some b)) := c
  clear h hx hy c
  go_enter Tryz.func179, Tryz.ntmps179
  go_wp2_with fail
  refine (C.out _ ?_).mono ?_
  · unfold RkSt
    rw [Below.heap_alloc _ _ _ (by simp; omega), Below.heap_alloc _ _ _ (by simp; omega), Below.heap_alloc _ _ _ (by omega)]
    exact hh.out
  rintro e w1 ⟨rfl, hr1, hg1⟩
  have hz1 : w1.heap[w.heap.size + 1 + 1]? = some (.cells #[.int .i64 0, .int .i64 0] 80 (0, 0)) := by
    rw [hg1.block _ (by simp) (by simp; omega)]
    have := heap_alloc_new ((w.alloc (.cells #[.int .i64 x.n, .int .i64 x.d] 80)).alloc (.cells #[.int .i64 y.n, .int .i64 y.d] 80)) (.cells #[.int .i64 0, .int .i64 0] 80)
    rw [show ((w.alloc (.cells #[.int .i64 x.n, .int .i64 x.d] 80)).alloc (.cells #[.int .i64 y.n, .int .i64 y.d] 80)).heap.size = w.heap.size + 1 + 1 by simp] at this
    exact this
  have hg0 : w.grownBy w1 (some b) := gb_trans (gb_alloc (gb_alloc (gb_alloc (gb_refl w _) _) _) _) hg1
  obtain ⟨z0, z1, fz0, fz1⟩ := two_cells hz1
  clear hz1 hg1 C hh
  go_wp2_with fail
  refine bodyPost_ret (v := .agg #[.int .i64 F.n, .int .i64 F.d]) (by simp [results, Tryz.results179, go_sem, z0, z1]) rfl ?_
  refine ⟨rfl, ?_, gb_new (gb_new hg0 (by omega) 0 _) (by omega) 1 _⟩
  unfold RkSt
  rw [Below.heap_setCell _ _ _ _ (by simp; omega), Below.heap_setCell _ _ _ _ (by simp; omega)]
  exact hr1

end Go.Proofs.YtodabmkcihafhaaGreatDoor

/- The program's fractions: less; numbers. -/
namespace Go.Proofs.YtodabmkcihafhaaGreatDoor
open Go.RowKit
set_option linter.unusedVariables false

theorem plus_c {b : Nat} {fl : Bool} {w w0 : World} (h : RkSt b fl w) (g : w.grownBy w0 none) : RkSt b fl w0 := by
  unfold RkSt
  rw [g.block b h.lt (by simp)]
  exact h
set_option maxHeartbeats 1000000 in
theorem less_any (b : Nat) (fl : Bool) (x y : Fr) (w : World) (hx : x.Ok) (hy : y.Ok) (h : RkSt b fl w) :
    Calls Tryz.prog 178 #[.pointer (some ⟨b, 0, none⟩), .agg #[.int .i64 x.n, .int .i64 x.d], .agg #[.int .i64 y.n, .int .i64 y.d]] w fun e w' => e = .returned (.agg #[.int .i64 (plF x y.neg).n, .int .i64 (plF x y.neg).d]) ∧ RkSt b (fl || plB x y.neg) w' ∧ w.grownBy w' (some b) := by
  have c1 := fun W => negated_any y W hy
  have c2 := fun W h => plus_any b fl x y.neg W hx hy.neg h
  generalize plF x y.neg = F at *
  generalize plB x y.neg = B at *
  have hlt := h.lt
  have hh : Hid (RkSt b fl w) := h
  have C1 : Hid (∀ (W : World), Calls Tryz.prog 148 #[.agg #[.int .i64 y.n, .int .i64 y.d]] W fun e w' => e = .returned (.agg #[.int .i64 y.neg.n, .int .i64 y.neg.d]) ∧ Below W.heap.size W w') := c1
  have C2 : Hid (∀ (W : World), RkSt b fl W → Calls Tryz.prog 177 #[.pointer (some ⟨b, 0, none⟩), .agg #[.int .i64 x.n, .int .i64 x.d], .agg #[.int .i64 y.neg.n, .int .i64 y.neg.d]] W fun e w' => e = .returned (.agg #[.int .i64 F.n, .int .i64 F.d]) ∧ RkSt b (fl || B) w' ∧ W.grownBy w' (some b)) := c2
  clear h hx hy c1 c2
  go_enter Tryz.func178, Tryz.ntmps178
  go_wp2_with fail
  obtain ⟨W, hW⟩ : ∃ W, W = ((w.alloc (.cells #[.int .i64 x.n, .int .i64 x.d] 80)).alloc (.cells #[.int .i64 y.n, .int .i64 y.d] 80)).alloc (.cells #[.int .i64 0, .int .i64 0] 80) := ⟨_, rfl⟩
  have hsz : W.heap.size = w.heap.size + 3 := by rw [hW]; simp
  have hx0 : W.heap[w.heap.size]? = some (.cells #[.int .i64 x.n, .int .i64 x.d] 80 (0, 0)) := by
    rw [hW, Below.heap_alloc _ _ _ (by simp; omega), Below.heap_alloc _ _ _ (by simp)]
    exact heap_alloc_new w _
  have hy0 : W.heap[w.heap.size + 1]? = some (.cells #[.int .i64 y.n, .int .i64 y.d] 80 (0, 0)) := by
    rw [hW, Below.heap_alloc _ _ _ (by simp)]
    have := heap_alloc_new (w.alloc (.cells #[.int .i64 x.n, .int .i64 x.d] 80)) (.cells #[.int .i64 y.n, .int .i64 y.d] 80)
    simpa using this
  have hz0 : W.heap[w.heap.size + 1 + 1]? = some (.cells #[.int .i64 0, .int .i64 0] 80 (0, 0)) := by
    rw [hW]
    have := heap_alloc_new ((w.alloc (.cells #[.int .i64 x.n, .int .i64 x.d] 80)).alloc (.cells #[.int .i64 y.n, .int .i64 y.d] 80)) (.cells #[.int .i64 0, .int .i64 0] 80)
    rw [show ((w.alloc (.cells #[.int .i64 x.n, .int .i64 x.d] 80)).alloc (.cells #[.int .i64 y.n, .int .i64 y.d] 80)).heap.size = w.heap.size + 1 + 1 by simp] at this
    exact this
  have hr0 : RkSt b fl W := by
    unfold RkSt
    rw [hW, Below.heap_alloc _ _ _ (by simp; omega), Below.heap_alloc _ _ _ (by simp; omega), Below.heap_alloc _ _ _ (by omega)]
    exact hh.out
  have hg0 : w.grownBy W (some b) := by rw [hW]; exact gb_alloc (gb_alloc (gb_alloc (gb_refl w _) _) _) _
  rw [← hW]
  obtain ⟨x0, x1, fx0, fx1⟩ := two_cells hx0
  obtain ⟨y0, y1, fy0, fy1⟩ := two_cells hy0
  clear hW hh
  go_region_with (first
    | (go_at_call 148; refine (C1.out _).mono ?_; rintro e w1 ⟨rfl, hb1⟩
       have hx1 : w1.heap[w.heap.size]? = some (.cells #[.int .i64 x.n, .int .i64 x.d] 80 (0, 0)) := (hb1.block _ (by simp; omega)).trans hx0
       obtain ⟨xx0, xx1, _, _⟩ := two_cells hx1)
    | (go_at_call 177; refine (C2.out _ ?_).mono ?_
       (unfold RkSt; rw [hb1.block _ (by simp; omega)]; exact hr0)
       rintro e w2 ⟨rfl, hr2, hg2⟩
       have hz2 : w2.heap[w.heap.size + 1 + 1]? = some (.cells #[.int .i64 0, .int .i64 0] 80 (0, 0)) := (hg2.block _ (by have := hb1.size; simp at this; omega) (by simp; omega)).trans ((hb1.block _ (by simp; omega)).trans hz0)
       obtain ⟨z0, z1, fz0, fz1⟩ := two_cells hz2))
  all_goals
    go_wp2_with fail
    refine bodyPost_ret (v := .agg #[.int .i64 F.n, .int .i64 F.d]) (by simp [results, Tryz.results178, go_sem, z0, z1]) rfl ?_
    have hb1' : Below W.heap.size W w1 := ⟨hb1.os, hb1.tape, hb1.output, hb1.size, hb1.block⟩
    refine ⟨rfl, ?_, gb_new (gb_new (gb_trans (gb_below hg0 hb1') hg2) (by omega) 0 _) (by omega) 1 _⟩
    unfold RkSt
    rw [Below.heap_setCell _ _ _ _ (by simp; omega), Below.heap_setCell _ _ _ _ (by simp; omega)]
    exact hr2
end Go.Proofs.YtodabmkcihafhaaGreatDoor

/- The program's numbers: number, Add, Subtract, Multiply. -/
namespace Go.Proofs.YtodabmkcihafhaaGreatDoor
open Go.RowKit
set_option linter.unusedVariables false

/-! ### The sentinels -/
/-- The two sentinels, in blocks below N. -/
structure Sen (N : Nat) (aZ aB : Addr) (w : World) : Prop where
  z : w.cell? ⟨2, 0, none⟩ = some (.iface 285 (.pointer (some aZ)))
  b : w.cell? ⟨4, 0, none⟩ = some (.iface 285 (.pointer (some aB)))
  ne : aB ≠ aZ
  hz : ∃ c t, w.heap[aZ.block]? = some (.cells c t (0, 0))
  hb : ∃ c t, w.heap[aB.block]? = some (.cells c t (0, 0))
  lt : 5 ≤ N ∧ aZ.block < N ∧ aB.block < N
theorem Sen.kept {N : Nat} {aZ aB : Addr} {w w' : World} (h : Sen N aZ aB w) (k : ∀ j, j < N → w'.heap[j]? = w.heap[j]?) : Sen N aZ aB w' := by
  obtain ⟨l0, l1, l2⟩ := h.lt
  refine ⟨?_, ?_, h.ne, ?_, ?_, h.lt⟩
  · rw [World.cell?_of_block (w := w) (k _ (by simp; omega))]; exact h.z
  · rw [World.cell?_of_block (w := w) (k _ (by simp; omega))]; exact h.b
  · rw [k _ l1]; exact h.hz
  · rw [k _ l2]; exact h.hb
theorem Sen.grown {N b : Nat} {aZ aB : Addr} {w w' : World} (h : Sen N aZ aB w) (g : w.grownBy w' (some b)) (hb : N ≤ b) (hs : N ≤ w.heap.size) : Sen N aZ aB w' :=
  h.kept fun j hj => g.block j (by omega) (fun e => by injection e with e; omega)
theorem Sen.below {N : Nat} {aZ aB : Addr} {w w' : World} (h : Sen N aZ aB w) (g : Below w.heap.size w w') (hs : N ≤ w.heap.size) : Sen N aZ aB w' :=
  h.kept fun j hj => g.block j (by omega)
theorem Sen.alloc {N : Nat} {aZ aB : Addr} {w : World} (h : Sen N aZ aB w) (hs : N ≤ w.heap.size) (o : Obj) : Sen N aZ aB (w.alloc o) :=
  h.below (fr_below w o) hs

def errV (a : Addr) : Value := .iface 285 (.pointer (some a))
def nV (x : Num) : Value := .agg #[.int .i64 x.re.n, .int .i64 x.re.d, .int .i64 x.im.n, .int .i64 x.im.d]
theorem four_cells {w : World} {B : Nat} {x y z u : Value} {t : TypeId} (h : w.heap[B]? = some (.cells #[x, y, z, u] t (0, 0))) : w.cell? ⟨B, 0, none⟩ = some x ∧ w.cell? ⟨B, 1, none⟩ = some y ∧ w.cell? ⟨B, 2, none⟩ = some z ∧ w.cell? ⟨B, 3, none⟩ = some u := by
  simp [World.cell?, h]

/-! ### Cells behind new blocks -/
theorem cellA {w : World} {a : Addr} {v : Value} (h : w.cell? a = some v) (o : Obj) : (w.alloc o).cell? a = some v := by
  rw [World.cell?_alloc_lt _ _ _ (World.block_lt_of_cell? _ _ h)]; exact h
theorem frozA {w : World} {a : Addr} {v : Value} (h : w.cell? a = some v) (f : w.frozen? a = false) (o : Obj) : (w.alloc o).frozen? a = false := by
  rw [World.frozen?_of_block (w := w) (Below.heap_alloc w o a.block (World.block_lt_of_cell? _ _ h))]; exact f
theorem cellA2 {w : World} {a : Addr} {v : Value} (h : w.cell? a = some v) (o p : Obj) : ((w.alloc o).alloc p).cell? a = some v := cellA (cellA h o) p
theorem cellA3 {w : World} {a : Addr} {v : Value} (h : w.cell? a = some v) (o p q : Obj) : (((w.alloc o).alloc p).alloc q).cell? a = some v := cellA (cellA2 h o p) q
theorem cellA4 {w : World} {a : Addr} {v : Value} (h : w.cell? a = some v) (o p q r : Obj) : ((((w.alloc o).alloc p).alloc q).alloc r).cell? a = some v := cellA (cellA3 h o p q) r
theorem cellA5 {w : World} {a : Addr} {v : Value} (h : w.cell? a = some v) (o p q r s : Obj) : (((((w.alloc o).alloc p).alloc q).alloc r).alloc s).cell? a = some v := cellA (cellA4 h o p q r) s

set_option maxHeartbeats 1000000 in
theorem number_any (N b : Nat) (aZ aB : Addr) (fl : Bool) (x y : Fr) (w : World) (hS : Sen N aZ aB w) (hN : N ≤ w.heap.size) (h : RkSt b fl w) :
    Calls Tryz.prog 176 #[.pointer (some ⟨b, 0, none⟩), .agg #[.int .i64 x.n, .int .i64 x.d], .agg #[.int .i64 y.n, .int .i64 y.d]] w fun e w' => e = .returned (.tuple #[if fl then .agg #[.int .i64 0, .int .i64 0, .int .i64 0, .int .i64 0] else .agg #[.int .i64 x.n, .int .i64 x.d, .int .i64 y.n, .int .i64 y.d], if fl then .iface 285 (.pointer (some aB)) else .nilIface]) ∧ Below w.heap.size w w' := by
  have hlt := h.lt
  obtain ⟨r0, fr0⟩ := h.cells
  have r3 := cellA3 r0
  have g3 := cellA3 hS.b
  clear hS
  cases fl with
  | true =>
    go_enter Tryz.func176, Tryz.ntmps176
    go_wp2_with fail
    go_region
    go_wp2_with fail
    refine bodyPost_ret (v := .tuple #[.agg #[.int .i64 0, .int .i64 0, .int .i64 0, .int .i64 0], .iface 285 (.pointer (some aB))]) (by simp [results, Tryz.results176, go_sem]) rfl ?_
    exact ⟨rfl, ((((Below.refl _ w).alloc (Nat.le_refl _) _).alloc (by simp) _).alloc (by simp; omega) _).drew⟩
  | false =>
    go_enter Tryz.func176, Tryz.ntmps176
    go_wp2_with fail
    refine bodyPost_ret (v := .tuple #[.agg #[.int .i64 x.n, .int .i64 x.d, .int .i64 y.n, .int .i64 y.d], .nilIface]) (by simp [results, Tryz.results176, go_sem]) rfl ?_
    exact ⟨rfl, (((Below.refl _ w).alloc (Nat.le_refl _) _).alloc (by simp) _).alloc (by simp; omega) _⟩
end Go.Proofs.YtodabmkcihafhaaGreatDoor
