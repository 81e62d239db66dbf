/- Plain functions and laws: bytes, signs, the reading of an expression as a list of nodes. Nothing of the program. -/
import GoSem.Core.Utf8
import Derived.Laws.RangeString
import Derived.Laws.RangeAny
namespace Go.Proofs.Ytodabmkcihafhaa

/-- The byte at a place (0 behind the end). -/
def bt (s : ByteArray) (i : Nat) : Nat := (s.get! i).toNat
theorem bt_get (s : ByteArray) (i : Nat) (h : i < s.size) : (s[i]'h).toNat = bt s i := by
  unfold bt
  congr 1
  have : s.get! i = s.data[i]! := rfl
  rw [this]
  have h' : i < s.data.size := h
  rw [getElem!_pos s.data i h']
  rfl
theorem bt_lt (s : ByteArray) (i : Nat) : bt s i < 256 := (s.get! i).toNat_lt
def atP (s : ByteArray) (i : Nat) : Nat × Nat :=
  if s.size ≤ i then (0, 0)
  else if bt s i < 128 then (bt s i, 1)
  else if 194 ≤ bt s i ∧ bt s i ≤ 223 ∧ i + 1 < s.size ∧ bt s (i + 1) / 64 = 2 then (bt s i % 32 * 64 + bt s (i + 1) % 64, 2)
  else if bt s i = 226 ∧ i + 2 < s.size ∧ bt s (i + 1) / 64 = 2 ∧ bt s (i + 2) / 64 = 2 then (8192 + bt s (i + 1) % 64 * 64 + bt s (i + 2) % 64, 3)
  else (0, 0)
def known (r : Nat) : Bool := r < 2048 || (8192 ≤ r && r < 12288)
theorem at_dec (s : ByteArray) (i : Nat) (h : i < s.size) :
    atP s i = if known (Utf8.decode s i).1 then Utf8.decode s i else (0, 0) := by
  have e0 : (s.get! (i + 0)).toNat = bt s i := rfl
  have e1 : (s.get! (i + 1)).toNat = bt s (i + 1) := rfl
  have e2 : (s.get! (i + 2)).toNat = bt s (i + 2) := rfl
  have e3 : (s.get! (i + 3)).toNat = bt s (i + 3) := rfl
  have l0 := bt_lt s i
  have l1 := bt_lt s (i + 1)
  have l2 := bt_lt s (i + 2)
  have l3 := bt_lt s (i + 3)
  unfold atP Utf8.decode Utf8.valid known
  simp only [e0, e1, e2, e3, Utf8.runeError]
  generalize bt s i = a at *
  generalize bt s (i + 1) = b at *
  generalize bt s (i + 2) = c at *
  generalize bt s (i + 3) = d at *
  clear e0 e1 e2 e3
  rw [if_neg (by omega)]
  by_cases A : a < 128
  · simp only [A, if_true]; simp; omega
  simp only [A, if_false]
  by_cases B : a / 32 = 6
  · have B' : ¬ a = 226 := by omega
    have B2 : ¬ a / 16 = 14 := by omega
    have B3 : ¬ a / 8 = 30 := by omega
    by_cases C : i + 1 < s.size ∧ b / 64 = 2
    · by_cases D : 194 ≤ a
      · have D' : 128 ≤ a % 32 * 64 + b % 64 := by omega
        have D2 : a ≤ 223 := by omega
        simp [B, C, D, D', D2]; omega
      · have D' : ¬ 128 ≤ a % 32 * 64 + b % 64 := by omega
        have D2 : a % 32 * 64 + b % 64 < 128 := by omega
        simp [B, C, D, D', B']
    · simp only [B', false_and, if_false]
      rw [if_neg (by omega)]
      have : ((a / 32 == 6 && (decide (i + 1 < s.size) && b / 64 == 2))) = false := by
        rw [Bool.eq_false_iff]; simp; omega
      rw [this]; simp [B2, B3]
  · have b1 : (a / 32 == 6) = false := by simp [B]
    rw [if_neg (show ¬ (194 ≤ a ∧ a ≤ 223 ∧ i + 1 < s.size ∧ b / 64 = 2) by omega)]
    simp only [b1, Bool.false_and]
    by_cases E : a = 226 ∧ i + 2 < s.size ∧ b / 64 = 2 ∧ c / 64 = 2
    · obtain ⟨E0, E1, E2, E3⟩ := E
      have D1 : i + 1 < s.size := by omega
      have R1 : 2048 ≤ 8192 + b % 64 * 64 + c % 64 := by omega
      have R2 : (8192 + b % 64 * 64 + c % 64 : Int) < 55296 := by omega
      have R3 : (0 : Int) ≤ 8192 + b % 64 * 64 + c % 64 := by omega
      have R4 : 8192 + b % 64 * 64 + c % 64 < 12288 := by omega
      have R5 : 8192 ≤ 8192 + b % 64 * 64 + c % 64 := by omega
      subst E0
      simp [E1, E2, E3, D1, R1, R2, R3, R4, R5]
    · rw [if_neg E]
      have nk : ∀ X : Nat × Nat, (2048 ≤ X.1 ∧ (X.1 < 8192 ∨ 12288 ≤ X.1)) → (0, 0) = if (decide (X.1 < 2048) || (decide (8192 ≤ X.1) && decide (X.1 < 12288))) = true then X else (0, 0) := by
        intro X hX
        rw [if_neg]
        simp
        omega
      apply nk
      repeat' split
      all_goals simp_all
      all_goals omega

/-- A sign of a text: its rune (-1: none, at the end), its place, whether a blank stands ahead of it. -/
structure Tok where
  c : Int
  p : Nat
  a : Bool

def toksF (s : ByteArray) : Nat → Nat → Bool → List Tok
  | 0, _, ap => [⟨-1, s.size, ap⟩]
  | f + 1, i, ap =>
    if i < s.size then
      (if (Utf8.decode s i).1 = 32 then toksF s f (i + (Utf8.decode s i).2) true
       else ⟨(Utf8.decode s i).1, i, ap⟩ :: toksF s f (i + (Utf8.decode s i).2) false)
    else [⟨-1, s.size, ap⟩]
/-- The signs from a place on. -/
def toks (s : ByteArray) (i : Nat) (ap : Bool) : List Tok := toksF s (s.size - i) i ap

theorem dec_pos (s : ByteArray) (i : Nat) (h : i < s.size) : 1 ≤ (Utf8.decode s i).2 := by
  by_cases ha : (s[i]'h).toNat < 128
  · rw [decode_ascii s i h ha]
    exact Nat.le_refl _
  · exact (decode_high s i h (by omega)).2

theorem toksF_stable (s : ByteArray) : ∀ (f g i : Nat) (ap : Bool), s.size ≤ i + f → s.size ≤ i + g → toksF s f i ap = toksF s g i ap := by
  intro f
  induction f with
  | zero =>
    intro g i ap hf hg
    cases g with
    | zero => rfl
    | succ g => simp [toksF, show ¬ i < s.size by omega]
  | succ f ih =>
    intro g i ap hf hg
    cases g with
    | zero => simp [toksF, show ¬ i < s.size by omega]
    | succ g =>
      by_cases h : i < s.size
      · have hd := dec_pos s i h
        simp only [toksF, h, if_true]
        rw [ih g _ true (by omega) (by omega), ih g _ false (by omega) (by omega)]
      · simp [toksF, h]

theorem toks_end (s : ByteArray) (i : Nat) (ap : Bool) (h : s.size ≤ i) : toks s i ap = [⟨-1, s.size, ap⟩] := by
  unfold toks
  rw [show s.size - i = 0 by omega]
  rfl
theorem toks_step (s : ByteArray) (i : Nat) (ap : Bool) (h : i < s.size) :
    toks s i ap = if (Utf8.decode s i).1 = 32 then toks s (i + (Utf8.decode s i).2) true else ⟨(Utf8.decode s i).1, i, ap⟩ :: toks s (i + (Utf8.decode s i).2) false := by
  have hd := dec_pos s i h
  unfold toks
  obtain ⟨f, hf⟩ : ∃ f, s.size - i = f + 1 := ⟨s.size - i - 1, by omega⟩
  rw [hf]
  simp only [toksF, h, if_true]
  rw [toksF_stable s f (s.size - (i + (Utf8.decode s i).2)) _ true (by omega) (by omega), toksF_stable s f (s.size - (i + (Utf8.decode s i).2)) _ false (by omega) (by omega)]
theorem toks_blank (s : ByteArray) (i : Nat) (ap : Bool) (h : i < s.size) (hb : bt s i = 32) : toks s i ap = toks s (i + 1) true := by
  have ha : (s[i]'h).toNat = 32 := by rw [bt_get]; exact hb
  have hd : Utf8.decode s i = (32, 1) := by rw [decode_ascii s i h (by omega), ha]
  rw [toks_step s i ap h, hd]
  rfl
theorem toks_length (s : ByteArray) : ∀ (f i : Nat) (ap : Bool), (toksF s f i ap).length ≤ f + 1 := by
  intro f
  induction f with
  | zero => intro i ap; simp [toksF]
  | succ f ih =>
    intro i ap
    simp only [toksF]
    split
    · split
      · have := ih (i + (Utf8.decode s i).2) true; omega
      · have := ih (i + (Utf8.decode s i).2) false; simp; omega
    · simp

/-- Over the blanks at a place. -/
def skipF (s : ByteArray) : Nat → Nat → Nat
  | 0, i => i
  | f + 1, i => if i < s.size ∧ bt s i = 32 then skipF s f (i + 1) else i
def skipB (s : ByteArray) (i : Nat) : Nat := skipF s (s.size - i) i
theorem skipF_stable (s : ByteArray) : ∀ (f g i : Nat), s.size ≤ i + f → s.size ≤ i + g → skipF s f i = skipF s g i := by
  intro f
  induction f with
  | zero =>
    intro g i hf hg
    cases g with
    | zero => rfl
    | succ g => simp [skipF, show ¬ i < s.size by omega]
  | succ f ih =>
    intro g i hf hg
    cases g with
    | zero => simp [skipF, show ¬ i < s.size by omega]
    | succ g =>
      by_cases h : i < s.size ∧ bt s i = 32
      · simp only [skipF, h, and_self, if_true]
        exact ih g _ (by omega) (by omega)
      · simp [skipF, h]
theorem skipB_on (s : ByteArray) (i : Nat) (h : i < s.size) (hb : bt s i = 32) : skipB s i = skipB s (i + 1) := by
  unfold skipB
  obtain ⟨f, hf⟩ : ∃ f, s.size - i = f + 1 := ⟨s.size - i - 1, by omega⟩
  rw [hf]
  simp only [skipF, h, hb, and_self, if_true]
  exact skipF_stable s _ _ _ (by omega) (by omega)
theorem skipB_off (s : ByteArray) (i : Nat) (h : ¬ (i < s.size ∧ bt s i = 32)) : skipB s i = i := by
  unfold skipB
  cases s.size - i with
  | zero => rfl
  | succ f => simp [skipF, h]
theorem skipF_le (s : ByteArray) : ∀ (f i : Nat), i ≤ s.size → i ≤ skipF s f i ∧ skipF s f i ≤ s.size := by
  intro f
  induction f with
  | zero => intro i h; exact ⟨Nat.le_refl _, h⟩
  | succ f ih =>
    intro i h
    simp only [skipF]
    split
    · have := ih (i + 1) (by omega); omega
    · omega
theorem skipB_le (s : ByteArray) (i : Nat) (h : i ≤ s.size) : skipB s i ≤ s.size := (skipF_le s _ i h).2
theorem skipB_ge (s : ByteArray) (i : Nat) (h : i ≤ s.size) : i ≤ skipB s i := (skipF_le s _ i h).1

/-- The first of the signs that are left. -/
def hd (ts : List Tok) : Int := match ts with | [] => -1 | t :: _ => t.c
def hp (ts : List Tok) : Nat := match ts with | [] => 0 | t :: _ => t.p
/-- The first, if no blank parts it from what was ahead. -/
def jn (ts : List Tok) : Int := match ts with | [] => -1 | t :: _ => if t.a then -1 else t.c

def isDig (c : Int) : Bool := 48 ≤ c && c ≤ 57
def isFrac (c : Int) : Bool := c == 189 || c == 188 || c == 190
def isMk (c : Int) : Bool := c == 178 || c == 8242
def isNm (c : Int) : Bool := 945 ≤ c && c ≤ 969
def inRow (level : Nat) (c : Int) : Bool := if level = 0 then c == 43 || c == 8722 else c == 215 || c == 247

/-- A node of the document's list. -/
structure Nd where
  op : Int
  a : Nat
  b : Nat
  num : Int
  den : Int
  text : ByteArray
  pl : Nat

/-- The digits of a numeral: up to n more, joined. -/
def digs : Nat → List Tok → List Int × List Tok
  | 0, ts => ([], ts)
  | n + 1, ts => if isDig (jn ts) then ((jn ts) :: (digs n ts.tail).1, (digs n ts.tail).2) else ([], ts)
def fracT (ts : List Tok) : List Int × List Tok := if isFrac (jn ts) then ([jn ts], ts.tail) else ([], ts)
/-- A numeral: its runes, and what is left. -/
def numT (ts : List Tok) : List Int × List Tok :=
  if isFrac (hd ts) then ([hd ts], ts.tail)
  else
    let d := if hd ts = 48 then ([], ts.tail) else digs 2 ts.tail
    let f := fracT d.2
    (hd ts :: d.1 ++ f.1, f.2)
def encAll (l : List Int) : ByteArray := l.foldl (fun acc c => acc ++ Utf8.encode c) ByteArray.empty
def numVal (l : List Int) : Int × Int :=
  let n := (l.filter isDig).foldl (fun n c => 10 * n + (c - 48)) 0
  match l.getLast? with
  | some c => if c = 189 then (2 * n + 1, 2) else if c = 188 then (4 * n + 1, 4) else if c = 190 then (4 * n + 3, 4) else (n, 1)
  | none => (n, 1)
def numNd (ts : List Tok) : Nd := { op := 48, a := 0, b := 0, num := (numVal (numT ts).1).1, den := (numVal (numT ts).1).2, text := encAll (numT ts).1, pl := hp ts }
def opNd (c : Int) (a b pl : Nat) : Nd := { op := c, a := a, b := b, num := 0, den := 0, text := ByteArray.empty, pl := pl }

/-- What a reading comes to. -/
structure Res where
  ok : Bool
  k : Nat
  L : List Nd
  ts : List Tok

/-- The reading, by tags: 0, 1 a row of that level, 2 a factor, 3 a primary, 4, 5 the rounds of a row (k: what stands on the left), 6 the marks behind (k: what they stand behind). -/
def pp : Nat → Nat → Nat → List Tok → List Nd → Res
  | 0, _, k, ts, L => ⟨false, k, L, ts⟩
  | f + 1, tag, k, ts, L =>
    match tag with
    | 0 => if (pp f 1 0 ts L).ok then pp f 4 (pp f 1 0 ts L).k (pp f 1 0 ts L).ts (pp f 1 0 ts L).L else pp f 1 0 ts L
    | 1 => if (pp f 2 0 ts L).ok then pp f 5 (pp f 2 0 ts L).k (pp f 2 0 ts L).ts (pp f 2 0 ts L).L else pp f 2 0 ts L
    | 2 =>
      if hd ts = 8722 then
        (if (pp f 2 0 ts.tail L).ok then ⟨true, (pp f 2 0 ts.tail L).L.length, (pp f 2 0 ts.tail L).L ++ [opNd 110 (pp f 2 0 ts.tail L).k 0 (hp ts)], (pp f 2 0 ts.tail L).ts⟩
         else pp f 2 0 ts.tail L)
      else if (pp f 3 0 ts L).ok then pp f 6 (pp f 3 0 ts L).k (pp f 3 0 ts L).ts (pp f 3 0 ts L).L else pp f 3 0 ts L
    | 3 =>
      if isDig (hd ts) || isFrac (hd ts) then ⟨true, L.length, L ++ [numNd ts], (numT ts).2⟩
      else if hd ts = 105 ∨ isNm (hd ts) then ⟨true, L.length, L ++ [opNd (hd ts) 0 0 (hp ts)], ts.tail⟩
      else if hd ts = 40 then
        (if (pp f 0 0 ts.tail L).ok then
          (if hd (pp f 0 0 ts.tail L).ts = 41 then ⟨true, (pp f 0 0 ts.tail L).k, (pp f 0 0 ts.tail L).L, (pp f 0 0 ts.tail L).ts.tail⟩
           else ⟨false, 0, (pp f 0 0 ts.tail L).L, (pp f 0 0 ts.tail L).ts⟩)
         else pp f 0 0 ts.tail L)
      else ⟨false, 0, L, ts⟩
    | 4 =>
      if inRow 0 (hd ts) then
        (if (pp f 1 0 ts.tail L).ok then pp f 4 (pp f 1 0 ts.tail L).L.length (pp f 1 0 ts.tail L).ts ((pp f 1 0 ts.tail L).L ++ [opNd (hd ts) k (pp f 1 0 ts.tail L).k (hp ts)])
         else pp f 1 0 ts.tail L)
      else ⟨true, k, L, ts⟩
    | 5 =>
      if inRow 1 (hd ts) then
        (if (pp f 2 0 ts.tail L).ok then pp f 5 (pp f 2 0 ts.tail L).L.length (pp f 2 0 ts.tail L).ts ((pp f 2 0 ts.tail L).L ++ [opNd (hd ts) k (pp f 2 0 ts.tail L).k (hp ts)])
         else pp f 2 0 ts.tail L)
      else ⟨true, k, L, ts⟩
    | _ =>
      if isMk (hd ts) then pp f 6 L.length ts.tail (L ++ [opNd (hd ts) k 0 (hp ts)]) else ⟨true, k, L, ts⟩

end Go.Proofs.Ytodabmkcihafhaa
