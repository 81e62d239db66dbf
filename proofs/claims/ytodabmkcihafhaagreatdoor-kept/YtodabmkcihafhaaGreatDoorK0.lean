import GoSem.Core.Utf8
import Derived.Laws.RangeString
import Derived.Laws.RangeAny

/- Plain functions and laws: bytes, signs, the reading of an expression as a list of nodes. Nothing of the program. -/
namespace Go.Proofs.YtodabmkcihafhaaGreatDoor

/-- The byte at a place (0 behind the end). -/
def bt (s : ByteArray) (i : Nat) : Nat := (s.get! i).toNat
theorem bt_get (s : ByteArray) (i : Nat) (h : i < s.size) : (s[i]'h).toNat = bt s i := by
  unfold bt
  congr 1
  have : s.get! i = s.data[i]! := rfl
  rw [this]
  have h' : i < s.data.size := h
  rw [getElem!_pos s.data i h']
  rfl
theorem bt_lt (s : ByteArray) (i : Nat) : bt s i < 256 := (s.get! i).toNat_lt
def atP (s : ByteArray) (i : Nat) : Nat × Nat :=
  if s.size ≤ i then (0, 0)
  else if bt s i < 128 then (bt s i, 1)
  else if 194 ≤ bt s i ∧ bt s i ≤ 223 ∧ i + 1 < s.size ∧ bt s (i + 1) / 64 = 2 then (bt s i % 32 * 64 + bt s (i + 1) % 64, 2)
  else if bt s i = 226 ∧ i + 2 < s.size ∧ bt s (i + 1) / 64 = 2 ∧ bt s (i + 2) / 64 = 2 then (8192 + bt s (i + 1) % 64 * 64 + bt s (i + 2) % 64, 3)
  else (0, 0)
def known (r : Nat) : Bool := r < 2048 || (8192 ≤ r && r < 12288)
theorem at_dec (s : ByteArray) (i : Nat) (h : i < s.size) :
    atP s i = if known (Utf8.decode s i).1 then Utf8.decode s i else (0, 0) := by
  have e0 : (s.get! (i + 0)).toNat = bt s i := rfl
  have e1 : (s.get! (i + 1)).toNat = bt s (i + 1) := rfl
  have e2 : (s.get! (i + 2)).toNat = bt s (i + 2) := rfl
  have e3 : (s.get! (i + 3)).toNat = bt s (i + 3) := rfl
  have l0 := bt_lt s i
  have l1 := bt_lt s (i + 1)
  have l2 := bt_lt s (i + 2)
  have l3 := bt_lt s (i + 3)
  unfold atP Utf8.decode Utf8.valid known
  simp only [e0, e1, e2, e3, Utf8.runeError]
  generalize bt s i = a at *
  generalize bt s (i + 1) = b at *
  generalize bt s (i + 2) = c at *
  generalize bt s (i + 3) = d at *
  clear e0 e1 e2 e3
  rw [if_neg (by omega)]
  by_cases A : a < 128
  · simp only [A, if_true]; simp; omega
  simp only [A, if_false]
  by_cases B : a / 32 = 6
  · have B' : ¬ a = 226 := by omega
    have B2 : ¬ a / 16 = 14 := by omega
    have B3 : ¬ a / 8 = 30 := by omega
    by_cases C : i + 1 < s.size ∧ b / 64 = 2
    · by_cases D : 194 ≤ a
      · have D' : 128 ≤ a % 32 * 64 + b % 64 := by omega
        have D2 : a ≤ 223 := by omega
        simp [B, C, D, D', D2]; omega
      · have D' : ¬ 128 ≤ a % 32 * 64 + b % 64 := by omega
        have D2 : a % 32 * 64 + b % 64 < 128 := by omega
        simp [B, C, D, D', B']
    · simp only [B', false_and, if_false]
      rw [if_neg (by omega)]
      have : ((a / 32 == 6 && (decide (i + 1 < s.size) && b / 64 == 2))) = false := by
        rw [Bool.eq_false_iff]; simp; omega
      rw [this]; simp [B2, B3]
  · have b1 : (a / 32 == 6) = false := by simp [B]
    rw [if_neg (show ¬ (194 ≤ a ∧ a ≤ 223 ∧ i + 1 < s.size ∧ b / 64 = 2) by omega)]
    simp only [b1, Bool.false_and]
    by_cases E : a = 226 ∧ i + 2 < s.size ∧ b / 64 = 2 ∧ c / 64 = 2
    · obtain ⟨E0, E1, E2, E3⟩ := E
      have D1 : i + 1 < s.size := by omega
      have R1 : 2048 ≤ 8192 + b % 64 * 64 + c % 64 := by omega
      have R2 : (8192 + b % 64 * 64 + c % 64 : Int) < 55296 := by omega
      have R3 : (0 : Int) ≤ 8192 + b % 64 * 64 + c % 64 := by omega
      have R4 : 8192 + b % 64 * 64 + c % 64 < 12288 := by omega
      have R5 : 8192 ≤ 8192 + b % 64 * 64 + c % 64 := by omega
      subst E0
      simp [E1, E2, E3, D1, R1, R2, R3, R4, R5]
    · rw [if_neg E]
      have nk : ∀ X : Nat × Nat, (2048 ≤ X.1 ∧ (X.1 < 8192 ∨ 12288 ≤ X.1)) → (0, 0) = if (decide (X.1 < 2048) || (decide (8192 ≤ X.1) && decide (X.1 < 12288))) = true then X else (0, 0) := by
        intro X hX
        rw [if_neg]
        simp
        omega
      apply nk
      repeat' split
      all_goals simp_all
      all_goals omega

/-- A sign of a text: its rune (-1: none, at the end), its place, whether a blank stands ahead of it. -/
structure Tok where
  c : Int
  p : Nat
  a : Bool

def toksF (s : ByteArray) : Nat → Nat → Bool → List Tok
  | 0, _, ap => [⟨-1, s.size, ap⟩]
  | f + 1, i, ap =>
    if i < s.size then
      (if (Utf8.decode s i).1 = 32 then toksF s f (i + (Utf8.decode s i).2) true
       else ⟨(Utf8.decode s i).1, i, ap⟩ :: toksF s f (i + (Utf8.decode s i).2) false)
    else [⟨-1, s.size, ap⟩]
/-- The signs from a place on. -/
def toks (s : ByteArray) (i : Nat) (ap : Bool) : List Tok := toksF s (s.size - i) i ap

theorem dec_pos (s : ByteArray) (i : Nat) (h : i < s.size) : 1 ≤ (Utf8.decode s i).2 := by
  by_cases ha : (s[i]'h).toNat < 128
  · rw [decode_ascii s i h ha]
    exact Nat.le_refl _
  · exact (decode_high s i h (by omega)).2

theorem toksF_stable (s : ByteArray) : ∀ (f g i : Nat) (ap : Bool), s.size ≤ i + f → s.size ≤ i + g → toksF s f i ap = toksF s g i ap := by
  intro f
  induction f with
  | zero =>
    intro g i ap hf hg
    cases g with
    | zero => rfl
    | succ g => simp [toksF, show ¬ i < s.size by omega]
  | succ f ih =>
    intro g i ap hf hg
    cases g with
    | zero => simp [toksF, show ¬ i < s.size by omega]
    | succ g =>
      by_cases h : i < s.size
      · have hd := dec_pos s i h
        simp only [toksF, h, if_true]
        rw [ih g _ true (by omega) (by omega), ih g _ false (by omega) (by omega)]
      · simp [toksF, h]

theorem toks_end (s : ByteArray) (i : Nat) (ap : Bool) (h : s.size ≤ i) : toks s i ap = [⟨-1, s.size, ap⟩] := by
  unfold toks
  rw [show s.size - i = 0 by omega]
  rfl
theorem toks_step (s : ByteArray) (i : Nat) (ap : Bool) (h : i < s.size) :
    toks s i ap = if (Utf8.decode s i).1 = 32 then toks s (i + (Utf8.decode s i).2) true else ⟨(Utf8.decode s i).1, i, ap⟩ :: toks s (i + (Utf8.decode s i).2) false := by
  have hd := dec_pos s i h
  unfold toks
  obtain ⟨f, hf⟩ : ∃ f, s.size - i = f + 1 := ⟨s.size - i - 1, by omega⟩
  rw [hf]
  simp only [toksF, h, if_true]
  rw [toksF_stable s f (s.size - (i + (Utf8.decode s i).2)) _ true (by omega) (by omega), toksF_stable s f (s.size - (i + (Utf8.decode s i).2)) _ false (by omega) (by omega)]
theorem toks_blank (s : ByteArray) (i : Nat) (ap : Bool) (h : i < s.size) (hb : bt s i = 32) : toks s i ap = toks s (i + 1) true := by
  have ha : (s[i]'h).toNat = 32 := by rw [bt_get]; exact hb
  have hd : Utf8.decode s i = (32, 1) := by rw [decode_ascii s i h (by omega), ha]
  rw [toks_step s i ap h, hd]
  rfl
theorem toks_length (s : ByteArray) : ∀ (f i : Nat) (ap : Bool), (toksF s f i ap).length ≤ f + 1 := by
  intro f
  induction f with
  | zero => intro i ap; simp [toksF]
  | succ f ih =>
    intro i ap
    simp only [toksF]
    split
    · split
      · have := ih (i + (Utf8.decode s i).2) true; omega
      · have := ih (i + (Utf8.decode s i).2) false; simp; omega
    · simp

/-- Over the blanks at a place. -/
def skipF (s : ByteArray) : Nat → Nat → Nat
  | 0, i => i
  | f + 1, i => if i < s.size ∧ bt s i = 32 then skipF s f (i + 1) else i
def skipB (s : ByteArray) (i : Nat) : Nat := skipF s (s.size - i) i
theorem skipF_stable (s : ByteArray) : ∀ (f g i : Nat), s.size ≤ i + f → s.size ≤ i + g → skipF s f i = skipF s g i := by
  intro f
  induction f with
  | zero =>
    intro g i hf hg
    cases g with
    | zero => rfl
    | succ g => simp [skipF, show ¬ i < s.size by omega]
  | succ f ih =>
    intro g i hf hg
    cases g with
    | zero => simp [skipF, show ¬ i < s.size by omega]
    | succ g =>
      by_cases h : i < s.size ∧ bt s i = 32
      · simp only [skipF, h, and_self, if_true]
        exact ih g _ (by omega) (by omega)
      · simp [skipF, h]
theorem skipB_on (s : ByteArray) (i : Nat) (h : i < s.size) (hb : bt s i = 32) : skipB s i = skipB s (i + 1) := by
  unfold skipB
  obtain ⟨f, hf⟩ : ∃ f, s.size - i = f + 1 := ⟨s.size - i - 1, by omega⟩
  rw [hf]
  simp only [skipF, h, hb, and_self, if_true]
  exact skipF_stable s _ _ _ (by omega) (by omega)
theorem skipB_off (s : ByteArray) (i : Nat) (h : ¬ (i < s.size ∧ bt s i = 32)) : skipB s i = i := by
  unfold skipB
  cases s.size - i with
  | zero => rfl
  | succ f => simp [skipF, h]
theorem skipF_le (s : ByteArray) : ∀ (f i : Nat), i ≤ s.size → i ≤ skipF s f i ∧ skipF s f i ≤ s.size := by
  intro f
  induction f with
  | zero => intro i h; exact ⟨Nat.le_refl _, h⟩
  | succ f ih =>
    intro i h
    simp only [skipF]
    split
    · have := ih (i + 1) (by omega); omega
    · omega
theorem skipB_le (s : ByteArray) (i : Nat) (h : i ≤ s.size) : skipB s i ≤ s.size := (skipF_le s _ i h).2
theorem skipB_ge (s : ByteArray) (i : Nat) (h : i ≤ s.size) : i ≤ skipB s i := (skipF_le s _ i h).1

/-- The first of the signs that are left. -/
def hd (ts : List Tok) : Int := match ts with | [] => -1 | t :: _ => t.c
def hp (ts : List Tok) : Nat := match ts with | [] => 0 | t :: _ => t.p
/-- The first, if no blank parts it from what was ahead. -/
def jn (ts : List Tok) : Int := match ts with | [] => -1 | t :: _ => if t.a then -1 else t.c

def isDig (c : Int) : Bool := 48 ≤ c && c ≤ 57
def isFrac (c : Int) : Bool := c == 189 || c == 188 || c == 190
def isMk (c : Int) : Bool := c == 178 || c == 8242
def isNm (c : Int) : Bool := 945 ≤ c && c ≤ 969
def inRow (level : Nat) (c : Int) : Bool := if level = 0 then c == 43 || c == 8722 else c == 215 || c == 247

/-- A node of the document's list. -/
structure Nd where
  op : Int
  a : Nat
  b : Nat
  num : Int
  den : Int
  text : ByteArray
  pl : Nat

/-- The digits of a numeral: up to n more, joined. -/
def digs : Nat → List Tok → List Int × List Tok
  | 0, ts => ([], ts)
  | n + 1, ts => if isDig (jn ts) then ((jn ts) :: (digs n ts.tail).1, (digs n ts.tail).2) else ([], ts)
def fracT (ts : List Tok) : List Int × List Tok := if isFrac (jn ts) then ([jn ts], ts.tail) else ([], ts)
/-- A numeral: its runes, and what is left. -/
def numT (ts : List Tok) : List Int × List Tok :=
  if isFrac (hd ts) then ([hd ts], ts.tail)
  else
    let d := if hd ts = 48 then ([], ts.tail) else digs 2 ts.tail
    let f := fracT d.2
    (hd ts :: d.1 ++ f.1, f.2)
def encAll (l : List Int) : ByteArray := l.foldl (fun acc c => acc ++ Utf8.encode c) ByteArray.empty
def numVal (l : List Int) : Int × Int :=
  let n := (l.filter isDig).foldl (fun n c => 10 * n + (c - 48)) 0
  match l.getLast? with
  | some c => if c = 189 then (2 * n + 1, 2) else if c = 188 then (4 * n + 1, 4) else if c = 190 then (4 * n + 3, 4) else (n, 1)
  | none => (n, 1)
def numNd (ts : List Tok) : Nd := { op := 48, a := 0, b := 0, num := (numVal (numT ts).1).1, den := (numVal (numT ts).1).2, text := encAll (numT ts).1, pl := hp ts }
def opNd (c : Int) (a b pl : Nat) : Nd := { op := c, a := a, b := b, num := 0, den := 0, text := ByteArray.empty, pl := pl }

/-- What a reading comes to. -/
structure Res where
  ok : Bool
  k : Nat
  L : List Nd
  ts : List Tok

/-- The reading, by tags: 0, 1 a row of that level, 2 a factor, 3 a primary, 4, 5 the rounds of a row (k: what stands on the left), 6 the marks behind (k: what they stand behind). -/
def pp : Nat → Nat → Nat → List Tok → List Nd → Res
  | 0, _, k, ts, L => ⟨false, k, L, ts⟩
  | f + 1, tag, k, ts, L =>
    match tag with
    | 0 => if (pp f 1 0 ts L).ok then pp f 4 (pp f 1 0 ts L).k (pp f 1 0 ts L).ts (pp f 1 0 ts L).L else pp f 1 0 ts L
    | 1 => if (pp f 2 0 ts L).ok then pp f 5 (pp f 2 0 ts L).k (pp f 2 0 ts L).ts (pp f 2 0 ts L).L else pp f 2 0 ts L
    | 2 =>
      if hd ts = 8722 then
        (if (pp f 2 0 ts.tail L).ok then ⟨true, (pp f 2 0 ts.tail L).L.length, (pp f 2 0 ts.tail L).L ++ [opNd 110 (pp f 2 0 ts.tail L).k 0 (hp ts)], (pp f 2 0 ts.tail L).ts⟩
         else pp f 2 0 ts.tail L)
      else if (pp f 3 0 ts L).ok then pp f 6 (pp f 3 0 ts L).k (pp f 3 0 ts L).ts (pp f 3 0 ts L).L else pp f 3 0 ts L
    | 3 =>
      if isDig (hd ts) || isFrac (hd ts) then ⟨true, L.length, L ++ [numNd ts], (numT ts).2⟩
      else if hd ts = 105 ∨ isNm (hd ts) then ⟨true, L.length, L ++ [opNd (hd ts) 0 0 (hp ts)], ts.tail⟩
      else if hd ts = 40 then
        (if (pp f 0 0 ts.tail L).ok then
          (if hd (pp f 0 0 ts.tail L).ts = 41 then ⟨true, (pp f 0 0 ts.tail L).k, (pp f 0 0 ts.tail L).L, (pp f 0 0 ts.tail L).ts.tail⟩
           else ⟨false, 0, (pp f 0 0 ts.tail L).L, (pp f 0 0 ts.tail L).ts⟩)
         else pp f 0 0 ts.tail L)
      else ⟨false, 0, L, ts⟩
    | 4 =>
      if inRow 0 (hd ts) then
        (if (pp f 1 0 ts.tail L).ok then pp f 4 (pp f 1 0 ts.tail L).L.length (pp f 1 0 ts.tail L).ts ((pp f 1 0 ts.tail L).L ++ [opNd (hd ts) k (pp f 1 0 ts.tail L).k (hp ts)])
         else pp f 1 0 ts.tail L)
      else ⟨true, k, L, ts⟩
    | 5 =>
      if inRow 1 (hd ts) then
        (if (pp f 2 0 ts.tail L).ok then pp f 5 (pp f 2 0 ts.tail L).L.length (pp f 2 0 ts.tail L).ts ((pp f 2 0 ts.tail L).L ++ [opNd (hd ts) k (pp f 2 0 ts.tail L).k (hp ts)])
         else pp f 2 0 ts.tail L)
      else ⟨true, k, L, ts⟩
    | _ =>
      if isMk (hd ts) then pp f 6 L.length ts.tail (L ++ [opNd (hd ts) k 0 (hp ts)]) else ⟨true, k, L, ts⟩

end Go.Proofs.YtodabmkcihafhaaGreatDoor

/- Plain laws: places and signs; numerals by bytes and by runes; lengths of a reading. -/
namespace Go.Proofs.YtodabmkcihafhaaGreatDoor

/-- The digits of a numeral, by their bytes: f more at most (of three); z: the first is 0. -/
def digB (s : ByteArray) (z : Bool) : Nat → Nat → Nat → Nat × Nat
  | 0, i, n => (i, n)
  | f + 1, i, n => if i < s.size ∧ 48 ≤ bt s i ∧ bt s i ≤ 57 ∧ ¬ (f = 1 ∧ z = true) then digB s z f (i + 1) (10 * n + (bt s i - 48)) else (i, n)
def numEnd (s : ByteArray) (i : Nat) : Nat := (digB s (bt s i == 48) 3 i 0).1
def numN (s : ByteArray) (i : Nat) : Nat := (digB s (bt s i == 48) 3 i 0).2
def fracOf (c : Nat) (n : Nat) : Nat × Nat := if c = 189 then (2 * n + 1, 2) else if c = 188 then (4 * n + 1, 4) else if c = 190 then (4 * n + 3, 4) else (n, 1)
def numEnd2 (s : ByteArray) (i : Nat) : Nat := if (fracOf (atP s (numEnd s i)).1 (numN s i)).2 = 1 then numEnd s i else numEnd s i + (atP s (numEnd s i)).2
def numB (s : ByteArray) (i : Nat) : Nd :=
  { op := 48, a := 0, b := 0, num := (fracOf (atP s (numEnd s i)).1 (numN s i)).1, den := (fracOf (atP s (numEnd s i)).1 (numN s i)).2, text := s.extract i (numEnd2 s i), pl := i }

theorem digB_bd (s : ByteArray) (z : Bool) : ∀ (f i n : Nat), i ≤ s.size → i ≤ (digB s z f i n).1 ∧ (digB s z f i n).1 ≤ s.size ∧ (digB s z f i n).2 + 1 ≤ (n + 1) * 10 ^ f := by
  intro f
  induction f with
  | zero => intro i n h; simp [digB]; omega
  | succ f ih =>
    intro i n h
    simp only [digB]
    split
    · have := ih (i + 1) (10 * n + (bt s i - 48)) (by omega)
      refine ⟨by omega, by omega, ?_⟩
      have h2 := this.2.2
      have h3 : (10 * n + (bt s i - 48) + 1) * 10 ^ f ≤ (10 * (n + 1)) * 10 ^ f := Nat.mul_le_mul_right _ (by omega)
      have h4 : (10 * (n + 1)) * 10 ^ f = (n + 1) * 10 ^ (f + 1) := by rw [Nat.pow_succ]; simp [Nat.mul_comm, Nat.mul_assoc]
      omega
    · refine ⟨by omega, h, ?_⟩
      have : (n + 1) * 1 ≤ (n + 1) * 10 ^ (f + 1) := Nat.mul_le_mul_left _ (Nat.pos_of_ne_zero (by simp))
      omega

theorem digB_stop (s : ByteArray) (i k j n : Nat) (hk : k ≤ 3) (hc : ¬ (k < 3 ∧ j < s.size ∧ 48 ≤ bt s j ∧ bt s j ≤ 57 ∧ ¬(k = 1 ∧ bt s i = 48))) : digB s (bt s i == 48) (3 - k) j n = (j, n) := by
  obtain rfl | rfl | rfl | rfl : k = 0 ∨ k = 1 ∨ k = 2 ∨ k = 3 := by omega
  · simp only [digB]; rw [if_neg]; simp; omega
  · simp only [digB]; rw [if_neg]; simp; omega
  · simp only [digB]; rw [if_neg]; simp; omega
  · rfl
theorem digB_go (s : ByteArray) (i k j n : Nat) (hc : k < 3 ∧ j < s.size ∧ 48 ≤ bt s j ∧ bt s j ≤ 57 ∧ ¬(k = 1 ∧ bt s i = 48)) : digB s (bt s i == 48) (3 - k) j n = digB s (bt s i == 48) (3 - (k + 1)) (j + 1) (10 * n + (bt s j - 48)) := by
  obtain rfl | rfl | rfl : k = 0 ∨ k = 1 ∨ k = 2 := by omega
  · simp only [digB]; rw [if_pos ⟨by omega, by omega, by omega, by simp⟩]
  · have h6 : (bt s i == 48) = false := by simp; omega
    simp only [digB]; rw [if_pos ⟨by omega, by omega, by omega, by simp [h6]⟩]
  · simp only [digB]; rw [if_pos ⟨by omega, by omega, by omega, by simp⟩]; rfl
theorem numB_eq (s : ByteArray) (i j n num den : Nat) (h : (j, n) = digB s (bt s i == 48) 3 i 0) (hf : fracOf (atP s j).1 n = (num, den)) :
    numEnd2 s i = (if den = 1 then j else j + (atP s j).2) ∧ numB s i = ⟨48, 0, 0, (num : Nat), (den : Nat), s.extract i (if den = 1 then j else j + (atP s j).2), i⟩ := by
  have e1 : numEnd s i = j := by unfold numEnd; rw [← h]
  have e2 : numN s i = n := by unfold numN; rw [← h]
  have e3 : numEnd2 s i = (if den = 1 then j else j + (atP s j).2) := by unfold numEnd2; rw [e1, e2, hf]
  refine ⟨e3, ?_⟩
  unfold numB
  rw [e1, e2, hf, e3]

/-! ### Places -/
theorem dec_blank (s : ByteArray) (i : Nat) (h : i < s.size) : (Utf8.decode s i).1 = 32 ↔ bt s i = 32 := by
  have g := bt_get s i h
  by_cases ha : (s[i]'h).toNat < 128
  · rw [decode_ascii s i h ha, g]
  · have := (decode_high s i h (by omega)).1
    omega
theorem pos_sign (s : ByteArray) : ∀ (n i : Nat) (ap : Bool), s.size - i = n → i ≤ s.size → ∃ ap', toks s i ap = toks s (skipB s i) ap' := by
  intro n
  induction n with
  | zero =>
    intro i ap hn hi
    rw [skipB_off s i (by omega)]
    exact ⟨ap, rfl⟩
  | succ n ih =>
    intro i ap hn hi
    by_cases hb : bt s i = 32
    · rw [toks_blank s i ap (by omega) hb, skipB_on s i (by omega) hb]
      exact ih (i + 1) true (by omega) (by omega)
    · rw [skipB_off s i (by omega)]
      exact ⟨ap, rfl⟩
theorem skipB_nb (s : ByteArray) : ∀ (n i : Nat), s.size - i = n → ¬ (skipB s i < s.size ∧ bt s (skipB s i) = 32) := by
  intro n
  induction n with
  | zero =>
    intro i hn
    rw [skipB_off s i (by omega)]
    omega
  | succ n ih =>
    intro i hn
    by_cases hb : bt s i = 32
    · rw [skipB_on s i (by omega) hb]
      exact ih (i + 1) (by omega)
    · rw [skipB_off s i (by omega)]
      omega
/-- A sign's number as the document reads it (0: none) beside the rune. -/
def sim (c : Nat) (h : Int) : Prop := (h = c ∧ (c < 2048 ∨ (8192 ≤ c ∧ c < 12288))) ∨ (c = 0 ∧ (h = -1 ∨ (2048 ≤ h ∧ (h < 8192 ∨ 12288 ≤ h))))
theorem pos_head (s : ByteArray) (j : Nat) (ap : Bool) (hj : j ≤ s.size) (hnb : ¬ (j < s.size ∧ bt s j = 32)) :
    hp (toks s j ap) = j ∧ sim (atP s j).1 (hd (toks s j ap)) := by
  by_cases h : j < s.size
  · have hd32 : ¬ (Utf8.decode s j).1 = 32 := by rw [dec_blank s j h]; omega
    rw [toks_step s j ap h, if_neg hd32]
    refine ⟨rfl, ?_⟩
    show sim _ ((Utf8.decode s j).1 : Int)
    rw [at_dec s j h]
    unfold sim known
    by_cases hk : (decide ((Utf8.decode s j).1 < 2048) || (decide (8192 ≤ (Utf8.decode s j).1) && decide ((Utf8.decode s j).1 < 12288))) = true
    · rw [if_pos hk]
      simp at hk
      omega
    · rw [if_neg hk]
      simp at hk
      omega
  · have hj' : j = s.size := by omega
    subst hj'
    rw [toks_end s _ ap (Nat.le_refl _)]
    refine ⟨rfl, ?_⟩
    show sim _ (-1)
    rw [show atP s s.size = (0, 0) by simp [atP]]
    unfold sim
    omega
theorem pos_tail (s : ByteArray) (j : Nat) (ap : Bool) (hj : j ≤ s.size) (hnb : ¬ (j < s.size ∧ bt s j = 32)) (hc : (atP s j).1 ≠ 0) :
    (toks s j ap).tail = toks s (j + (atP s j).2) false ∧ toks s j ap = ⟨(atP s j).1, j, ap⟩ :: toks s (j + (atP s j).2) false := by
  by_cases h : j < s.size
  · have hd32 : ¬ (Utf8.decode s j).1 = 32 := by rw [dec_blank s j h]; omega
    have he := at_dec s j h
    split at he
    · rw [toks_step s j ap h, if_neg hd32, he]
      exact ⟨rfl, rfl⟩
    · rw [he] at hc; exact absurd rfl hc
  · exfalso
    apply hc
    simp [atP, show s.size ≤ j by omega]

/-! ### Lengths -/
theorem digs_len : ∀ (n : Nat) (ts : List Tok), (digs n ts).2.length ≤ ts.length := by
  intro n
  induction n with
  | zero => intro ts; exact Nat.le_refl _
  | succ n ih =>
    intro ts
    simp only [digs]
    split
    · have := ih ts.tail
      simp at this ⊢
      omega
    · exact Nat.le_refl _
theorem fracT_len (ts : List Tok) : (fracT ts).2.length ≤ ts.length := by
  unfold fracT
  split
  · simp
  · exact Nat.le_refl _
theorem ne_of_hd {ts : List Tok} (h : hd ts ≠ -1) : 1 ≤ ts.length := by
  cases ts with
  | nil => exact absurd rfl h
  | cons t r => simp
theorem numT_len (ts : List Tok) (h : hd ts ≠ -1) : (numT ts).2.length + 1 ≤ ts.length := by
  have h1 := ne_of_hd h
  unfold numT
  split
  · simp; omega
  · split
    · have := fracT_len ts.tail
      simp at this ⊢; omega
    · have := fracT_len (digs 2 ts.tail).2
      have h2 := digs_len 2 ts.tail
      simp at this h2 ⊢; omega

/-! ### Numerals by bytes and by runes -/
theorem toks_cons (s : ByteArray) (p : Nat) (ap : Bool) (h : p < s.size) (hb : ¬ bt s p = 32) : toks s p ap = ⟨(Utf8.decode s p).1, p, ap⟩ :: toks s (p + (Utf8.decode s p).2) false := by
  rw [toks_step s p ap h, if_neg (by rw [dec_blank s p h]; exact hb)]
theorem toks_true (s : ByteArray) : ∀ (n p : Nat), s.size - p = n → ∃ t r, toks s p true = t :: r ∧ t.a = true := by
  intro n
  induction n with
  | zero => intro p h; exact ⟨_, _, toks_end s p true (by omega), rfl⟩
  | succ n ih =>
    intro p h
    by_cases hb : bt s p = 32
    · rw [toks_blank s p true (by omega) hb]; exact ih (p + 1) (by omega)
    · exact ⟨_, _, toks_cons s p true (by omega) hb, rfl⟩
theorem jn_tok (s : ByteArray) (p : Nat) : jn (toks s p false) = if p < s.size ∧ ¬ bt s p = 32 then ((Utf8.decode s p).1 : Int) else -1 := by
  by_cases h : p < s.size
  · by_cases hb : bt s p = 32
    · rw [toks_blank s p false h hb, if_neg (by omega)]
      obtain ⟨t, r, e, ha⟩ := toks_true s _ (p + 1) rfl
      rw [e]
      simp [jn, ha]
    · rw [toks_cons s p false h hb, if_pos ⟨h, hb⟩]
      simp [jn]
  · rw [toks_end s p false (by omega), if_neg (by omega)]
    simp [jn]
theorem dec_one (s : ByteArray) (p : Nat) (h : p < s.size) (ha : bt s p < 128) : Utf8.decode s p = (bt s p, 1) := by
  have g := bt_get s p h
  rw [decode_ascii s p h (by omega), g]
theorem jn_dig (s : ByteArray) (p : Nat) : isDig (jn (toks s p false)) = decide (p < s.size ∧ 48 ≤ bt s p ∧ bt s p ≤ 57) := by
  rw [jn_tok]
  unfold isDig
  by_cases h : p < s.size
  · by_cases ha : bt s p < 128
    · rw [dec_one s p h ha]
      by_cases hb : bt s p = 32
      · rw [if_neg (by omega)]; simp [hb]
      · rw [if_pos ⟨h, hb⟩, Bool.eq_iff_iff]; simp [h]; omega
    · have g := bt_get s p h
      have := (decode_high s p h (by omega)).1
      rw [if_pos ⟨h, by omega⟩, Bool.eq_iff_iff]; simp [h]; omega
  · rw [if_neg (by omega)]; simp [h]
theorem tok_dig (s : ByteArray) (p : Nat) (h : p < s.size ∧ 48 ≤ bt s p ∧ bt s p ≤ 57) : jn (toks s p false) = (bt s p : Nat) ∧ (toks s p false).tail = toks s (p + 1) false := by
  rw [jn_tok, if_pos ⟨h.1, by omega⟩, dec_one s p h.1 (by omega), toks_cons s p false h.1 (by omega), dec_one s p h.1 (by omega)]
  exact ⟨rfl, rfl⟩

theorem get_bt (s : ByteArray) (p : Nat) (h : p < s.size) : s[p] = UInt8.ofNat (bt s p) := by
  have := bt_get s p h
  rw [← this]
  exact UInt8.ofNat_toNat.symm
theorem ba_ext (a b : ByteArray) (h : a.data.toList = b.data.toList) : a = b := by
  cases a with | mk x => cases b with | mk y => simp at h; rw [h]
theorem extract_list (s : ByteArray) (a b : Nat) : (s.extract a b).data.toList = (s.data.toList.drop a).take (b - a) := by
  simp [ByteArray.data_extract]
theorem extract_split (s : ByteArray) (a b c : Nat) (h1 : a ≤ b) (h2 : b ≤ c) : s.extract a c = s.extract a b ++ s.extract b c := by
  apply ba_ext
  rw [ByteArray.data_append, Array.toList_append, extract_list, extract_list, extract_list]
  rw [show c - a = (b - a) + (c - b) by omega, List.take_add, List.drop_drop, show a + (b - a) = b by omega]
theorem extract_one (s : ByteArray) (p : Nat) (h : p < s.size) (ha : bt s p < 128) : s.extract p (p + 1) = Utf8.encode ((bt s p : Nat) : Int) := by
  have v : Utf8.valid ((bt s p : Nat) : Int) = true := by simp [Utf8.valid]; omega
  apply ba_ext
  rw [extract_list]
  have hl : p < s.data.toList.length := by simpa using h
  rw [List.drop_eq_getElem_cons hl, show p + 1 - p = 1 by omega]
  have g := get_bt s p h
  have g2 : s.data.toList[p] = s[p] := by simp; rfl
  simp [Utf8.encode, v, ha, g2, g]

theorem extract_two (s : ByteArray) (p c : Nat) (h : p + 1 < s.size) (h0 : bt s p = 194) (h1 : bt s (p + 1) = c) (hc : 128 ≤ c ∧ c < 192) : s.extract p (p + 2) = Utf8.encode (c : Int) := by
  have v : Utf8.valid ((c : Nat) : Int) = true := by simp [Utf8.valid]; omega
  apply ba_ext
  rw [extract_list]
  have hl : p < s.data.toList.length := by have : p < s.size := by omega
                                           simpa using this
  have hl1 : p + 1 < s.data.toList.length := by simpa using h
  rw [List.drop_eq_getElem_cons hl, List.drop_eq_getElem_cons hl1, show p + 2 - p = 2 by omega]
  have g := get_bt s p (by omega)
  have gg := get_bt s (p + 1) h
  have g2 : s.data.toList[p] = s[p]'(by omega) := by simp; rfl
  have g3 : s.data.toList[p + 1] = s[p + 1]'h := by simp; rfl
  have e1 : 192 + c / 64 = 194 := by omega
  have e2 : 128 + c % 64 = c := by omega
  simp [Utf8.encode, v, show ¬ c < 128 by omega, show c < 2048 by omega, g2, g3, g, gg, h0, h1, e1, e2]
theorem at_frac (s : ByteArray) (p : Nat) (h : (atP s p).1 = 189 ∨ (atP s p).1 = 188 ∨ (atP s p).1 = 190) :
    p + 1 < s.size ∧ bt s p = 194 ∧ bt s (p + 1) = (atP s p).1 ∧ (atP s p).2 = 2 := by
  revert h
  unfold atP
  split
  · simp
  · split
    · simp; omega
    · split
      · simp; omega
      · split
        · simp; omega
        · simp
theorem encAll_snoc (l : List Int) (c : Int) : encAll (l ++ [c]) = encAll l ++ Utf8.encode c := by simp [encAll]

theorem digs_digB (s : ByteArray) (z : Bool) (p0 : Nat) : ∀ (f p n : Nat) (l : List Int), (z = false ∨ f ≤ 1) → p0 ≤ p → p ≤ s.size → encAll l = s.extract p0 p →
    (digs f (toks s p false)).2 = toks s (digB s z f p n).1 false ∧
    (digs f (toks s p false)).1.foldl (fun n c => 10 * n + (c - 48)) (n : Int) = ((digB s z f p n).2 : Int) ∧
    encAll (l ++ (digs f (toks s p false)).1) = s.extract p0 (digB s z f p n).1 ∧ p0 ≤ (digB s z f p n).1 ∧ (digB s z f p n).1 ≤ s.size ∧ ∀ c ∈ (digs f (toks s p false)).1, isDig c = true := by
  intro f
  induction f with
  | zero =>
    intro p n l hz h0 hp hl
    simp [digs, digB, hl, h0, hp]
  | succ f ih =>
    intro p n l hz h0 hp hl
    by_cases hd : p < s.size ∧ 48 ≤ bt s p ∧ bt s p ≤ 57
    · obtain ⟨e1, e2⟩ := tok_dig s p hd
      have hnz : ¬ (f = 1 ∧ z = true) := by
        rcases hz with hz | hz
        · simp [hz]
        · omega
      have hg : digB s z (f + 1) p n = digB s z f (p + 1) (10 * n + (bt s p - 48)) := by
        simp only [digB]
        rw [if_pos ⟨hd.1, hd.2.1, hd.2.2, hnz⟩]
      have hj : isDig (jn (toks s p false)) = true := by rw [jn_dig]; simp [hd]
      have hgs : digs (f + 1) (toks s p false) = (((bt s p : Nat) : Int) :: (digs f (toks s (p + 1) false)).1, (digs f (toks s (p + 1) false)).2) := by
        simp only [digs]
        rw [if_pos hj, e1, e2]
      rw [hg, hgs]
      have hx : encAll (l ++ [((bt s p : Nat) : Int)]) = s.extract p0 (p + 1) := by
        rw [encAll_snoc, hl, extract_split s p0 p (p + 1) h0 (by omega), extract_one s p hd.1 (by omega)]
      obtain ⟨i1, i2, i3, i4, i5, i6⟩ := ih (p + 1) (10 * n + (bt s p - 48)) (l ++ [((bt s p : Nat) : Int)]) (by rcases hz with hz | hz; exact Or.inl hz; exact Or.inr (by omega)) (by omega) (by omega) hx
      refine ⟨i1, ?_, ?_, i4, i5, ?_⟩
      · rw [List.foldl_cons, ← i2]
        congr 1
        omega
      · rw [← i3]; simp
      · intro c hc
        simp at hc
        rcases hc with rfl | hc
        · rw [← e1]; exact hj
        · exact i6 c hc
    · have hg : digB s z (f + 1) p n = (p, n) := by
        simp only [digB]
        rw [if_neg (by omega)]
      have hj : ¬ isDig (jn (toks s p false)) = true := by rw [jn_dig]; simpa using hd
      have hgs : digs (f + 1) (toks s p false) = ([], toks s p false) := by
        simp only [digs]
        rw [if_neg hj]
      rw [hg, hgs]
      simp [hl, h0, hp]

theorem filter_all (l : List Int) (h : ∀ c ∈ l, isDig c = true) : l.filter isDig = l := List.filter_eq_self.2 h
theorem numVal_plain (l : List Int) (h : ∀ c ∈ l, isDig c = true) (hne : l ≠ []) : numVal l = (l.foldl (fun n c => 10 * n + (c - 48)) 0, 1) := by
  have hlast : ∃ c, l.getLast? = some c ∧ isDig c = true := by
    refine ⟨l.getLast hne, List.getLast?_eq_some_getLast hne, h _ (List.getLast_mem hne)⟩
  obtain ⟨c, hc, hd⟩ := hlast
  unfold numVal
  rw [filter_all l h, hc]
  simp only [isDig, Bool.and_eq_true, decide_eq_true_eq] at hd
  simp only
  rw [if_neg (by omega), if_neg (by omega), if_neg (by omega)]
theorem numVal_frac (l : List Int) (c : Nat) (h : ∀ c ∈ l, isDig c = true) (hc : c = 189 ∨ c = 188 ∨ c = 190) (n : Nat) (hn : l.foldl (fun n c => 10 * n + (c - 48)) (0 : Int) = n) :
    numVal (l ++ [(c : Int)]) = ((((fracOf c n).1 : Nat) : Int), (((fracOf c n).2 : Nat) : Int)) := by
  unfold numVal
  have hf : isDig (c : Int) = false := by rcases hc with rfl | rfl | rfl <;> rfl
  rw [List.filter_append, filter_all l h, List.filter_cons, hf]
  simp only [List.getLast?_append, List.getLast?_singleton, Option.some_or]
  simp only [Bool.false_eq_true, if_false, List.filter_nil, List.append_nil, hn]
  unfold fracOf
  rcases hc with rfl | rfl | rfl <;> simp

/-- The part of a numeral behind its digits. -/
theorem frac_eq (s : ByteArray) (p n : Nat) (l : List Int) (p0 : Nat) (h : ∀ c ∈ l, isDig c = true) (hne : l ≠ []) (hn : l.foldl (fun n c => 10 * n + (c - 48)) (0 : Int) = n) (h0 : p0 ≤ p) (hp : p ≤ s.size) (hl : encAll l = s.extract p0 p) :
    numVal (l ++ (fracT (toks s p false)).1) = ((((fracOf (atP s p).1 n).1 : Nat) : Int), (((fracOf (atP s p).1 n).2 : Nat) : Int)) ∧
    (fracT (toks s p false)).2 = toks s (if (fracOf (atP s p).1 n).2 = 1 then p else p + (atP s p).2) false ∧
    encAll (l ++ (fracT (toks s p false)).1) = s.extract p0 (if (fracOf (atP s p).1 n).2 = 1 then p else p + (atP s p).2) ∧ (if (fracOf (atP s p).1 n).2 = 1 then p else p + (atP s p).2) ≤ s.size := by
  by_cases hc : (atP s p).1 = 189 ∨ (atP s p).1 = 188 ∨ (atP s p).1 = 190
  · obtain ⟨k1, k2, k3, k4⟩ := at_frac s p hc
    have hd := at_dec s p (by omega)
    have hdec : atP s p = Utf8.decode s p := by
      split at hd
      · exact hd
      · rw [hd] at hc; simp at hc
    have hj : jn (toks s p false) = ((atP s p).1 : Int) := by
      rw [jn_tok, if_pos ⟨by omega, by omega⟩, hdec]
    have hf : isFrac (jn (toks s p false)) = true := by
      rw [hj]; unfold isFrac; rcases hc with e | e | e <;> rw [e] <;> rfl
    have ht : (toks s p false).tail = toks s (p + (atP s p).2) false := by
      rw [toks_cons s p false (by omega) (by omega), hdec]; rfl
    have hden : ¬ (fracOf (atP s p).1 n).2 = 1 := by
      unfold fracOf; rcases hc with e | e | e <;> rw [e] <;> simp
    have hft : fracT (toks s p false) = ([((atP s p).1 : Int)], toks s (p + (atP s p).2) false) := by
      unfold fracT
      rw [if_pos hf, hj, ht]
    rw [hft, if_neg hden]
    refine ⟨numVal_frac l _ h hc n hn, rfl, ?_, by rw [k4]; omega⟩
    rw [encAll_snoc, hl, extract_split s p0 p _ h0 (Nat.le_add_right _ _), k4, extract_two s p (atP s p).1 k1 k2 k3 (by omega)]
  · have hden : fracOf (atP s p).1 n = (n, 1) := by
      unfold fracOf
      rw [if_neg (by omega), if_neg (by omega), if_neg (by omega)]
    have hf : ¬ isFrac (jn (toks s p false)) = true := by
      rw [jn_tok]
      by_cases hb : p < s.size ∧ ¬ bt s p = 32
      · rw [if_pos hb]
        intro hfr
        have hd := at_dec s p hb.1
        unfold isFrac at hfr
        simp at hfr
        have hk : known (Utf8.decode s p).1 = true := by unfold known; simp; omega
        rw [if_pos hk] at hd
        rw [hd] at hc
        omega
      · rw [if_neg hb]; decide
    have hft : fracT (toks s p false) = ([], toks s p false) := by
      unfold fracT
      rw [if_neg hf]
    rw [hft, hden, if_pos rfl, List.append_nil]
    refine ⟨?_, rfl, hl, hp⟩
    rw [numVal_plain l h hne, hn]
    rfl

set_option maxRecDepth 100000 in
theorem num_eq (s : ByteArray) (j : Nat) (ap : Bool) (hj : j < s.size) (hb : ¬ bt s j = 32) (hc : (isDig (hd (toks s j ap)) || isFrac (hd (toks s j ap))) = true) :
    numNd (toks s j ap) = numB s j ∧ (numT (toks s j ap)).2 = toks s (numEnd2 s j) false ∧ numEnd2 s j ≤ s.size := by
  have hts := toks_cons s j ap hj hb
  have hhd : hd (toks s j ap) = ((Utf8.decode s j).1 : Int) := by rw [hts]; rfl
  have hhp : hp (toks s j ap) = j := by rw [hts]; rfl
  have htl : (toks s j ap).tail = toks s (j + (Utf8.decode s j).2) false := by rw [hts]; rfl
  by_cases hfr : isFrac (hd (toks s j ap)) = true
  · have hfr2 := hfr
    rw [hhd] at hfr2
    unfold isFrac at hfr2
    simp at hfr2
    have hk : known (Utf8.decode s j).1 = true := by unfold known; simp; omega
    have hd := at_dec s j hj
    rw [if_pos hk] at hd
    have hcc : (atP s j).1 = 189 ∨ (atP s j).1 = 188 ∨ (atP s j).1 = 190 := by rw [hd]; omega
    obtain ⟨k1, k2, k3, k4⟩ := at_frac s j hcc
    have hg : (j, 0) = digB s (bt s j == 48) 3 j 0 := by
      simp only [digB]
      rw [if_neg (by omega)]
    have hden : ¬ (fracOf (atP s j).1 0).2 = 1 := by
      unfold fracOf; rcases hcc with e | e | e <;> rw [e] <;> simp
    obtain ⟨e1, e2⟩ := numB_eq s j j 0 (fracOf (atP s j).1 0).1 (fracOf (atP s j).1 0).2 hg rfl
    have hnt : numT (toks s j ap) = ([((atP s j).1 : Int)], toks s (j + (atP s j).2) false) := by
      unfold numT
      rw [if_pos hfr, hhd, htl, hd]
    have hv := numVal_frac [] (atP s j).1 (by simp) hcc 0 rfl
    simp only [List.nil_append] at hv
    rw [if_neg hden] at e1 e2
    refine ⟨?_, ?_, ?_⟩
    · rw [e2]
      unfold numNd
      rw [hnt, hv, hhp]
      have := extract_two s j (atP s j).1 k1 k2 k3 (by omega)
      rw [k4, this]
      simp [encAll]
    · rw [hnt, e1]
    · rw [e1, k4]; omega
  · have hdg : isDig (hd (toks s j ap)) = true := by
      rw [Bool.or_eq_true] at hc
      rcases hc with h | h
      · exact h
      · exact absurd h hfr
    have hdg2 := hdg
    rw [hhd] at hdg2
    unfold isDig at hdg2
    simp at hdg2
    have hlow : bt s j < 128 := by
      apply Nat.lt_of_not_le
      intro hge
      have := (decode_high s j hj (by rw [bt_get]; exact hge)).1
      omega
    have hdec := dec_one s j hj hlow
    rw [hdec] at hhd htl hdg2
    simp only at hhd htl hdg2
    have main : ∃ ds p n, (if hd (toks s j ap) = 48 then ([], (toks s j ap).tail) else digs 2 (toks s j ap).tail) = (ds, toks s p false) ∧ (p, n) = digB s (bt s j == 48) 3 j 0 ∧
        (((bt s j : Nat) : Int) :: ds).foldl (fun n c => 10 * n + (c - 48)) (0 : Int) = n ∧ encAll (((bt s j : Nat) : Int) :: ds) = s.extract j p ∧ (∀ c ∈ ((bt s j : Nat) : Int) :: ds, isDig c = true) ∧ j ≤ p ∧ p ≤ s.size := by
      have x1 : encAll [((bt s j : Nat) : Int)] = s.extract j (j + 1) := by
        rw [extract_one s j hj hlow]; simp [encAll]
      have hd1 : isDig ((bt s j : Nat) : Int) = true := by rw [← hhd]; exact hdg
      have g3 : digB s (bt s j == 48) 3 j 0 = digB s (bt s j == 48) 2 (j + 1) (10 * 0 + (bt s j - 48)) := by
        rw [digB, if_pos ⟨hj, by omega, by omega, by simp⟩]
      by_cases h48 : bt s j = 48
      · refine ⟨[], j + 1, 0, ?_, ?_, ?_, x1, ?_, by omega, by omega⟩
        · rw [if_pos (by rw [hhd]; omega), htl]
        · rw [g3, h48, digB, if_neg (by simp)]
        · simp; omega
        · intro c hc'; simp at hc'; rw [hc']; exact hd1
      · have hzz : (bt s j == 48) = false := by simp [h48]
        obtain ⟨i1, i2, i3, i4, i5, i6⟩ := digs_digB s (bt s j == 48) j 2 (j + 1) (10 * 0 + (bt s j - 48)) [((bt s j : Nat) : Int)] (Or.inl hzz) (by omega) (by omega) x1
        refine ⟨(digs 2 (toks s (j + 1) false)).1, (digB s (bt s j == 48) 2 (j + 1) (10 * 0 + (bt s j - 48))).1, (digB s (bt s j == 48) 2 (j + 1) (10 * 0 + (bt s j - 48))).2, ?_, ?_, ?_, i3, ?_, i4, i5⟩
        · rw [if_neg (by rw [hhd]; omega), htl, ← i1]
        · rw [g3]
        · rw [List.foldl_cons, ← i2]
          congr 1
          omega
        · intro c hc'
          simp at hc'
          rcases hc' with rfl | hc'
          · exact hd1
          · exact i6 c hc'
    obtain ⟨ds, p, n, m1, m2, m3, m4, m5, m6, m7⟩ := main
    obtain ⟨f1, f2, f3, f4⟩ := frac_eq s p n (((bt s j : Nat) : Int) :: ds) j m5 (by simp) m3 m6 m7 m4
    obtain ⟨e1, e2⟩ := numB_eq s j p n (fracOf (atP s p).1 n).1 (fracOf (atP s p).1 n).2 m2 rfl
    have hnt : numT (toks s j ap) = (((bt s j : Nat) : Int) :: ds ++ (fracT (toks s p false)).1, (fracT (toks s p false)).2) := by
      unfold numT
      rw [if_neg hfr]
      simp only [m1]
      rw [hhd]
    refine ⟨?_, ?_, ?_⟩
    · rw [e2]
      unfold numNd
      rw [hnt, f1, hhp, f3]
    · rw [hnt, e1]; exact f2
    · rw [e1]; exact f4

/-- What holds of every reading: lengths; the list grows at its end; the root is in it. -/
structure PInv (tag k : Nat) (ts : List Tok) (L : List Nd) (R : Res) : Prop where
  len : R.L.length + R.ts.length ≤ L.length + ts.length
  le : R.ts.length ≤ ts.length
  lt : R.ok = true → tag < 4 → R.ts.length < ts.length
  pre : ∃ M, R.L = L ++ M
  kk : R.ok = true → (tag < 4 ∨ k < L.length) → R.k < R.L.length

/-- One reading behind another one. -/
theorem PInv.seq {tag k tag' k' tag2 : Nat} {ts : List Tok} {L : List Nd} {R R' : Res} (h : PInv tag k ts L R) (hok : R.ok = true) (ht : tag < 4) (h2 : PInv tag' R.k R.ts R.L R') : PInv tag2 k' ts L R' := by
  have a := h.lt hok ht
  have b := h.kk hok (Or.inl ht)
  obtain ⟨M, hM⟩ := h.pre
  obtain ⟨M', hM'⟩ := h2.pre
  have h21 := h2.len
  have h22 := h2.le
  have h11 := h.len
  exact ⟨by omega, by omega, fun _ _ => by omega, ⟨M ++ M', by rw [hM', hM, List.append_assoc]⟩, fun o _ => h2.kk o (Or.inr b)⟩
/-- A reading of what is behind the first sign. -/
theorem PInv.behind {tag k tag2 k2 : Nat} {ts : List Tok} {L : List Nd} {R : Res} (h : PInv tag k ts.tail L R) (hn : 1 ≤ ts.length) (ht : tag < 4) : PInv tag2 k2 ts L R := by
  have h1 := h.len
  have h2 := h.le
  simp at h1 h2
  exact ⟨by omega, by omega, fun _ _ => by omega, h.pre, fun o _ => h.kk o (Or.inl ht)⟩
/-- .. and one node more. -/
theorem PInv.node {tag k tag2 k2 : Nat} {ts : List Tok} {L : List Nd} {R : Res} (h : PInv tag k ts.tail L R) (hn : 1 ≤ ts.length) (n : Nd) : PInv tag2 k2 ts L ⟨true, R.L.length, R.L ++ [n], R.ts⟩ := by
  have h1 := h.len
  have h2 := h.le
  simp at h1 h2
  obtain ⟨M, hM⟩ := h.pre
  exact ⟨by simp; omega, by simp; omega, fun _ _ => by simp; omega, ⟨M ++ [n], by simp [hM]⟩, fun _ _ => by simp⟩

theorem pp_inv : ∀ (f tag k : Nat) (ts : List Tok) (L : List Nd), PInv tag k ts L (pp f tag k ts L) := by
  intro f
  induction f with
  | zero => intro tag k ts L; exact ⟨by simp [pp], by simp [pp], fun h => by simp [pp] at h, ⟨[], by simp [pp]⟩, fun h => by simp [pp] at h⟩
  | succ f ih =>
    intro tag k ts L
    have stop : ∀ tg kk, 4 ≤ tg → PInv tg kk ts L ⟨true, kk, L, ts⟩ := fun tg kk h4 =>
      ⟨Nat.le_refl _, Nat.le_refl _, fun _ h => by omega, ⟨[], by simp⟩, fun _ h => (by rcases h with h | h; omega; exact h)⟩
    have fail : ∀ tg kk k0 (L' : List Nd) (ts' : List Tok), L'.length + ts'.length ≤ L.length + ts.length → ts'.length ≤ ts.length → (∃ M, L' = L ++ M) → PInv tg kk ts L ⟨false, k0, L', ts'⟩ := fun tg kk k0 L' ts' a b c =>
      ⟨a, b, fun h => (by cases h), c, fun h => (by cases h)⟩
    match tag with
    | 0 =>
      simp only [pp]
      have h1 := ih 1 0 ts L
      split
      · rename_i ho
        exact h1.seq ho (by decide) (ih 4 _ _ _)
      · rename_i ho
        exact ⟨h1.len, h1.le, fun h => absurd h ho, h1.pre, fun h => absurd h ho⟩
    | 1 =>
      simp only [pp]
      have h1 := ih 2 0 ts L
      split
      · rename_i ho
        exact h1.seq ho (by decide) (ih 5 _ _ _)
      · rename_i ho
        exact ⟨h1.len, h1.le, fun h => absurd h ho, h1.pre, fun h => absurd h ho⟩
    | 2 =>
      simp only [pp]
      split
      · rename_i hm
        have hn : 1 ≤ ts.length := ne_of_hd (by rw [hm]; decide)
        have h1 := ih 2 0 ts.tail L
        split
        · exact h1.node hn _
        · exact h1.behind hn (by decide)
      · have h1 := ih 3 0 ts L
        split
        · rename_i ho
          exact h1.seq ho (by decide) (ih 6 _ _ _)
        · rename_i ho
          exact ⟨h1.len, h1.le, fun h => absurd h ho, h1.pre, fun h => absurd h ho⟩
    | 3 =>
      simp only [pp]
      split
      · rename_i hd1
        have hn : hd ts ≠ -1 := by
          intro h; rw [h] at hd1; revert hd1; decide
        have := numT_len ts hn
        exact ⟨by simp; omega, by simp; omega, fun _ _ => by simp; omega, ⟨_, rfl⟩, fun _ _ => by simp⟩
      · split
        · rename_i hd1
          have hn : 1 ≤ ts.length := ne_of_hd (by
            intro h; rw [h] at hd1; revert hd1; decide)
          exact ⟨by simp; omega, by simp, fun _ _ => by simp; omega, ⟨_, rfl⟩, fun _ _ => by simp⟩
        · split
          · rename_i hd1
            have hn : 1 ≤ ts.length := ne_of_hd (by rw [hd1]; decide)
            have h1 := ih 0 0 ts.tail L
            have l1 := h1.len
            have l2 := h1.le
            simp at l1 l2
            split
            · rename_i ho
              split
              · exact ⟨by simp; omega, by simp; omega, fun _ _ => by simp; omega, h1.pre, fun _ _ => h1.kk ho (Or.inl (by decide))⟩
              · exact fail _ _ _ _ _ (by omega) (by omega) h1.pre
            · exact h1.behind hn (by decide)
          · exact fail _ _ _ _ _ (Nat.le_refl _) (Nat.le_refl _) ⟨[], by simp⟩
    | 4 =>
      simp only [pp]
      split
      · rename_i hm
        have hn : 1 ≤ ts.length := ne_of_hd (by intro h; rw [h] at hm; revert hm; decide)
        have h1 := ih 1 0 ts.tail L
        split
        · exact (h1.node (tag2 := 3) (k2 := 0) hn (opNd (hd ts) k (pp f 1 0 ts.tail L).k (hp ts))).seq rfl (by decide) (ih 4 _ _ _)
        · exact h1.behind hn (by decide)
      · exact stop _ _ (by decide)
    | 5 =>
      simp only [pp]
      split
      · rename_i hm
        have hn : 1 ≤ ts.length := ne_of_hd (by intro h; rw [h] at hm; revert hm; decide)
        have h1 := ih 2 0 ts.tail L
        split
        · exact (h1.node (tag2 := 3) (k2 := 0) hn (opNd (hd ts) k (pp f 2 0 ts.tail L).k (hp ts))).seq rfl (by decide) (ih 5 _ _ _)
        · exact h1.behind hn (by decide)
      · exact stop _ _ (by decide)
    | n + 6 =>
      simp only [pp]
      split
      · rename_i hm
        have hn : 1 ≤ ts.length := ne_of_hd (by intro h; rw [h] at hm; revert hm; decide)
        have h2 := ih 6 L.length ts.tail (L ++ [opNd (hd ts) k 0 (hp ts)])
        have l1 := h2.len
        have l2 := h2.le
        simp at l1 l2
        obtain ⟨M, hM⟩ := h2.pre
        exact ⟨by omega, by omega, fun _ h => by omega, ⟨[opNd (hd ts) k 0 (hp ts)] ++ M, by rw [hM]; simp⟩, fun o _ => h2.kk o (Or.inr (by simp))⟩
      · exact stop _ _ (by omega)
end Go.Proofs.YtodabmkcihafhaaGreatDoor
