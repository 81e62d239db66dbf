import Derived.Shelf.Unicode.DecodeAny
import Derived.Lib.LaidU8
import Derived.Test.YtodabmkcihafhaaGreatDoorProg
import GoSem.Core.Utf8
import Derived.Laws.RangeString
import Derived.Laws.RangeAny
import Derived.Test.YtodabmkcihafhaaGreatDoorRows
import Derived.WalkKit
import Derived.WalkSpells
import Derived.WalkLawsBesides
import Derived.Deep.QuietTactic
import Derived.BigQuiet
import Derived.Shelf.Small.Utf8
import Derived.Shelf.Small.Strs
import Derived.Shelf.Strings.Search1
import Derived.Shelf.Strings.Runes

/- The library's decoder of UTF-8, laid over this program. -/
namespace Go.Proofs.YtodabmkcihafhaaGreatDoor
open Go.Shelf Go.RowKit
def ren197 : Go.Shelf.Ren := ⟨fun | 197 => 64 | 260 => 94 | n => n, fun | 0 => 0 | 3 => 3 | 4 => 4 | 5 => 5 | 9 => 9 | 21 => 21 | 46 => 240 | 105 => 145 | 119 => 239 | 138 => 242 | 139 => 243 | n => n, fun | 3 => 0 | 4 => 1 | n => n⟩
theorem lays197 : Go.Proofs.Lays.n197 Tryz.prog ren197 := {
  mixed := by kernel_rfl
  f197 := Tryz.func64.trans (congrArg some (by kernel_rfl))
  f260 := Tryz.func94.trans (congrArg some (by kernel_rfl))
  t0 := Tryz.underlying0
  a0 := Tryz.isAgg0
  z0 := Tryz.sizeOf0
  v0 := Tryz.zeroValue0
  t3 := Tryz.underlying3
  a3 := Tryz.isAgg3
  z3 := Tryz.sizeOf3
  v3 := Tryz.zeroValue3
  t4 := Tryz.underlying4
  a4 := Tryz.isAgg4
  z4 := Tryz.sizeOf4
  v4 := Tryz.zeroValue4
  t5 := Tryz.underlying5
  a5 := Tryz.isAgg5
  z5 := Tryz.sizeOf5
  v5 := Tryz.zeroValue5
  t9 := Tryz.underlying9
  a9 := Tryz.isAgg9
  z9 := Tryz.sizeOf9
  v9 := Tryz.zeroValue9
  t21 := Tryz.underlying21
  a21 := Tryz.isAgg21
  z21 := Tryz.sizeOf21
  v21 := Tryz.zeroValue21
  t46 := Tryz.underlying240
  a46 := Tryz.isAgg240
  z46 := Tryz.sizeOf240
  v46 := Tryz.zeroValue240
  t105 := Tryz.underlying145
  a105 := Tryz.isAgg145
  z105 := Tryz.sizeOf145
  v105 := Tryz.zeroValue145
  t119 := Tryz.underlying239
  a119 := Tryz.isAgg239
  z119 := Tryz.sizeOf239
  t138 := Tryz.underlying242
  a138 := Tryz.isAgg242
  z138 := Tryz.sizeOf242
  v138 := Tryz.zeroValue242
  t139 := Tryz.underlying243
  a139 := Tryz.isAgg243
  z139 := Tryz.sizeOf243
  v139 := Tryz.zeroValue243
  g3 := by kernel_rfl
  g4 := by kernel_rfl }
def ren260 : Go.Shelf.Ren := ⟨fun | 260 => 94 | n => n, fun | 0 => 0 | 3 => 3 | 4 => 4 | 5 => 5 | 9 => 9 | 21 => 21 | 46 => 240 | 119 => 239 | 138 => 242 | 139 => 243 | n => n, fun | 3 => 0 | 4 => 1 | n => n⟩
theorem lays260 : Go.Proofs.Lays.n260 Tryz.prog ren260 := {
  mixed := by kernel_rfl
  f260 := Tryz.func94.trans (congrArg some (by kernel_rfl))
  t0 := Tryz.underlying0
  a0 := Tryz.isAgg0
  z0 := Tryz.sizeOf0
  v0 := Tryz.zeroValue0
  t3 := Tryz.underlying3
  a3 := Tryz.isAgg3
  z3 := Tryz.sizeOf3
  v3 := Tryz.zeroValue3
  t4 := Tryz.underlying4
  a4 := Tryz.isAgg4
  z4 := Tryz.sizeOf4
  v4 := Tryz.zeroValue4
  t5 := Tryz.underlying5
  a5 := Tryz.isAgg5
  z5 := Tryz.sizeOf5
  v5 := Tryz.zeroValue5
  t9 := Tryz.underlying9
  a9 := Tryz.isAgg9
  z9 := Tryz.sizeOf9
  v9 := Tryz.zeroValue9
  t21 := Tryz.underlying21
  a21 := Tryz.isAgg21
  z21 := Tryz.sizeOf21
  v21 := Tryz.zeroValue21
  t46 := Tryz.underlying240
  a46 := Tryz.isAgg240
  z46 := Tryz.sizeOf240
  v46 := Tryz.zeroValue240
  t119 := Tryz.underlying239
  a119 := Tryz.isAgg239
  z119 := Tryz.sizeOf239
  t138 := Tryz.underlying242
  a138 := Tryz.isAgg242
  z138 := Tryz.sizeOf242
  v138 := Tryz.zeroValue242
  t139 := Tryz.underlying243
  a139 := Tryz.isAgg243
  z139 := Tryz.sizeOf243
  v139 := Tryz.zeroValue243
  g3 := by kernel_rfl
  g4 := by kernel_rfl }
theorem u8extra : U8Extra Tryz.prog ren260 := ⟨by kernel_rfl, by kernel_rfl, by kernel_rfl, by kernel_rfl, by kernel_rfl, by kernel_rfl, by kernel_rfl⟩
/-- unicode/utf8's two tables, as they are laid. -/
abbrev U8T (w : World) : Prop := Lib.Utf8Tabs 0 1 w
theorem decodeIn_any (s : ByteArray) (w : World) (h : U8T w) : Calls Tryz.prog 64 #[.string s] w fun e w' => e = .returned (.tuple #[.int .i32 (Lib.decodeGo s).1, .int .i64 (Lib.decodeGo s).2]) ∧ Below w.heap.size w w' := Any.utf8_DecodeRuneInString lays197 s w h
theorem u8t_of_reads {w : World} (h3 : Lib.VarReads Tryz.prog w "unicode/utf8.first" Lib.firstData) (h4 : Lib.VarReads Tryz.prog w "unicode/utf8.acceptRanges" Lib.acceptData) : U8T w := utf8Tabs_of_reads lays260 u8extra h3 h4
end Go.Proofs.YtodabmkcihafhaaGreatDoor

/- Plain functions and laws: bytes, signs, the reading of an expression as a list of nodes. Nothing of the program. -/
namespace Go.Proofs.YtodabmkcihafhaaGreatDoor

/-- The byte at a place (0 behind the end). -/
def bt (s : ByteArray) (i : Nat) : Nat := (s.get! i).toNat
theorem bt_get (s : ByteArray) (i : Nat) (h : i < s.size) : (s[i]'h).toNat = bt s i := by
  unfold bt
  congr 1
  have : s.get! i = s.data[i]! := rfl
  rw [this]
  have h' : i < s.data.size := h
  rw [getElem!_pos s.data i h']
  rfl
theorem bt_lt (s : ByteArray) (i : Nat) : bt s i < 256 := (s.get! i).toNat_lt
def atP (s : ByteArray) (i : Nat) : Nat × Nat :=
  if s.size ≤ i then (0, 0)
  else if bt s i < 128 then (bt s i, 1)
  else if 194 ≤ bt s i ∧ bt s i ≤ 223 ∧ i + 1 < s.size ∧ bt s (i + 1) / 64 = 2 then (bt s i % 32 * 64 + bt s (i + 1) % 64, 2)
  else if bt s i = 226 ∧ i + 2 < s.size ∧ bt s (i + 1) / 64 = 2 ∧ bt s (i + 2) / 64 = 2 then (8192 + bt s (i + 1) % 64 * 64 + bt s (i + 2) % 64, 3)
  else (0, 0)
def known (r : Nat) : Bool := r < 2048 || (8192 ≤ r && r < 12288)
theorem at_dec (s : ByteArray) (i : Nat) (h : i < s.size) :
    atP s i = if known (Utf8.decode s i).1 then Utf8.decode s i else (0, 0) := by
  have e0 : (s.get! (i + 0)).toNat = bt s i := rfl
  have e1 : (s.get! (i + 1)).toNat = bt s (i + 1) := rfl
  have e2 : (s.get! (i + 2)).toNat = bt s (i + 2) := rfl
  have e3 : (s.get! (i + 3)).toNat = bt s (i + 3) := rfl
  have l0 := bt_lt s i
  have l1 := bt_lt s (i + 1)
  have l2 := bt_lt s (i + 2)
  have l3 := bt_lt s (i + 3)
  unfold atP Utf8.decode Utf8.valid known
  simp only [e0, e1, e2, e3, Utf8.runeError]
  generalize bt s i = a at *
  generalize bt s (i + 1) = b at *
  generalize bt s (i + 2) = c at *
  generalize bt s (i + 3) = d at *
  clear e0 e1 e2 e3
  rw [if_neg (by omega)]
  by_cases A : a < 128
  · simp only [A, if_true]; simp; omega
  simp only [A, if_false]
  by_cases B : a / 32 = 6
  · have B' : ¬ a = 226 := by omega
    have B2 : ¬ a / 16 = 14 := by omega
    have B3 : ¬ a / 8 = 30 := by omega
    by_cases C : i + 1 < s.size ∧ b / 64 = 2
    · by_cases D : 194 ≤ a
      · have D' : 128 ≤ a % 32 * 64 + b % 64 := by omega
        have D2 : a ≤ 223 := by omega
        simp [B, C, D, D', D2]; omega
      · have D' : ¬ 128 ≤ a % 32 * 64 + b % 64 := by omega
        have D2 : a % 32 * 64 + b % 64 < 128 := by omega
        simp [B, C, D, D', B']
    · simp only [B', false_and, if_false]
      rw [if_neg (by omega)]
      have : ((a / 32 == 6 && (decide (i + 1 < s.size) && b / 64 == 2))) = false := by
        rw [Bool.eq_false_iff]; simp; omega
      rw [this]; simp [B2, B3]
  · have b1 : (a / 32 == 6) = false := by simp [B]
    rw [if_neg (show ¬ (194 ≤ a ∧ a ≤ 223 ∧ i + 1 < s.size ∧ b / 64 = 2) by omega)]
    simp only [b1, Bool.false_and]
    by_cases E : a = 226 ∧ i + 2 < s.size ∧ b / 64 = 2 ∧ c / 64 = 2
    · obtain ⟨E0, E1, E2, E3⟩ := E
      have D1 : i + 1 < s.size := by omega
      have R1 : 2048 ≤ 8192 + b % 64 * 64 + c % 64 := by omega
      have R2 : (8192 + b % 64 * 64 + c % 64 : Int) < 55296 := by omega
      have R3 : (0 : Int) ≤ 8192 + b % 64 * 64 + c % 64 := by omega
      have R4 : 8192 + b % 64 * 64 + c % 64 < 12288 := by omega
      have R5 : 8192 ≤ 8192 + b % 64 * 64 + c % 64 := by omega
      subst E0
      simp [E1, E2, E3, D1, R1, R2, R3, R4, R5]
    · rw [if_neg E]
      have nk : ∀ X : Nat × Nat, (2048 ≤ X.1 ∧ (X.1 < 8192 ∨ 12288 ≤ X.1)) → (0, 0) = if (decide (X.1 < 2048) || (decide (8192 ≤ X.1) && decide (X.1 < 12288))) = true then X else (0, 0) := by
        intro X hX
        rw [if_neg]
        simp
        omega
      apply nk
      repeat' split
      all_goals simp_all
      all_goals omega

/-- A sign of a text: its rune (-1: none, at the end), its place, whether a blank stands ahead of it. -/
structure Tok where
  c : Int
  p : Nat
  a : Bool

def toksF (s : ByteArray) : Nat → Nat → Bool → List Tok
  | 0, _, ap => [⟨-1, s.size, ap⟩]
  | f + 1, i, ap =>
    if i < s.size then
      (if (Utf8.decode s i).1 = 32 then toksF s f (i + (Utf8.decode s i).2) true
       else ⟨(Utf8.decode s i).1, i, ap⟩ :: toksF s f (i + (Utf8.decode s i).2) false)
    else [⟨-1, s.size, ap⟩]
/-- The signs from a place on. -/
def toks (s : ByteArray) (i : Nat) (ap : Bool) : List Tok := toksF s (s.size - i) i ap

theorem dec_pos (s : ByteArray) (i : Nat) (h : i < s.size) : 1 ≤ (Utf8.decode s i).2 := by
  by_cases ha : (s[i]'h).toNat < 128
  · rw [decode_ascii s i h ha]
    exact Nat.le_refl _
  · exact (decode_high s i h (by omega)).2

theorem toksF_stable (s : ByteArray) : ∀ (f g i : Nat) (ap : Bool), s.size ≤ i + f → s.size ≤ i + g → toksF s f i ap = toksF s g i ap := by
  intro f
  induction f with
  | zero =>
    intro g i ap hf hg
    cases g with
    | zero => rfl
    | succ g => simp [toksF, show ¬ i < s.size by omega]
  | succ f ih =>
    intro g i ap hf hg
    cases g with
    | zero => simp [toksF, show ¬ i < s.size by omega]
    | succ g =>
      by_cases h : i < s.size
      · have hd := dec_pos s i h
        simp only [toksF, h, if_true]
        rw [ih g _ true (by omega) (by omega), ih g _ false (by omega) (by omega)]
      · simp [toksF, h]

theorem toks_end (s : ByteArray) (i : Nat) (ap : Bool) (h : s.size ≤ i) : toks s i ap = [⟨-1, s.size, ap⟩] := by
  unfold toks
  rw [show s.size - i = 0 by omega]
  rfl
theorem toks_step (s : ByteArray) (i : Nat) (ap : Bool) (h : i < s.size) :
    toks s i ap = if (Utf8.decode s i).1 = 32 then toks s (i + (Utf8.decode s i).2) true else ⟨(Utf8.decode s i).1, i, ap⟩ :: toks s (i + (Utf8.decode s i).2) false := by
  have hd := dec_pos s i h
  unfold toks
  obtain ⟨f, hf⟩ : ∃ f, s.size - i = f + 1 := ⟨s.size - i - 1, by omega⟩
  rw [hf]
  simp only [toksF, h, if_true]
  rw [toksF_stable s f (s.size - (i + (Utf8.decode s i).2)) _ true (by omega) (by omega), toksF_stable s f (s.size - (i + (Utf8.decode s i).2)) _ false (by omega) (by omega)]
theorem toks_blank (s : ByteArray) (i : Nat) (ap : Bool) (h : i < s.size) (hb : bt s i = 32) : toks s i ap = toks s (i + 1) true := by
  have ha : (s[i]'h).toNat = 32 := by rw [bt_get]; exact hb
  have hd : Utf8.decode s i = (32, 1) := by rw [decode_ascii s i h (by omega), ha]
  rw [toks_step s i ap h, hd]
  rfl
theorem toks_length (s : ByteArray) : ∀ (f i : Nat) (ap : Bool), (toksF s f i ap).length ≤ f + 1 := by
  intro f
  induction f with
  | zero => intro i ap; simp [toksF]
  | succ f ih =>
    intro i ap
    simp only [toksF]
    split
    · split
      · have := ih (i + (Utf8.decode s i).2) true; omega
      · have := ih (i + (Utf8.decode s i).2) false; simp; omega
    · simp

/-- Over the blanks at a place. -/
def skipF (s : ByteArray) : Nat → Nat → Nat
  | 0, i => i
  | f + 1, i => if i < s.size ∧ bt s i = 32 then skipF s f (i + 1) else i
def skipB (s : ByteArray) (i : Nat) : Nat := skipF s (s.size - i) i
theorem skipF_stable (s : ByteArray) : ∀ (f g i : Nat), s.size ≤ i + f → s.size ≤ i + g → skipF s f i = skipF s g i := by
  intro f
  induction f with
  | zero =>
    intro g i hf hg
    cases g with
    | zero => rfl
    | succ g => simp [skipF, show ¬ i < s.size by omega]
  | succ f ih =>
    intro g i hf hg
    cases g with
    | zero => simp [skipF, show ¬ i < s.size by omega]
    | succ g =>
      by_cases h : i < s.size ∧ bt s i = 32
      · simp only [skipF, h, and_self, if_true]
        exact ih g _ (by omega) (by omega)
      · simp [skipF, h]
theorem skipB_on (s : ByteArray) (i : Nat) (h : i < s.size) (hb : bt s i = 32) : skipB s i = skipB s (i + 1) := by
  unfold skipB
  obtain ⟨f, hf⟩ : ∃ f, s.size - i = f + 1 := ⟨s.size - i - 1, by omega⟩
  rw [hf]
  simp only [skipF, h, hb, and_self, if_true]
  exact skipF_stable s _ _ _ (by omega) (by omega)
theorem skipB_off (s : ByteArray) (i : Nat) (h : ¬ (i < s.size ∧ bt s i = 32)) : skipB s i = i := by
  unfold skipB
  cases s.size - i with
  | zero => rfl
  | succ f => simp [skipF, h]
theorem skipF_le (s : ByteArray) : ∀ (f i : Nat), i ≤ s.size → i ≤ skipF s f i ∧ skipF s f i ≤ s.size := by
  intro f
  induction f with
  | zero => intro i h; exact ⟨Nat.le_refl _, h⟩
  | succ f ih =>
    intro i h
    simp only [skipF]
    split
    · have := ih (i + 1) (by omega); omega
    · omega
theorem skipB_le (s : ByteArray) (i : Nat) (h : i ≤ s.size) : skipB s i ≤ s.size := (skipF_le s _ i h).2
theorem skipB_ge (s : ByteArray) (i : Nat) (h : i ≤ s.size) : i ≤ skipB s i := (skipF_le s _ i h).1

/-- The first of the signs that are left. -/
def hd (ts : List Tok) : Int := match ts with | [] => -1 | t :: _ => t.c
def hp (ts : List Tok) : Nat := match ts with | [] => 0 | t :: _ => t.p
/-- The first, if no blank parts it from what was ahead. -/
def jn (ts : List Tok) : Int := match ts with | [] => -1 | t :: _ => if t.a then -1 else t.c

def isDig (c : Int) : Bool := 48 ≤ c && c ≤ 57
def isFrac (c : Int) : Bool := c == 189 || c == 188 || c == 190
def isMk (c : Int) : Bool := c == 178 || c == 8242
def isNm (c : Int) : Bool := 945 ≤ c && c ≤ 969
def inRow (level : Nat) (c : Int) : Bool := if level = 0 then c == 43 || c == 8722 else c == 215 || c == 247

/-- A node of the document's list. -/
structure Nd where
  op : Int
  a : Nat
  b : Nat
  num : Int
  den : Int
  text : ByteArray
  pl : Nat

/-- The digits of a numeral: up to n more, joined. -/
def digs : Nat → List Tok → List Int × List Tok
  | 0, ts => ([], ts)
  | n + 1, ts => if isDig (jn ts) then ((jn ts) :: (digs n ts.tail).1, (digs n ts.tail).2) else ([], ts)
def fracT (ts : List Tok) : List Int × List Tok := if isFrac (jn ts) then ([jn ts], ts.tail) else ([], ts)
/-- A numeral: its runes, and what is left. -/
def numT (ts : List Tok) : List Int × List Tok :=
  if isFrac (hd ts) then ([hd ts], ts.tail)
  else
    let d := if hd ts = 48 then ([], ts.tail) else digs 2 ts.tail
    let f := fracT d.2
    (hd ts :: d.1 ++ f.1, f.2)
def encAll (l : List Int) : ByteArray := l.foldl (fun acc c => acc ++ Utf8.encode c) ByteArray.empty
def numVal (l : List Int) : Int × Int :=
  let n := (l.filter isDig).foldl (fun n c => 10 * n + (c - 48)) 0
  match l.getLast? with
  | some c => if c = 189 then (2 * n + 1, 2) else if c = 188 then (4 * n + 1, 4) else if c = 190 then (4 * n + 3, 4) else (n, 1)
  | none => (n, 1)
def numNd (ts : List Tok) : Nd := { op := 48, a := 0, b := 0, num := (numVal (numT ts).1).1, den := (numVal (numT ts).1).2, text := encAll (numT ts).1, pl := hp ts }
def opNd (c : Int) (a b pl : Nat) : Nd := { op := c, a := a, b := b, num := 0, den := 0, text := ByteArray.empty, pl := pl }

/-- What a reading comes to. -/
structure Res where
  ok : Bool
  k : Nat
  L : List Nd
  ts : List Tok

/-- The reading, by tags: 0, 1 a row of that level, 2 a factor, 3 a primary, 4, 5 the rounds of a row (k: what stands on the left), 6 the marks behind (k: what they stand behind). -/
def pp : Nat → Nat → Nat → List Tok → List Nd → Res
  | 0, _, k, ts, L => ⟨false, k, L, ts⟩
  | f + 1, tag, k, ts, L =>
    match tag with
    | 0 => if (pp f 1 0 ts L).ok then pp f 4 (pp f 1 0 ts L).k (pp f 1 0 ts L).ts (pp f 1 0 ts L).L else pp f 1 0 ts L
    | 1 => if (pp f 2 0 ts L).ok then pp f 5 (pp f 2 0 ts L).k (pp f 2 0 ts L).ts (pp f 2 0 ts L).L else pp f 2 0 ts L
    | 2 =>
      if hd ts = 8722 then
        (if (pp f 2 0 ts.tail L).ok then ⟨true, (pp f 2 0 ts.tail L).L.length, (pp f 2 0 ts.tail L).L ++ [opNd 110 (pp f 2 0 ts.tail L).k 0 (hp ts)], (pp f 2 0 ts.tail L).ts⟩
         else pp f 2 0 ts.tail L)
      else if (pp f 3 0 ts L).ok then pp f 6 (pp f 3 0 ts L).k (pp f 3 0 ts L).ts (pp f 3 0 ts L).L else pp f 3 0 ts L
    | 3 =>
      if isDig (hd ts) || isFrac (hd ts) then ⟨true, L.length, L ++ [numNd ts], (numT ts).2⟩
      else if hd ts = 105 ∨ isNm (hd ts) then ⟨true, L.length, L ++ [opNd (hd ts) 0 0 (hp ts)], ts.tail⟩
      else if hd ts = 40 then
        (if (pp f 0 0 ts.tail L).ok then
          (if hd (pp f 0 0 ts.tail L).ts = 41 then ⟨true, (pp f 0 0 ts.tail L).k, (pp f 0 0 ts.tail L).L, (pp f 0 0 ts.tail L).ts.tail⟩
           else ⟨false, 0, (pp f 0 0 ts.tail L).L, (pp f 0 0 ts.tail L).ts⟩)
         else pp f 0 0 ts.tail L)
      else ⟨false, 0, L, ts⟩
    | 4 =>
      if inRow 0 (hd ts) then
        (if (pp f 1 0 ts.tail L).ok then pp f 4 (pp f 1 0 ts.tail L).L.length (pp f 1 0 ts.tail L).ts ((pp f 1 0 ts.tail L).L ++ [opNd (hd ts) k (pp f 1 0 ts.tail L).k (hp ts)])
         else pp f 1 0 ts.tail L)
      else ⟨true, k, L, ts⟩
    | 5 =>
      if inRow 1 (hd ts) then
        (if (pp f 2 0 ts.tail L).ok then pp f 5 (pp f 2 0 ts.tail L).L.length (pp f 2 0 ts.tail L).ts ((pp f 2 0 ts.tail L).L ++ [opNd (hd ts) k (pp f 2 0 ts.tail L).k (hp ts)])
         else pp f 2 0 ts.tail L)
      else ⟨true, k, L, ts⟩
    | _ =>
      if isMk (hd ts) then pp f 6 L.length ts.tail (L ++ [opNd (hd ts) k 0 (hp ts)]) else ⟨true, k, L, ts⟩

end Go.Proofs.YtodabmkcihafhaaGreatDoor

/- The document's 'at'. -/
namespace Go.Proofs.YtodabmkcihafhaaGreatDoor
open Go.RowKit
set_option linter.unusedVariables false

theorem and192 (n : Nat) (h : n < 256) : (bits BinOp.and IntKind.u8 (n : Int) 192 == 128) = decide (n / 64 = 2) := by
  have : ∀ m : Fin 256, (bits BinOp.and IntKind.u8 ((m.val : Nat) : Int) 192 == 128) = decide (m.val / 64 = 2) := by decide +kernel
  exact this ⟨n, h⟩
theorem and63 (n : Nat) (h : n < 256) : bits BinOp.and IntKind.u8 (n : Int) 63 = ((n % 64 : Nat) : Int) := by
  have : ∀ m : Fin 256, bits BinOp.and IntKind.u8 ((m.val : Nat) : Int) 63 = ((m.val % 64 : Nat) : Int) := by decide +kernel
  exact this ⟨n, h⟩
theorem and31 (n : Nat) (h : n < 256) : bits BinOp.and IntKind.i64 (n : Int) 31 = ((n % 32 : Nat) : Int) := by
  have : ∀ m : Fin 256, bits BinOp.and IntKind.i64 ((m.val : Nat) : Int) 31 = ((m.val % 32 : Nat) : Int) := by decide +kernel
  exact this ⟨n, h⟩
theorem and15 (n : Nat) (h : n < 256) : bits BinOp.and IntKind.i64 (n : Int) 15 = ((n % 16 : Nat) : Int) := by
  have : ∀ m : Fin 256, bits BinOp.and IntKind.i64 ((m.val : Nat) : Int) 15 = ((m.val % 16 : Nat) : Int) := by decide +kernel
  exact this ⟨n, h⟩
theorem wrapN (n : Nat) (h : n < 1000000) : wrap64 (n : Int) = n := by
  unfold wrap64; omega


set_option maxHeartbeats 2000000 in
set_option maxRecDepth 100000 in
theorem at_one (s : ByteArray) (k : Nat) (w : World) (hs : k ≤ 120) (hlt : k < s.size) (h1 : bt s k < 128) :
    Calls Tryz.prog 112 #[.string s, .int .i64 k] w fun e w' => e = .returned (.tuple #[.int .i64 (bt s k : Nat), .int .i64 1]) ∧ ∃ n, w' = w.drewN n := by
  have b0 := bt_lt s k
  have g0 := bt_get s k
  have wN := wrapN (bt s k) (by omega)
  go_enter Tryz.func112, Tryz.ntmps112
  go_wp2
  go_ret2
  exact ⟨rfl, 0, rfl⟩

set_option maxHeartbeats 2000000 in
set_option maxRecDepth 100000 in
theorem at_two (s : ByteArray) (k : Nat) (w : World) (hs : k ≤ 120) (hlt : k < s.size) (h1 : 194 ≤ bt s k) (h2 : bt s k ≤ 223) (h3 : k + 1 < s.size) (h4 : bt s (k + 1) / 64 = 2) :
    Calls Tryz.prog 112 #[.string s, .int .i64 k] w fun e w' => e = .returned (.tuple #[.int .i64 ((bt s k % 32 * 64 + bt s (k + 1) % 64 : Nat) : Int), .int .i64 2]) ∧ ∃ n, w' = w.drewN n := by
  have b0 := bt_lt s k
  have g0 := bt_get s k
  have wN := wrapN (bt s k) (by omega)
  have b1 := bt_lt s (k + 1)
  have g1 := bt_get s (k + 1)
  have a1 := and192 (bt s (k + 1)) (by omega)
  have m1 := and63 (bt s (k + 1)) (by omega)
  have m0 := and31 (bt s k) (by omega)
  have n1 := wrapN (bt s (k + 1) % 64) (by omega)
  go_enter Tryz.func112, Tryz.ntmps112
  go_wp2
  go_ret2
  refine ⟨?_, 0, rfl⟩
  congr 5

set_option maxHeartbeats 2000000 in
set_option maxRecDepth 100000 in
theorem at_none0 (s : ByteArray) (k : Nat) (w : World) (hs : k ≤ 120) (hlt : k < s.size) (h0 : 128 ≤ bt s k) (h1 : bt s k < 194 ∨ 223 < bt s k) (h2 : ¬ bt s k = 226) :
    Calls Tryz.prog 112 #[.string s, .int .i64 k] w fun e w' => e = .returned (.tuple #[.int .i64 0, .int .i64 0]) ∧ ∃ n, w' = w.drewN n := by
  have b0 := bt_lt s k
  have g0 := bt_get s k
  have wN := wrapN (bt s k) (by omega)
  go_enter Tryz.func112, Tryz.ntmps112
  rcases h1 with h1 | h1
  all_goals
    go_wp2
    go_ret2
    exact ⟨rfl, 0, rfl⟩

set_option maxHeartbeats 2000000 in
set_option maxRecDepth 100000 in
theorem at_none1 (s : ByteArray) (k : Nat) (w : World) (hs : k ≤ 120) (hlt : k < s.size) (h0 : 194 ≤ bt s k) (h1 : bt s k ≤ 223) (h2 : s.size ≤ k + 1) :
    Calls Tryz.prog 112 #[.string s, .int .i64 k] w fun e w' => e = .returned (.tuple #[.int .i64 0, .int .i64 0]) ∧ ∃ n, w' = w.drewN n := by
  have b0 := bt_lt s k
  have g0 := bt_get s k
  have wN := wrapN (bt s k) (by omega)
  go_enter Tryz.func112, Tryz.ntmps112
  go_wp2
  go_ret2
  exact ⟨rfl, 0, rfl⟩

set_option maxHeartbeats 2000000 in
set_option maxRecDepth 100000 in
theorem at_none2 (s : ByteArray) (k : Nat) (w : World) (hs : k ≤ 120) (hlt : k < s.size) (h0 : 194 ≤ bt s k) (h1 : bt s k ≤ 223) (h2 : k + 1 < s.size) (h3 : ¬ bt s (k + 1) / 64 = 2) :
    Calls Tryz.prog 112 #[.string s, .int .i64 k] w fun e w' => e = .returned (.tuple #[.int .i64 0, .int .i64 0]) ∧ ∃ n, w' = w.drewN n := by
  have b0 := bt_lt s k
  have g0 := bt_get s k
  have wN := wrapN (bt s k) (by omega)
  have b1 := bt_lt s (k + 1)
  have g1 := bt_get s (k + 1)
  have a1 := and192 (bt s (k + 1)) (by omega)
  go_enter Tryz.func112, Tryz.ntmps112
  go_wp2
  go_ret2
  exact ⟨rfl, 0, rfl⟩

set_option maxHeartbeats 2000000 in
set_option maxRecDepth 100000 in
theorem at_none3 (s : ByteArray) (k : Nat) (w : World) (hs : k ≤ 120) (hlt : k < s.size) (h0 : bt s k = 226) (h1 : s.size ≤ k + 2) :
    Calls Tryz.prog 112 #[.string s, .int .i64 k] w fun e w' => e = .returned (.tuple #[.int .i64 0, .int .i64 0]) ∧ ∃ n, w' = w.drewN n := by
  have g0 : ∀ h : k < s.size, (s[k]'h).toNat = 226 := fun h => (bt_get s k h).trans h0
  clear h0
  have wN : wrap64 226 = 226 := by decide +kernel
  have z1 : ¬ (226 : Int) ≤ 223 := by decide
  go_enter Tryz.func112, Tryz.ntmps112
  go_wp2
  go_ret2
  exact ⟨rfl, 0, rfl⟩

set_option maxHeartbeats 2000000 in
set_option maxRecDepth 100000 in
theorem at_none4 (s : ByteArray) (k : Nat) (w : World) (hs : k ≤ 120) (hlt : k < s.size) (h0 : bt s k = 226) (h1 : k + 2 < s.size) (q1 : ¬ bt s (k + 1) / 64 = 2) :
    Calls Tryz.prog 112 #[.string s, .int .i64 k] w fun e w' => e = .returned (.tuple #[.int .i64 0, .int .i64 0]) ∧ ∃ n, w' = w.drewN n := by
  have g0 : ∀ h : k < s.size, (s[k]'h).toNat = 226 := fun h => (bt_get s k h).trans h0
  clear h0
  have wN : wrap64 226 = 226 := by decide +kernel
  have z1 : ¬ (226 : Int) ≤ 223 := by decide
  have b1 := bt_lt s (k + 1)
  have g1 := bt_get s (k + 1)
  have a1 : (bits BinOp.and IntKind.u8 (bt s (k + 1)) 192 == 128) = false := (and192 (bt s (k + 1)) (by omega)).trans (by simp [q1])
  clear q1
  go_enter Tryz.func112, Tryz.ntmps112
  go_wp2
  go_ret2
  exact ⟨rfl, 0, rfl⟩

set_option maxHeartbeats 2000000 in
set_option maxRecDepth 100000 in
theorem at_none5 (s : ByteArray) (k : Nat) (w : World) (hs : k ≤ 120) (hlt : k < s.size) (h0 : bt s k = 226) (h1 : k + 2 < s.size) (q1 : bt s (k + 1) / 64 = 2) (q2 : ¬ bt s (k + 2) / 64 = 2) :
    Calls Tryz.prog 112 #[.string s, .int .i64 k] w fun e w' => e = .returned (.tuple #[.int .i64 0, .int .i64 0]) ∧ ∃ n, w' = w.drewN n := by
  have g0 : ∀ h : k < s.size, (s[k]'h).toNat = 226 := fun h => (bt_get s k h).trans h0
  clear h0
  have wN : wrap64 226 = 226 := by decide +kernel
  have z1 : ¬ (226 : Int) ≤ 223 := by decide
  have b1 := bt_lt s (k + 1)
  have g1 := bt_get s (k + 1)
  have a1 : (bits BinOp.and IntKind.u8 (bt s (k + 1)) 192 == 128) = true := (and192 (bt s (k + 1)) (by omega)).trans (by simp [q1])
  clear q1
  have b2 := bt_lt s (k + 2)
  have g2 := bt_get s (k + 2)
  have a2 : (bits BinOp.and IntKind.u8 (bt s (k + 2)) 192 == 128) = false := (and192 (bt s (k + 2)) (by omega)).trans (by simp [q2])
  clear q2
  go_enter Tryz.func112, Tryz.ntmps112
  go_wp2
  go_ret2
  exact ⟨rfl, 0, rfl⟩

theorem ret2 {a b c d : Int} (h : a = b) (h2 : c = d) : Ending.returned (.tuple #[.int .i64 a, .int .i64 c]) = .returned (.tuple #[.int .i64 b, .int .i64 d]) := by rw [h, h2]
theorem at3_num (x y : Nat) (hx : x < 64) (hy : y < 64) : wrap64 (wrap64 (wrap64 (2 * 4096) + wrap64 ((x : Int) * 64)) + wrap64 (y : Int)) = ((8192 + x * 64 + y : Nat) : Int) := by
  unfold wrap64; omega

set_option maxHeartbeats 2000000 in
set_option maxRecDepth 100000 in
theorem at_three (s : ByteArray) (k : Nat) (w : World) (hs : k ≤ 120) (hlt : k < s.size) (h0 : bt s k = 226) (h1 : k + 2 < s.size) (q1 : bt s (k + 1) / 64 = 2) (q2 : bt s (k + 2) / 64 = 2) :
    Calls Tryz.prog 112 #[.string s, .int .i64 k] w fun e w' => e = .returned (.tuple #[.int .i64 ((8192 + bt s (k + 1) % 64 * 64 + bt s (k + 2) % 64 : Nat) : Int), .int .i64 3]) ∧ ∃ n, w' = w.drewN n := by
  have g0 : ∀ h : k < s.size, (s[k]'h).toNat = 226 := fun h => (bt_get s k h).trans h0
  clear h0
  have wN : wrap64 226 = 226 := by decide +kernel
  have z1 : ¬ (226 : Int) ≤ 223 := by decide
  have b1 := bt_lt s (k + 1)
  have g1 := bt_get s (k + 1)
  have a1 : (bits BinOp.and IntKind.u8 (bt s (k + 1)) 192 == 128) = true := (and192 (bt s (k + 1)) (by omega)).trans (by simp [q1])
  clear q1
  have b2 := bt_lt s (k + 2)
  have g2 := bt_get s (k + 2)
  have a2 : (bits BinOp.and IntKind.u8 (bt s (k + 2)) 192 == 128) = true := (and192 (bt s (k + 2)) (by omega)).trans (by simp [q2])
  clear q2
  have m1 := and63 (bt s (k + 1)) (by omega)
  have m2 := and63 (bt s (k + 2)) (by omega)
  have l1 : bt s (k + 1) % 64 < 64 := by omega
  have l2 : bt s (k + 2) % 64 < 64 := by omega
  generalize bt s (k + 1) % 64 = x at *
  generalize bt s (k + 2) % 64 = y at *
  have m0 : bits BinOp.and IntKind.i64 226 15 = 2 := by decide +kernel
  go_enter Tryz.func112, Tryz.ntmps112
  go_wp2
  go_quiet (fail)
  go_wp2
  go_ret2
  refine ⟨ret2 ?_ rfl, nq, rfl⟩
  simp

theorem atK_any (s : ByteArray) (k : Nat) (w : World) (hs : k ≤ 120) (hk : k ≤ s.size) :
    Calls Tryz.prog 112 #[.string s, .int .i64 k] w fun e w' => e = .returned (.tuple #[.int .i64 (atP s k).1, .int .i64 (atP s k).2]) ∧ ∃ n, w' = w.drewN n := by
  by_cases hlt : k < s.size
  · by_cases h1 : bt s k < 128
    · rw [show atP s k = (bt s k, 1) by simp [atP, h1] <;> omega]
      exact at_one s k w hs hlt h1
    · by_cases h2 : 194 ≤ bt s k ∧ bt s k ≤ 223
      · by_cases h3 : k + 1 < s.size
        · by_cases h4 : bt s (k + 1) / 64 = 2
          · rw [show atP s k = (bt s k % 32 * 64 + bt s (k + 1) % 64, 2) by simp [atP, h1, h2, h3, h4] <;> omega]
            exact at_two s k w hs hlt h2.1 h2.2 h3 h4
          · rw [show atP s k = (0, 0) by simp [atP, h1, h4] <;> omega]
            exact at_none2 s k w hs hlt h2.1 h2.2 h3 h4
        · rw [show atP s k = (0, 0) by simp [atP, h1, h3] <;> omega]
          exact at_none1 s k w hs hlt h2.1 h2.2 (by omega)
      · by_cases h0 : bt s k = 226
        · by_cases h3 : k + 2 < s.size
          · by_cases h4 : bt s (k + 1) / 64 = 2
            · by_cases h5 : bt s (k + 2) / 64 = 2
              · rw [show atP s k = (8192 + bt s (k + 1) % 64 * 64 + bt s (k + 2) % 64, 3) by simp [atP, h0, h3, h4, h5] <;> omega]
                exact at_three s k w hs hlt h0 h3 h4 h5
              · rw [show atP s k = (0, 0) by simp [atP, h0, h5]]
                exact at_none5 s k w hs hlt h0 h3 h4 h5
            · rw [show atP s k = (0, 0) by simp [atP, h0, h4]]
              exact at_none4 s k w hs hlt h0 h3 h4
          · rw [show atP s k = (0, 0) by simp [atP, h0, h3]]
            exact at_none3 s k w hs hlt h0 (by omega)
        · rw [show atP s k = (0, 0) by unfold atP; repeat (rw [if_neg (by omega)])]
          exact at_none0 s k w hs hlt (by omega) (by omega) h0
  · rw [show atP s k = (0, 0) by simp [atP] <;> omega]
    go_enter Tryz.func112, Tryz.ntmps112
    go_wp2
    go_ret2
    exact ⟨rfl, 0, rfl⟩
theorem at_any (s : ByteArray) (k : Nat) (w : World) (hs : s.size ≤ 120) (hk : k ≤ s.size) :
    Calls Tryz.prog 112 #[.string s, .int .i64 k] w fun e w' => e = .returned (.tuple #[.int .i64 (atP s k).1, .int .i64 (atP s k).2]) ∧ ∃ n, w' = w.drewN n := atK_any s k w (by omega) hk
theorem atP_le (s : ByteArray) (k : Nat) : (atP s k).2 ≤ 3 ∧ (k ≤ s.size → k + (atP s k).2 ≤ s.size) ∧ (atP s k).1 < 20000 := by
  have b0 := bt_lt s k
  unfold atP
  repeat' split
  all_goals simp
  all_goals omega
end Go.Proofs.YtodabmkcihafhaaGreatDoor

/- The library's contracts for looks into a text, laid over this program. -/
namespace Go.Proofs.YtodabmkcihafhaaGreatDoor
open Go.Shelf Go.RowKit

def ren119 : Go.Shelf.Ren := ⟨fun | 119 => 161 | n => n, fun | 4 => 4 | 21 => 21 | n => n, fun | n => n⟩
theorem lays119 : Go.Proofs.Lays.n119 Tryz.prog ren119 := {
  mixed := by kernel_rfl
  f119 := Tryz.func161.trans (congrArg some (by kernel_rfl))
  t4 := Tryz.underlying4
  a4 := Tryz.isAgg4
  z4 := Tryz.sizeOf4
  v4 := Tryz.zeroValue4
  t21 := Tryz.underlying21
  a21 := Tryz.isAgg21
  z21 := Tryz.sizeOf21
  v21 := Tryz.zeroValue21 }
def ren137 : Go.Shelf.Ren := ⟨fun | 137 => 160 | 217 => 174 | 266 => 181 | n => n, fun | 3 => 3 | 5 => 5 | 9 => 9 | n => n, fun | n => n⟩
theorem lays137 : Go.Proofs.Lays.n137 Tryz.prog ren137 := {
  mixed := by kernel_rfl
  f137 := Tryz.func160.trans (congrArg some (by kernel_rfl))
  f217 := Tryz.func174.trans (congrArg some (by kernel_rfl))
  f266 := Tryz.func181.trans (congrArg some (by kernel_rfl))
  t3 := Tryz.underlying3
  a3 := Tryz.isAgg3
  z3 := Tryz.sizeOf3
  v3 := Tryz.zeroValue3
  t5 := Tryz.underlying5
  a5 := Tryz.isAgg5
  z5 := Tryz.sizeOf5
  v5 := Tryz.zeroValue5
  t9 := Tryz.underlying9
  a9 := Tryz.isAgg9
  z9 := Tryz.sizeOf9
  v9 := Tryz.zeroValue9 }
def ren224 : Go.Shelf.Ren := ⟨fun | 224 => 162 | n => n, fun | 3 => 3 | n => n, fun | n => n⟩
theorem lays224 : Go.Proofs.Lays.n224 Tryz.prog ren224 := {
  mixed := by kernel_rfl
  f224 := Tryz.func162.trans (congrArg some (by kernel_rfl))
  t3 := Tryz.underlying3
  a3 := Tryz.isAgg3
  z3 := Tryz.sizeOf3
  v3 := Tryz.zeroValue3 }
def ren152 : Go.Shelf.Ren := ⟨fun | 119 => 161 | 137 => 160 | 152 => 152 | 217 => 174 | 224 => 162 | 225 => 163 | 266 => 181 | n => n, fun | 0 => 0 | 3 => 3 | 4 => 4 | 5 => 5 | 9 => 9 | 21 => 21 | 46 => 240 | n => n, fun | n => n⟩
theorem lays152 : Go.Proofs.Lays.n152 Tryz.prog ren152 := {
  mixed := by kernel_rfl
  f119 := Tryz.func161.trans (congrArg some (by kernel_rfl))
  f137 := Tryz.func160.trans (congrArg some (by kernel_rfl))
  f152 := Tryz.func152.trans (congrArg some (by kernel_rfl))
  f217 := Tryz.func174.trans (congrArg some (by kernel_rfl))
  f224 := Tryz.func162.trans (congrArg some (by kernel_rfl))
  f225 := Tryz.func163.trans (congrArg some (by kernel_rfl))
  f266 := Tryz.func181.trans (congrArg some (by kernel_rfl))
  t0 := Tryz.underlying0
  a0 := Tryz.isAgg0
  z0 := Tryz.sizeOf0
  v0 := Tryz.zeroValue0
  t3 := Tryz.underlying3
  a3 := Tryz.isAgg3
  z3 := Tryz.sizeOf3
  v3 := Tryz.zeroValue3
  t4 := Tryz.underlying4
  a4 := Tryz.isAgg4
  z4 := Tryz.sizeOf4
  v4 := Tryz.zeroValue4
  t5 := Tryz.underlying5
  a5 := Tryz.isAgg5
  z5 := Tryz.sizeOf5
  v5 := Tryz.zeroValue5
  t9 := Tryz.underlying9
  a9 := Tryz.isAgg9
  z9 := Tryz.sizeOf9
  v9 := Tryz.zeroValue9
  t21 := Tryz.underlying21
  a21 := Tryz.isAgg21
  z21 := Tryz.sizeOf21
  v21 := Tryz.zeroValue21
  t46 := Tryz.underlying240
  a46 := Tryz.isAgg240
  z46 := Tryz.sizeOf240
  v46 := Tryz.zeroValue240 }
def ren151 : Go.Shelf.Ren := ⟨fun | 119 => 161 | 137 => 160 | 151 => 141 | 152 => 152 | 217 => 174 | 224 => 162 | 225 => 163 | 266 => 181 | n => n, fun | 0 => 0 | 3 => 3 | 4 => 4 | 5 => 5 | 9 => 9 | 21 => 21 | 46 => 240 | n => n, fun | n => n⟩
theorem lays151 : Go.Proofs.Lays.n151 Tryz.prog ren151 := {
  mixed := by kernel_rfl
  f119 := Tryz.func161.trans (congrArg some (by kernel_rfl))
  f137 := Tryz.func160.trans (congrArg some (by kernel_rfl))
  f151 := Tryz.func141.trans (congrArg some (by kernel_rfl))
  f152 := Tryz.func152.trans (congrArg some (by kernel_rfl))
  f217 := Tryz.func174.trans (congrArg some (by kernel_rfl))
  f224 := Tryz.func162.trans (congrArg some (by kernel_rfl))
  f225 := Tryz.func163.trans (congrArg some (by kernel_rfl))
  f266 := Tryz.func181.trans (congrArg some (by kernel_rfl))
  t0 := Tryz.underlying0
  a0 := Tryz.isAgg0
  z0 := Tryz.sizeOf0
  v0 := Tryz.zeroValue0
  t3 := Tryz.underlying3
  a3 := Tryz.isAgg3
  z3 := Tryz.sizeOf3
  v3 := Tryz.zeroValue3
  t4 := Tryz.underlying4
  a4 := Tryz.isAgg4
  z4 := Tryz.sizeOf4
  v4 := Tryz.zeroValue4
  t5 := Tryz.underlying5
  a5 := Tryz.isAgg5
  z5 := Tryz.sizeOf5
  v5 := Tryz.zeroValue5
  t9 := Tryz.underlying9
  a9 := Tryz.isAgg9
  z9 := Tryz.sizeOf9
  v9 := Tryz.zeroValue9
  t21 := Tryz.underlying21
  a21 := Tryz.isAgg21
  z21 := Tryz.sizeOf21
  v21 := Tryz.zeroValue21
  t46 := Tryz.underlying240
  a46 := Tryz.isAgg240
  z46 := Tryz.sizeOf240
  v46 := Tryz.zeroValue240 }

theorem validRune_any (r : Int) (w : World) : Calls Tryz.prog 161 #[.int .i32 r] w fun e w' => e = .returned (.bool (Lib.validRune r)) ∧ w' = w := Any.utf8_ValidRune lays119 r w
theorem indexByte_any (s : ByteArray) (c : Int) (w : World) : Calls Tryz.prog 160 #[.string s, .int .u8 c] w fun e w' => e = .returned (.int .i64 (Lib.indexByte s.data.toList c.toNat.toUInt8)) ∧ w' = w := Any.strings_IndexByte lays137 s c w
theorem cutover_any (n : Int) (h0 : 0 ≤ n) (h1 : n < 4611686018427387904) (w : World) : Calls Tryz.prog 162 #[.int .i64 n] w fun e w' => e = .returned (.int .i64 ((n + 16) / 8)) ∧ w' = w := Any.bytealg_Cutover lays224 n h0 h1 w
theorem contains_ascii (s : ByteArray) (r : Int) (w : World) (h0 : 0 ≤ r) (h1 : r < 128) : Calls Tryz.prog 141 #[.string s, .int .i32 r] w fun e w' => e = .returned (.bool (decide (0 ≤ Lib.indexByte s.data.toList r.toNat.toUInt8))) ∧ w' = w := Any.strings_ContainsRune_ascii lays151 s r w h0 h1
end Go.Proofs.YtodabmkcihafhaaGreatDoor
