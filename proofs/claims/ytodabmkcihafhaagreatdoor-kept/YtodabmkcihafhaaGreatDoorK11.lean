import Derived.Deep.AppendLies
import Derived.Lib.OthersKept
import Derived.WalkSmall
import Derived.Shelf.Strings.Builder1
import Derived.Shelf.Strings.BuilderF
import Derived.Shelf.Strings.BuilderK
import Derived.Shelf.Strings.BuilderRune
import Derived.Test.YtodabmkcihafhaaGreatDoorProg
import GoSem.Claim
import Derived.Test.YtodabmkcihafhaaGreatDoorRows
import Derived.WalkKit
import Derived.WalkSpells
import Derived.WalkLawsBesides
import Derived.Lib.UnsafeStr
import Derived.Test.YtodabmkcihafhaaGreatDoorK5
import Derived.Test.YtodabmkcihafhaaGreatDoorK2
import Derived.Test.YtodabmkcihafhaaGreatDoorK6
import Derived.Test.YtodabmkcihafhaaGreatDoorK3
import Derived.Test.YtodabmkcihafhaaGreatDoorK0
import Derived.Test.YtodabmkcihafhaaGreatDoorK9
import Derived.Test.YtodabmkcihafhaaGreatDoorK1

/- Plain: a numeral in quarters. -/
namespace Go.Proofs.YtodabmkcihafhaaGreatDoor

def quS (a : Int × Int) (c : Int) : Int × Int := if c = 188 then (a.1, 1) else if c = 189 then (a.1, 2) else if c = 190 then (a.1, 3) else (10 * a.1 + (c - 48), a.2)
def quF (l : List Int) : Int × Int := l.foldl quS (0, 0)
def quP (l : List Int) : Int := 4 * (quF l).1 + (quF l).2
theorem quF_snoc (l : List Int) (c : Int) : quF (l ++ [c]) = quS (quF l) c := by simp [quF]
theorem qu_digs : ∀ (m : List Int) (a : Int × Int), (∀ c ∈ m, isDig c = true) → m.foldl quS a = (m.foldl (fun n c => 10 * n + (c - 48)) a.1, a.2) := by
  intro m
  induction m with
  | nil => intro a _; rfl
  | cons c r ih =>
    intro a h
    have hc := h c (by simp)
    unfold isDig at hc
    simp at hc
    rw [List.foldl_cons, ih _ (fun d hd => h d (by simp [hd])), List.foldl_cons]
    unfold quS
    rw [if_neg (by omega), if_neg (by omega), if_neg (by omega)]
theorem qu_bound (m : List Int) (h : ∀ c ∈ m, isDig c = true) (hl : m.length ≤ 3) : 0 ≤ m.foldl (fun n c => 10 * n + (c - 48)) (0 : Int) ∧ m.foldl (fun n c => 10 * n + (c - 48)) (0 : Int) ≤ 999 := by
  have := dig_fold m 0 3 h hl (by omega)
  have h2 : (10 : Int) ^ m.length ≤ 1000 := by
    have : m.length = 0 ∨ m.length = 1 ∨ m.length = 2 ∨ m.length = 3 := by omega
    rcases this with e | e | e | e <;> rw [e] <;> decide
  omega
/-- Of each beginning of a numeral. -/
theorem qu_part {l : List Int} (h : NumeOk l) (pre post : List Int) (e : l = pre ++ post) : 0 ≤ (quF pre).1 ∧ (quF pre).1 ≤ 999 ∧ 0 ≤ (quF pre).2 ∧ (quF pre).2 ≤ 3 := by
  have key : ∀ m, (∀ c ∈ m, isDig c = true) → m.length ≤ 3 → 0 ≤ (quF m).1 ∧ (quF m).1 ≤ 999 ∧ (quF m).2 = 0 := by
    intro m hm hl
    have := qu_bound m hm hl
    unfold quF
    rw [qu_digs m _ hm]
    exact ⟨this.1, this.2, rfl⟩
  have last : ∀ m c, (∀ c ∈ m, isDig c = true) → m.length ≤ 3 → isFrac c = true → 0 ≤ (quF (m ++ [c])).1 ∧ (quF (m ++ [c])).1 ≤ 999 ∧ 0 ≤ (quF (m ++ [c])).2 ∧ (quF (m ++ [c])).2 ≤ 3 := by
    intro m c hm hl hc
    have := key m hm hl
    unfold isFrac at hc
    simp at hc
    rw [quF_snoc]
    unfold quS
    split
    · exact ⟨this.1, this.2.1, by simp, by simp⟩
    split
    · exact ⟨this.1, this.2.1, by simp, by simp⟩
    split
    · exact ⟨this.1, this.2.1, by simp, by simp⟩
    · omega
  have two : ∀ m fr, l = m ++ fr → (∀ c ∈ m, isDig c = true) → m.length ≤ 3 → (fr = [] ∨ ∃ c, fr = [c] ∧ isFrac c = true) → 0 ≤ (quF pre).1 ∧ (quF pre).1 ≤ 999 ∧ 0 ≤ (quF pre).2 ∧ (quF pre).2 ≤ 3 := by
    intro m fr hm h1 h2 h3
    rw [hm] at e
    rcases List.append_eq_append_iff.1 e with ⟨a, e1, e2⟩ | ⟨a, e1, e2⟩
    · rcases h3 with rfl | ⟨c, rfl, hc⟩
      · have : a = [] := by
          cases a with
          | nil => rfl
          | cons x y => simp at e2
        subst this
        rw [e1, List.append_nil]
        have := key m h1 h2
        omega
      · cases a with
        | nil =>
          rw [e1, List.append_nil]
          have := key m h1 h2
          omega
        | cons x y =>
          simp at e2
          obtain ⟨rfl, h4, _⟩ := e2
          subst h4
          rw [e1]
          exact last m c h1 h2 hc
    · have h4 := key pre (fun c hc => h1 c (by rw [e1]; simp [hc])) (by rw [e1] at h2; simp at h2; omega)
      omega
  rcases h with ⟨c, rfl, hc⟩ | ⟨d, ds, fr, rfl, hd, _, hds, hdd, hfr⟩
  · exact two [] [c] rfl (fun c hc => by cases hc) (by simp) (Or.inr ⟨c, rfl, hc⟩)
  · exact two (d :: ds) fr rfl (fun c hc => by
      rcases List.mem_cons.1 hc with rfl | hc
      · exact hd
      · exact hdd c hc) (by simp; omega) hfr
theorem low_scale (k a b : Int) (hk : 0 < k) (hb : 0 < b) : lowP (k * a) (k * b) = lowP a b := by
  have e : gcdP (k * a) (k * b) = k * gcdP a b := by
    unfold gcdP
    rw [Int.natAbs_mul, Int.natAbs_mul, Nat.gcd_mul_left, Int.natCast_mul]
    congr 1
    omega
  have hg := gcdP_pos (n := a) hb
  unfold lowP
  rw [e, Int.mul_ediv_mul_of_pos _ _ hk, Int.mul_ediv_mul_of_pos _ _ hk]
/-- The quarters, in lowest terms, are the document's fraction. -/
theorem qu_num {l : List Int} (h : NumeOk l) : mkF (quP l) 4 = lowP (numVal l).1 (numVal l).2 ∧ 0 ≤ quP l ∧ quP l ≤ 4000 := by
  have hp := qu_part h l [] (by simp)
  have hq : 0 ≤ quP l ∧ quP l ≤ 4000 := by unfold quP; omega
  refine ⟨?_, hq⟩
  have hmk : mkF (quP l) 4 = lowP (quP l) 4 := by
    apply mkF_of_not
    have h1 := low_abs (n := quP l) (show (0 : Int) < 4 by decide)
    have h2 := low_d_pos (n := quP l) (show (0 : Int) < 4 by decide)
    unfold mkB Fr.big
    simp
    omega
  rw [hmk]
  have dg : ∀ m, (∀ c ∈ m, isDig c = true) → m ≠ [] → quP m = 4 * (numVal m).1 ∧ (numVal m).2 = 1 := by
    intro m hm hne
    rw [numVal_plain m hm hne]
    unfold quP quF
    rw [qu_digs m _ hm]
    exact ⟨by simp, rfl⟩
  have fc : ∀ m c, (∀ c ∈ m, isDig c = true) → isFrac c = true → lowP (quP (m ++ [c])) 4 = lowP (numVal (m ++ [c])).1 (numVal (m ++ [c])).2 := by
    intro m c hm hc
    have hcd : isDig c = false := by
      unfold isFrac at hc
      unfold isDig
      simp at hc ⊢
      omega
    have hq : quF m = (m.foldl (fun n c => 10 * n + (c - 48)) 0, 0) := by unfold quF; rw [qu_digs m _ hm]
    have hv : numVal (m ++ [c]) = if c = 189 then (2 * m.foldl (fun n c => 10 * n + (c - 48)) 0 + 1, 2) else if c = 188 then (4 * m.foldl (fun n c => 10 * n + (c - 48)) 0 + 1, 4) else if c = 190 then (4 * m.foldl (fun n c => 10 * n + (c - 48)) 0 + 3, 4) else (m.foldl (fun n c => 10 * n + (c - 48)) 0, 1) := by
      unfold numVal
      simp only [List.filter_append, filter_all m hm, List.filter_cons, hcd, List.filter_nil, List.append_nil, List.getLast?_concat, Bool.false_eq_true, if_false]
    rw [hv]
    unfold quP
    rw [quF_snoc, hq]
    generalize m.foldl (fun n c => 10 * n + (c - 48)) (0 : Int) = n
    unfold quS
    unfold isFrac at hc
    simp at hc
    rcases hc with (rfl | rfl) | rfl
    · show lowP (4 * n + 2) 4 = lowP (2 * n + 1) 2
      have := low_scale 2 (2 * n + 1) 2 (by decide) (by decide)
      rw [show (2 : Int) * (2 * n + 1) = 4 * n + 2 by omega] at this
      exact this
    · rfl
    · rfl
  rcases h with ⟨c, rfl, hc⟩ | ⟨d, ds, fr, rfl, hd, _, hds, hdd, hfr⟩
  · exact fc [] c (fun c hc => by cases hc) hc
  · have hm : ∀ c ∈ d :: ds, isDig c = true := fun c hc => by
      rcases List.mem_cons.1 hc with rfl | hc
      · exact hd
      · exact hdd c hc
    rcases hfr with rfl | ⟨c, rfl, hc⟩
    · rw [List.append_nil]
      obtain ⟨e1, e2⟩ := dg (d :: ds) hm (by simp)
      rw [e1, e2]
      have := low_scale 4 (numVal (d :: ds)).1 1 (by decide) (by decide)
      exact this
    · exact fc (d :: ds) c hm hc
end Go.Proofs.YtodabmkcihafhaaGreatDoor

/- The program's piecesOf: the signs of a text. -/
namespace Go.Proofs.YtodabmkcihafhaaGreatDoor
open Go.RowKit
set_option linter.unusedVariables false

def Tok.cells (t : Tok) : List Value := [.int .i32 t.c, .int .i64 t.p, .bool t.a]
def tkCells (ts : List Tok) : List Value := ts.flatMap Tok.cells
theorem tkCells_snoc (L : List Tok) (n : Tok) : tkCells L ++ n.cells = tkCells (L ++ [n]) := by simp [tkCells]
theorem Tryz.infoSign : (Tryz.prog.info? 176).map (fun i => (i.zero, i.size, i.bytes)) = some (some (.agg #[.int .i32 0, .int .i64 0, .bool false]), 3, 24) := by kernel_rfl
theorem tk_one (n : Tok) : ∀ u ∈ n.cells, u.oneCell' = true := by
  intro u hu
  simp [Tok.cells] at hu
  rcases hu with rfl | rfl | rfl <;> rfl
theorem tk_new (w : World) (n : Tok) : ∀ j u, n.cells[j]? = some u → (w.alloc (.cells #[.int .i32 n.c, .int .i64 n.p, .bool n.a] 176)).cell? ((⟨w.heap.size, 0, none⟩ : Addr).add j) = some u := by
  refine World.news_of_block (cs := #[.int .i32 n.c, .int .i64 n.p, .bool n.a]) (t := 176) (fr := (0, 0)) ?_
  exact heap_alloc_new w _

set_option maxHeartbeats 2000000 in
set_option maxRecDepth 1000000 in
theorem piecesOf_any (s : ByteArray) (w : World) (hs : s.size ≤ 120) :
    Calls Tryz.prog 76 #[.string s] w fun e w' => ∃ v, e = .returned v ∧ w'.ownsRow (w.heap.size + 1) 176 3 v (toks s 0 false).length (tkCells (toks s 0 false)) ∧ Below w.heap.size w w' := by
  obtain ⟨i0, hi, hz0, hz1, hz2⟩ := info_parts Tryz.infoSign
  have Hi : Hid (Tryz.prog.info? 176 = some i0) := hi
  have Hz : Hid (i0.zero = some (.agg #[.int .i32 0, .int .i64 0, .bool false])) := hz0
  have Hz1 : Hid (i0.size = 3) := hz1
  have Hz2 : Hid (i0.bytes = 24) := hz2
  clear hi hz0 hz1 hz2
  have hl : (toks s 0 false).length ≤ 121 := by
    have := toks_length s (s.size - 0) 0 false
    unfold toks; omega
  go_enter Tryz.func76, Tryz.ntmps76
  go_wp2_with fail
  go_loopw [3, 4] (fun s3 s4 wr => ∃ (pos : Nat) (acc : List Tok) (ap : Bool), wr.ownsRow (w.heap.size + 1) 176 3 s3 acc.length (tkCells acc) ∧ s4 = .bool ap ∧ wr.heap[w.heap.size]? = some (.stringIter s pos) ∧ Below w.heap.size w wr ∧ Hid (acc ++ toks s pos ap = toks s 0 false)) (fun _ _ wr => s.size - wr.iterPos w.heap.size)
  case atStart =>
    refine ⟨0, [], false, World.ownsRow_nil _ _ _ _, rfl, ?_, ?_, rfl⟩
    · exact World.iter_heap w s 0
    · exact (Below.refl _ w).alloc (Nat.le_refl _) _
  case round =>
    obtain ⟨pos, acc, ap, hown, rfl, hit, hbw, HD⟩ := hrel
    have hsz : w.heap.size < wr.heap.size := (Array.getElem?_eq_some_iff.1 hit).1
    have hlen : acc.length ≤ 121 := by
      have := congrArg List.length HD.out
      simp at this; omega
    by_cases hp : pos < s.size
    · have hnx : ∀ ty, (Instr.next (.pointer (some ⟨w.heap.size, 0, none⟩)) true ty).run Tryz.prog wr = _ := fun ty => Lib.run_next_any_at wr w.heap.size s pos ty hit hp
      have hwd := dec_pos s pos hp
      have hd1 := decode_le s pos
      have hit2 := Lib.iterAt_heap wr w.heap.size s pos (pos + (Utf8.decode s pos).2) hit
      have hbw2 := Lib.below_iterAt hbw (k := w.heap.size) (by omega) s (pos + (Utf8.decode s pos).2)
      have hstep := toks_step s pos ap hp
      have hown2 := ownsRow_iterAt hown (Nat.lt_succ_self _) s (pos + (Utf8.decode s pos).2)
      have hsz2 : w.heap.size < (wr.iterAt w.heap.size s (pos + (Utf8.decode s pos).2)).heap.size := by rw [Lib.iterAt_size]; omega
      have HS : Hid (toks s pos ap = if (Utf8.decode s pos).1 = 32 then toks s (pos + (Utf8.decode s pos).2) true else ⟨(Utf8.decode s pos).1, pos, ap⟩ :: toks s (pos + (Utf8.decode s pos).2) false) := hstep
      have HI0 : Hid (wr.heap[w.heap.size]? = some (.stringIter s pos)) := hit
      clear hstep hit hown hbw
      generalize wr.iterAt w.heap.size s (pos + (Utf8.decode s pos).2) = W1 at *
      have HI2 : Hid (W1.heap[w.heap.size]? = some (.stringIter s (pos + (Utf8.decode s pos).2))) := hit2
      clear hit2
      by_cases h32 : (Utf8.decode s pos).1 = 32
      · have b32 : (((Utf8.decode s pos).1 : Int) == 32) = true := by simp; omega
        have H32 : Hid ((Utf8.decode s pos).1 = 32) := h32
        clear h32
        go_wp2_with fail
        refine ⟨⟨pos + (Utf8.decode s pos).2, acc, true, hown2, rfl, HI2.out, hbw2, ?_⟩, ?_⟩
        · have := HD.out
          rw [HS.out, if_pos H32.out] at this
          exact this
        · simp only [World.iterPos, HI2.out, HI0.out]
          omega
      · have b32 : (((Utf8.decode s pos).1 : Int) == 32) = false := by simp; omega
        have H32 : Hid (¬ (Utf8.decode s pos).1 = 32) := h32
        clear h32
        go_wp2_with (at_builtin; refine wpList_append_own _ rfl _ _ 166 rfl (w.heap.size + 1) 176 i0 _ 3 24 Tryz.underlying166 Hi.out Hz.out Hz1.out Hz2.out rfl (by decide) _ _ _ rfl (hown2.alloc _) ⟨W1.heap.size, 0, none⟩ 1 1 (Tok.cells ⟨(Utf8.decode s pos).1, pos, ap⟩) rfl rfl (tk_new W1 ⟨(Utf8.decode s pos).1, pos, ap⟩) (tk_one _) (by unfold maxLen; omega) (by omega) (by simp; omega) ?_; intro v' w3 hown' hgrow3 hnil3)
        have hit3 : w3.heap[w.heap.size]? = some (.stringIter s (pos + (Utf8.decode s pos).2)) := by
          rw [hgrow3.block w.heap.size (by simp; omega) (fun h => by have := (hown2.lt _ h.symm).1; omega), Below.heap_alloc _ _ _ hsz2]; exact HI2.out
        have hbw3 : Below w.heap.size w w3 := Below.grown (hbw2.alloc (by omega) _) hgrow3 (by simp; omega) (fun j hj => by have := (hown2.lt _ hj).1; omega)
        have F1 : acc ++ [⟨(Utf8.decode s pos).1, pos, ap⟩] ++ toks s (pos + (Utf8.decode s pos).2) false = toks s 0 false := by
          have := HD.out
          rw [HS.out, if_neg H32.out] at this
          rw [← this]; simp
        have F2 : w3.ownsRow (w.heap.size + 1) 176 3 v' (acc ++ [(⟨(Utf8.decode s pos).1, pos, ap⟩ : Tok)]).length (tkCells (acc ++ [(⟨(Utf8.decode s pos).1, pos, ap⟩ : Tok)])) := by
          rw [← tkCells_snoc]
          simpa using hown'
        have F3 : s.size - w3.iterPos w.heap.size < s.size - wr.iterPos w.heap.size := by
          simp only [World.iterPos, hit3, HI0.out]
          omega
        have G1 : Hid (acc ++ [⟨(Utf8.decode s pos).1, pos, ap⟩] ++ toks s (pos + (Utf8.decode s pos).2) false = toks s 0 false) := F1
        have G3 : Hid (s.size - w3.iterPos w.heap.size < s.size - wr.iterPos w.heap.size) := F3
        have G4 : Hid (w3.heap[w.heap.size]? = some (.stringIter s (pos + (Utf8.decode s pos).2))) := hit3
        clear F1 F3 hit3 hgrow3 hnil3 hown'
        go_wp2_with fail
        exact ⟨⟨_, _, false, F2, rfl, G4.out, hbw3, G1.out⟩, G3.out⟩
    · have hnx : ∀ ty, (Instr.next (.pointer (some ⟨w.heap.size, 0, none⟩)) true ty).run Tryz.prog wr = _ := fun ty => Lib.run_next_end_at wr w.heap.size s pos ty hit hp
      have hend := toks_end s pos ap (by omega)
      have HE : Hid (toks s pos ap = [⟨-1, s.size, ap⟩]) := hend
      clear hend hit
      go_wp2_with (at_builtin; refine wpList_append_own _ rfl _ _ 166 rfl (w.heap.size + 1) 176 i0 _ 3 24 Tryz.underlying166 Hi.out Hz.out Hz1.out Hz2.out rfl (by decide) _ _ _ rfl (hown.alloc _) ⟨wr.heap.size, 0, none⟩ 1 1 (Tok.cells ⟨-1, s.size, ap⟩) rfl rfl (tk_new wr ⟨-1, s.size, ap⟩) (tk_one _) (by unfold maxLen; omega) (by omega) (by simp; omega) ?_; intro v' w3 hown' hgrow3 hnil3)
      go_ret
      refine ⟨v', rfl, ?_, ?_⟩
      · have := HD.out
        rw [HE.out] at this
        rw [← this, ← tkCells_snoc]
        simpa using hown'
      · exact Below.grown (hbw.alloc (by omega) _) hgrow3 (by simp; omega) (fun j hj => by have := (hown.lt _ hj).1; omega)
end Go.Proofs.YtodabmkcihafhaaGreatDoor

/- The program's Quarters. -/
namespace Go.Proofs.YtodabmkcihafhaaGreatDoor
open Go.RowKit
set_option linter.unusedVariables false

theorem nume_sign {l : List Int} (h : NumeOk l) : ∀ c ∈ l, isDig c = true ∨ isFrac c = true := by
  intro c hc
  rcases h with ⟨d, rfl, hd⟩ | ⟨d, ds, fr, rfl, hd, _, hds, hdd, hfr⟩
  · simp at hc; subst hc; exact Or.inr hd
  · rcases List.mem_cons.1 hc with rfl | hc
    · exact Or.inl hd
    · rcases List.mem_append.1 hc with hc | hc
      · exact Or.inl (hdd c hc)
      · rcases hfr with rfl | ⟨e, rfl, he⟩
        · cases hc
        · simp at hc; subst hc; exact Or.inr he
/-- One rune of a numeral, at its place. -/
theorem nume_dec {l : List Int} (h : NumeOk l) (pre : List Int) (c : Int) (post : List Int) (e : l = pre ++ c :: post) :
    ∃ n : Nat, c = n ∧ Utf8.decode (encAll l) (encAll pre).size = (n, (encAll (pre ++ [c])).size - (encAll pre).size) ∧ (encAll pre).size < (encAll (pre ++ [c])).size ∧ (encAll (pre ++ [c])).size ≤ (encAll l).size ∧ ((48 ≤ n ∧ n ≤ 57) ∨ n = 189 ∨ n = 188 ∨ n = 190) := by
  have hs := nume_sign h c (by rw [e]; simp)
  have hn : ((48 ≤ c ∧ c ≤ 57) ∨ c = 189 ∨ c = 188 ∨ c = 190) := by
    unfold isDig isFrac at hs
    simp at hs
    omega
  obtain ⟨n, rfl⟩ : ∃ n : Nat, c = n := ⟨c.toNat, by omega⟩
  obtain ⟨d1, d2⟩ := dec_enc (encAll pre) (encAll post) n (by unfold known; simp; omega)
  have e1 : encAll l = encAll pre ++ Utf8.encode (n : Int) ++ encAll post := by rw [e, encAll_append, encAll_cons, ByteArray.append_assoc]
  have e2 : (encAll (pre ++ [(n : Int)])).size = (encAll pre).size + (Utf8.encode (n : Int)).size := by rw [encAll_snoc, ByteArray.size_append]
  have e3 : (encAll l).size = (encAll pre).size + (Utf8.encode (n : Int)).size + (encAll post).size := by rw [e1, ByteArray.size_append, ByteArray.size_append]
  refine ⟨n, rfl, ?_, by omega, by omega, by omega⟩
  rw [e1, d1, e2]
  rw [Nat.add_sub_cancel_left]

set_option maxHeartbeats 4000000 in
set_option maxRecDepth 100000 in
theorem quarters_any (l : List Int) (w : World) (hl : NumeOk l) :
    Calls Tryz.prog 122 #[.agg #[.string (encAll l)]] w fun e w' => e = .returned (.int .i64 (quP l)) ∧ Below w.heap.size w w' := by
  have HL := hidMk hl
  have HE : Hid (∀ (pre post : List Int), l = pre ++ post → 0 ≤ (quF pre).1 ∧ (quF pre).1 ≤ 999 ∧ 0 ≤ (quF pre).2 ∧ (quF pre).2 ≤ 3) := fun pre post e => qu_part hl pre post e
  have HD : Hid (∀ (pre : List Int) (c : Int) (post : List Int), l = pre ++ c :: post → ∃ n : Nat, c = n ∧ Utf8.decode (encAll l) (encAll pre).size = (n, (encAll (pre ++ [c])).size - (encAll pre).size) ∧ (encAll pre).size < (encAll (pre ++ [c])).size ∧ (encAll (pre ++ [c])).size ≤ (encAll l).size ∧ ((48 ≤ n ∧ n ≤ 57) ∨ n = 189 ∨ n = 188 ∨ n = 190)) := fun pre c post e => nume_dec hl pre c post e
  have HP : Hid (quP l = 4 * (quF l).1 + (quF l).2) := rfl
  have hb0 := fr_below w (.cells #[.string (encAll l)] 178)
  generalize hs : encAll l = s at *
  generalize quP l = Q at *
  clear hl
  go_enter Tryz.func122, Tryz.ntmps122
  go_wp2_with fail
  go_loopw [3, 4] (fun s3 s4 wr => ∃ (pre post : List Int), Hid (l = pre ++ post) ∧ s3 = .int .i64 (quF pre).1 ∧ s4 = .int .i64 (quF pre).2 ∧ wr.heap[w.heap.size + 1]? = some (.stringIter s (encAll pre).size) ∧ Below w.heap.size w wr) (fun _ _ wr => s.size - wr.iterPos (w.heap.size + 1))
  case atStart =>
    refine ⟨[], l, rfl, rfl, rfl, ?_, ?_⟩
    · have := World.iter_heap (w.alloc (.cells #[.string s] 178)) s 0
      rw [show (w.alloc (.cells #[.string s] 178)).heap.size = w.heap.size + 1 by simp] at this
      exact this
    · exact hb0.alloc (by simp) _
  case round =>
    obtain ⟨pre, post, HPP, rfl, rfl, hit, hbw⟩ := hrel
    have hsz : w.heap.size + 1 < wr.heap.size := (Array.getElem?_eq_some_iff.1 hit).1
    obtain ⟨p1, p2, p3, p4⟩ := HE.out pre post HPP.out
    cases post with
    | nil =>
      have e : pre = l := by have := HPP.out; simpa using this.symm
      subst e
      rw [hs] at hit
      have hnx : ∀ ty, (Instr.next (.pointer (some ⟨w.heap.size + 1, 0, none⟩)) true ty).run Tryz.prog wr = _ := fun ty => Lib.run_next_end_at wr (w.heap.size + 1) s s.size ty hit (by omega)
      clear hit HE HD HL
      have o1 : wrap64 (4 * (quF pre).1) = 4 * (quF pre).1 := by unfold wrap64; omega
      have o2 : wrap64 (4 * (quF pre).1 + (quF pre).2) = 4 * (quF pre).1 + (quF pre).2 := by unfold wrap64; omega
      generalize (quF pre).1 = a at *
      generalize (quF pre).2 = b at *
      go_wp2_with fail
      go_ret
      exact ⟨by rw [HP.out]; rfl, hbw⟩
    | cons c post =>
      obtain ⟨n, rfl, hd, hd1, hd2, hd3⟩ := HD.out pre c post HPP.out
      have hnx : ∀ ty, (Instr.next (.pointer (some ⟨w.heap.size + 1, 0, none⟩)) true ty).run Tryz.prog wr = _ := fun ty => Lib.run_next_any_at wr (w.heap.size + 1) s (encAll pre).size ty hit (by omega)
      rw [hd] at hnx
      have e0 : (encAll pre).size + ((encAll (pre ++ [(n : Int)])).size - (encAll pre).size) = (encAll (pre ++ [(n : Int)])).size := by omega
      simp only [e0] at hnx
      have hit2 := Lib.iterAt_heap wr (w.heap.size + 1) s (encAll pre).size (encAll (pre ++ [(n : Int)])).size hit
      have hbw2 := Lib.below_iterAt hbw (k := w.heap.size + 1) (by omega) s (encAll (pre ++ [(n : Int)])).size
      have HI0 := hidMk hit
      have HQ : Hid (quF (pre ++ [(n : Int)]) = quS (quF pre) n) := quF_snoc pre n
      have HPP2 : Hid (l = (pre ++ [(n : Int)]) ++ post) := by have := HPP.out; show _ = _; simpa using this
      have HL1 := hidMk hd1
      have HL2 := hidMk hd2
      clear hit hbw hd hd1 hd2 e0
      generalize wr.iterAt (w.heap.size + 1) s (encAll (pre ++ [(n : Int)])).size = W1 at *
      have HI2 := hidMk hit2
      clear hit2
      have hmes : Hid (s.size - W1.iterPos (w.heap.size + 1) < s.size - wr.iterPos (w.heap.size + 1)) := by
        show _ < _
        have := HL1.out
        have := HL2.out
        simp only [World.iterPos, HI2.out, HI0.out]
        omega
      clear HE HD HL HP hs
      rcases hd3 with hd3 | rfl | rfl | rfl
      · have b1 : (((n : Nat) : Int) == 188) = false := by simp; omega
        have b2 : (((n : Nat) : Int) == 189) = false := by simp; omega
        have b3 : (((n : Nat) : Int) == 190) = false := by simp; omega
        have o0 : wrap32 ((n : Int) - 48) = (n : Int) - 48 := by unfold wrap32; omega
        have o1 : wrap64 (10 * (quF pre).1) = 10 * (quF pre).1 := by unfold wrap64; omega
        have o2 : wrap64 (10 * (quF pre).1 + ((n : Int) - 48)) = 10 * (quF pre).1 + ((n : Int) - 48) := by unfold wrap64; omega
        have HQ2 : Hid (quF (pre ++ [(n : Int)]) = (10 * (quF pre).1 + ((n : Int) - 48), (quF pre).2)) := by
          have := HQ.out
          unfold quS at this
          rw [if_neg (by omega), if_neg (by omega), if_neg (by omega)] at this
          exact this
        clear HQ HI0 HL1 HL2
        go_wp2_with fail
        exact ⟨⟨pre ++ [(n : Int)], post, HPP2.out, by rw [HQ2.out], by rw [HQ2.out], HI2.out, hbw2⟩, hmes.out⟩
      · clear HI0 HL1 HL2
        go_wp2_with fail
        exact ⟨⟨pre ++ [((189 : Nat) : Int)], post, HPP2.out, by rw [HQ.out]; rfl, by rw [HQ.out]; rfl, HI2.out, hbw2⟩, hmes.out⟩
      · clear HI0 HL1 HL2
        go_wp2_with fail
        exact ⟨⟨pre ++ [((188 : Nat) : Int)], post, HPP2.out, by rw [HQ.out]; rfl, by rw [HQ.out]; rfl, HI2.out, hbw2⟩, hmes.out⟩
      · clear HI0 HL1 HL2
        go_wp2_with fail
        exact ⟨⟨pre ++ [((190 : Nat) : Int)], post, HPP2.out, by rw [HQ.out]; rfl, by rw [HQ.out]; rfl, HI2.out, hbw2⟩, hmes.out⟩
end Go.Proofs.YtodabmkcihafhaaGreatDoor

/- The library's contracts for strings.Builder, laid over this program. -/
namespace Go.Proofs.YtodabmkcihafhaaGreatDoor
open Go.Shelf Go.RowKit

def ren166 : Go.Shelf.Ren := ⟨fun | 166 => 79 | 240 => 116 | 276 => 145 | n => n, fun | 0 => 0 | 3 => 3 | 4 => 4 | 5 => 5 | 9 => 9 | 20 => 20 | 37 => 95 | 70 => 121 | 72 => 123 | 75 => 180 | 80 => 125 | 164 => 212 | n => n, fun | n => n⟩
theorem lays166 : Go.Proofs.Lays.n166 Tryz.prog ren166 := {
  mixed := by kernel_rfl
  f166 := Tryz.func79.trans (congrArg some (by kernel_rfl))
  f240 := Tryz.func116.trans (congrArg some (by kernel_rfl))
  f276 := Tryz.func145.trans (congrArg some (by kernel_rfl))
  t0 := Tryz.underlying0
  a0 := Tryz.isAgg0
  z0 := Tryz.sizeOf0
  v0 := Tryz.zeroValue0
  t3 := Tryz.underlying3
  a3 := Tryz.isAgg3
  z3 := Tryz.sizeOf3
  v3 := Tryz.zeroValue3
  t4 := Tryz.underlying4
  a4 := Tryz.isAgg4
  z4 := Tryz.sizeOf4
  v4 := Tryz.zeroValue4
  t9 := Tryz.underlying9
  a9 := Tryz.isAgg9
  z9 := Tryz.sizeOf9
  v9 := Tryz.zeroValue9
  t20 := Tryz.underlying20
  a20 := Tryz.isAgg20
  z20 := Tryz.sizeOf20
  v20 := Tryz.zeroValue20
  t37 := Tryz.underlying95
  a37 := Tryz.isAgg95
  z37 := Tryz.sizeOf95
  v37 := Tryz.zeroValue95
  t70 := Tryz.underlying121
  a70 := Tryz.isAgg121
  z70 := Tryz.sizeOf121
  v70 := Tryz.zeroValue121
  t72 := Tryz.underlying123
  a72 := Tryz.isAgg123
  z72 := Tryz.sizeOf123
  v72 := Tryz.zeroValue123
  t75 := Tryz.underlying180
  a75 := Tryz.isAgg180
  z75 := Tryz.sizeOf180
  v75 := Tryz.zeroValue180
  t164 := Tryz.underlying212
  a164 := Tryz.isAgg212
  z164 := Tryz.sizeOf212
  v164 := Tryz.zeroValue212 }
theorem extra166 : Builder.Extra Tryz.prog ren166 := {
  sizeBuilder := by kernel_rfl
  liesBuilder := by kernel_rfl
  t5 := Tryz.underlying5
  a5 := Tryz.isAgg5
  z5 := Tryz.sizeOf5
  v5 := Tryz.zeroValue5
  infoByte := by kernel_rfl
  cellsByte := by kernel_rfl
  sizeByte := by kernel_rfl
  neB5 := by decide }
def ren168 : Go.Shelf.Ren := ⟨fun | 168 => 80 | 240 => 116 | 242 => 117 | 276 => 145 | 278 => 146 | n => n, fun | 0 => 0 | 3 => 3 | 4 => 4 | 5 => 5 | 9 => 9 | 20 => 20 | 21 => 21 | 37 => 95 | 46 => 240 | 51 => 67 | 70 => 121 | 72 => 123 | 75 => 180 | 80 => 125 | 164 => 212 | n => n, fun | n => n⟩
theorem lays168 : Go.Proofs.Lays.n168 Tryz.prog ren168 := {
  mixed := by kernel_rfl
  f168 := Tryz.func80.trans (congrArg some (by kernel_rfl))
  f240 := Tryz.func116.trans (congrArg some (by kernel_rfl))
  f242 := Tryz.func117.trans (congrArg some (by kernel_rfl))
  f276 := Tryz.func145.trans (congrArg some (by kernel_rfl))
  f278 := Tryz.func146.trans (congrArg some (by kernel_rfl))
  t0 := Tryz.underlying0
  a0 := Tryz.isAgg0
  z0 := Tryz.sizeOf0
  v0 := Tryz.zeroValue0
  t3 := Tryz.underlying3
  a3 := Tryz.isAgg3
  z3 := Tryz.sizeOf3
  v3 := Tryz.zeroValue3
  t4 := Tryz.underlying4
  a4 := Tryz.isAgg4
  z4 := Tryz.sizeOf4
  v4 := Tryz.zeroValue4
  t5 := Tryz.underlying5
  a5 := Tryz.isAgg5
  z5 := Tryz.sizeOf5
  v5 := Tryz.zeroValue5
  t9 := Tryz.underlying9
  a9 := Tryz.isAgg9
  z9 := Tryz.sizeOf9
  v9 := Tryz.zeroValue9
  t20 := Tryz.underlying20
  a20 := Tryz.isAgg20
  z20 := Tryz.sizeOf20
  v20 := Tryz.zeroValue20
  t21 := Tryz.underlying21
  a21 := Tryz.isAgg21
  z21 := Tryz.sizeOf21
  v21 := Tryz.zeroValue21
  t37 := Tryz.underlying95
  a37 := Tryz.isAgg95
  z37 := Tryz.sizeOf95
  v37 := Tryz.zeroValue95
  t46 := Tryz.underlying240
  a46 := Tryz.isAgg240
  z46 := Tryz.sizeOf240
  v46 := Tryz.zeroValue240
  t51 := Tryz.underlying67
  a51 := Tryz.isAgg67
  z51 := Tryz.sizeOf67
  v51 := Tryz.zeroValue67
  t70 := Tryz.underlying121
  a70 := Tryz.isAgg121
  z70 := Tryz.sizeOf121
  v70 := Tryz.zeroValue121
  t72 := Tryz.underlying123
  a72 := Tryz.isAgg123
  z72 := Tryz.sizeOf123
  v72 := Tryz.zeroValue123
  t75 := Tryz.underlying180
  a75 := Tryz.isAgg180
  z75 := Tryz.sizeOf180
  v75 := Tryz.zeroValue180
  t164 := Tryz.underlying212
  a164 := Tryz.isAgg212
  z164 := Tryz.sizeOf212
  v164 := Tryz.zeroValue212 }
theorem extra168 : Builder.Extra Tryz.prog ren168 := {
  sizeBuilder := by kernel_rfl
  liesBuilder := by kernel_rfl
  t5 := Tryz.underlying5
  a5 := Tryz.isAgg5
  z5 := Tryz.sizeOf5
  v5 := Tryz.zeroValue5
  infoByte := by kernel_rfl
  cellsByte := by kernel_rfl
  sizeByte := by kernel_rfl
  neB5 := by decide }
def ren169 : Go.Shelf.Ren := ⟨fun | 169 => 54 | n => n, fun | 0 => 0 | 3 => 3 | 5 => 5 | 9 => 9 | 37 => 95 | 70 => 121 | 72 => 123 | 127 => 195 | n => n, fun | n => n⟩
theorem lays169 : Go.Proofs.Lays.n169 Tryz.prog ren169 := {
  mixed := by kernel_rfl
  f169 := Tryz.func54.trans (congrArg some (by kernel_rfl))
  t0 := Tryz.underlying0
  a0 := Tryz.isAgg0
  z0 := Tryz.sizeOf0
  v0 := Tryz.zeroValue0
  t3 := Tryz.underlying3
  a3 := Tryz.isAgg3
  z3 := Tryz.sizeOf3
  v3 := Tryz.zeroValue3
  t9 := Tryz.underlying9
  a9 := Tryz.isAgg9
  z9 := Tryz.sizeOf9
  v9 := Tryz.zeroValue9
  t37 := Tryz.underlying95
  a37 := Tryz.isAgg95
  z37 := Tryz.sizeOf95
  v37 := Tryz.zeroValue95
  t70 := Tryz.underlying121
  a70 := Tryz.isAgg121
  z70 := Tryz.sizeOf121
  v70 := Tryz.zeroValue121
  t72 := Tryz.underlying123
  a72 := Tryz.isAgg123
  z72 := Tryz.sizeOf123
  v72 := Tryz.zeroValue123
  t127 := Tryz.underlying195
  a127 := Tryz.isAgg195
  z127 := Tryz.sizeOf195
  v127 := Tryz.zeroValue195 }
theorem extra169 : Builder.Extra Tryz.prog ren169 := {
  sizeBuilder := by kernel_rfl
  liesBuilder := by kernel_rfl
  t5 := Tryz.underlying5
  a5 := Tryz.isAgg5
  z5 := Tryz.sizeOf5
  v5 := Tryz.zeroValue5
  infoByte := by kernel_rfl
  cellsByte := by kernel_rfl
  sizeByte := by kernel_rfl
  neB5 := by decide }

theorem wstring_any (B b : Nat) (bs : List Value) (s : ByteArray) (w : World) (h : Lib.IsBuilderF 123 5 B b bs w) (hlen : bs.length + s.size ≤ 140737488355328) (hBw : B ≤ w.heap.size) :
    Calls Tryz.prog 79 #[.pointer (some ⟨b, 0, none⟩), .string s] w fun e w' => e = .returned (.tuple #[.int .i64 s.size, .nilIface]) ∧ (Lib.BuilderAtF 123 5 B b (.pointer (some ⟨b, 0, none⟩)) (bs ++ Lib.strCells s) w' ∧ Below B w w' ∧ Lib.OthersKept 5 (some b) w w') := Any.Builder_WriteString_k lays166 extra166 B b bs s w h hlen hBw
theorem wrune_any (B b : Nat) (bs : List Value) (r : Int) (hr0 : -2147483648 ≤ r) (hr1 : r ≤ 2147483647) (w : World) (h : Lib.IsBuilderF 123 5 B b bs w) (hlen : bs.length + 4 ≤ 140737488355328) (hBw : B ≤ w.heap.size) :
    Calls Tryz.prog 80 #[.pointer (some ⟨b, 0, none⟩), .int .i32 r] w fun e w' => e = .returned (.tuple #[.int .i64 (Lib.runeCells r).length, .nilIface]) ∧ (Lib.BuilderAtF 123 5 B b (.pointer (some ⟨b, 0, none⟩)) (bs ++ Lib.runeCells r) w' ∧ Below B w w' ∧ Lib.OthersKept 5 (some b) w w') := Any.Builder_WriteRune_k lays168 extra168 B b bs r hr0 hr1 w h hlen hBw
theorem bstring_any (B b : Nat) (l : List UInt8) (w : World) (h : Lib.IsBuilderF 123 5 B b (Lib.byteCells l) w) (hBw : B ≤ w.heap.size) :
    Calls Tryz.prog 54 #[.pointer (some ⟨b, 0, none⟩)] w fun e w' => e = .returned (.string ⟨l.toArray⟩) ∧ (Lib.IsBuilderF 123 5 B b (Lib.byteCells l) w' ∧ Below B w w' ∧ Lib.OthersKept 5 (some b) w w') := Any.Builder_String_any_k lays169 extra169 B b l w h hBw
end Go.Proofs.YtodabmkcihafhaaGreatDoor

/- The tree that the program builds for a list of nodes. -/
namespace Go.Proofs.YtodabmkcihafhaaGreatDoor

/-- One node of the tree, its parts under names. -/
def nodeD (n : Nd) (a b : Value) : Value :=
  if n.op = 43 ∨ n.op = 8722 then .iface 194 (.agg #[a, .int .i32 n.op, .int .i64 n.pl, b])
  else if n.op = 215 ∨ n.op = 247 then .iface 193 (.agg #[a, .int .i32 n.op, .int .i64 n.pl, b])
  else if n.op = 110 then .iface 191 (.agg #[a])
  else if n.op = 178 ∨ n.op = 8242 then .iface 187 (.agg #[a, .int .i32 n.op, .int .i64 n.pl])
  else if n.op = 48 then .iface 178 (.agg #[.string n.text])
  else if n.op = 105 then .iface 183 (.agg #[])
  else .iface 185 (.agg #[.int .i32 n.op, .int .i64 n.pl])
def denF : Nat → List Nd → Nat → Value
  | 0, _, _ => .nilIface
  | f + 1, L, k =>
    match L[k]? with
    | none => .nilIface
    | some n => nodeD n (denF f L n.a) (denF f L n.b)
def den (L : List Nd) (k : Nat) : Value := denF (k + 1) L k

theorem denF_succ (f : Nat) (L : List Nd) (k : Nat) (n : Nd) (h : L[k]? = some n) : denF (f + 1) L k = nodeD n (denF f L n.a) (denF f L n.b) := by
  simp only [denF, h]
theorem nodeD_congr (n : Nd) {k : Nat} {a b a' b' : Value} (hw : WfN k n) (ha : n.a < k → a = a') (hb : n.b < k → b = b') : nodeD n a b = nodeD n a' b' := by
  obtain ⟨_, _, h1, h2⟩ := hw
  unfold nodeD
  by_cases c1 : n.op = 43 ∨ n.op = 8722
  · have hb1 : isBin n.op = true := by unfold isBin; rcases c1 with e | e <;> simp [e]
    obtain ⟨q1, q2⟩ := h1 hb1
    obtain rfl := ha q1
    obtain rfl := hb q2
    rfl
  · rw [if_neg c1, if_neg c1]
    by_cases c2 : n.op = 215 ∨ n.op = 247
    · have hb1 : isBin n.op = true := by unfold isBin; rcases c2 with e | e <;> simp [e]
      obtain ⟨q1, q2⟩ := h1 hb1
      obtain rfl := ha q1
      obtain rfl := hb q2
      rfl
    · rw [if_neg c2, if_neg c2]
      by_cases c3 : n.op = 110
      · have hu : isUn n.op = true := by unfold isUn; simp [c3]
        obtain rfl := ha (h2 hu)
        rfl
      · rw [if_neg c3, if_neg c3]
        by_cases c4 : n.op = 178 ∨ n.op = 8242
        · have hu : isUn n.op = true := by unfold isUn; rcases c4 with e | e <;> simp [e]
          obtain rfl := ha (h2 hu)
          rfl
        · rw [if_neg c4, if_neg c4]
theorem denF_append : ∀ (f : Nat) (L M : List Nd) (k : Nat), WfL L → k < L.length → denF f (L ++ M) k = denF f L k := by
  intro f
  induction f with
  | zero => intro L M k _ _; rfl
  | succ f ih =>
    intro L M k hw hk
    obtain ⟨n, hn⟩ : ∃ n, L[k]? = some n := ⟨L[k], List.getElem?_eq_getElem hk⟩
    have hn2 : (L ++ M)[k]? = some n := by rw [List.getElem?_append_left hk]; exact hn
    rw [denF_succ f L k n hn, denF_succ f (L ++ M) k n hn2]
    exact nodeD_congr n (hw k n hn) (fun h => ih L M _ hw (by omega)) (fun h => ih L M _ hw (by omega))
theorem denF_fuel : ∀ (f : Nat) (L : List Nd) (k : Nat), WfL L → k < L.length → k < f → denF (f + 1) L k = denF f L k := by
  intro f
  induction f with
  | zero => intro L k _ _ h; omega
  | succ f ih =>
    intro L k hw hk hf
    obtain ⟨n, hn⟩ : ∃ n, L[k]? = some n := ⟨L[k], List.getElem?_eq_getElem hk⟩
    rw [denF_succ (f + 1) L k n hn, denF_succ f L k n hn]
    exact nodeD_congr n (hw k n hn) (fun h => ih L _ hw (by omega) (by omega)) (fun h => ih L _ hw (by omega) (by omega))
theorem denF_den : ∀ (d : Nat) (L : List Nd) (k : Nat), WfL L → k < L.length → denF (k + 1 + d) L k = den L k := by
  intro d
  induction d with
  | zero => intro L k _ _; rfl
  | succ d ih =>
    intro L k hw hk
    rw [← Nat.add_assoc, denF_fuel (k + 1 + d) L k hw hk (by omega)]
    exact ih L k hw hk
theorem den_eq (L : List Nd) (k : Nat) (n : Nd) (hw : WfL L) (h : L[k]? = some n) : den L k = nodeD n (den L n.a) (den L n.b) := by
  have hk : k < L.length := (List.getElem?_eq_some_iff.1 h).1
  unfold den
  rw [denF_succ k L k n h]
  refine nodeD_congr n (hw k n h) (fun ha => ?_) (fun hb => ?_)
  · rw [show k = n.a + 1 + (k - n.a - 1) by omega]; exact denF_den _ L n.a hw (by omega)
  · rw [show k = n.b + 1 + (k - n.b - 1) by omega]; exact denF_den _ L n.b hw (by omega)
theorem den_append (L M : List Nd) (k : Nat) (hw : WfL L) (hk : k < L.length) : den (L ++ M) k = den L k := denF_append _ L M k hw hk
theorem den_last (L : List Nd) (n : Nd) (hw : WfL L) (hn : WfN L.length n) : den (L ++ [n]) L.length = nodeD n (den L n.a) (den L n.b) := by
  have hg : (L ++ [n])[L.length]? = some n := by simp
  rw [den_eq (L ++ [n]) L.length n (hw.snoc hn) hg]
  exact nodeD_congr n hn (fun ha => den_append _ _ _ hw ha) (fun hb => den_append _ _ _ hw hb)

/-- An interface's value. -/
def IsI (v : Value) : Prop := v = .nilIface ∨ ∃ T x, v = .iface T x
theorem nodeD_isI (n : Nd) (a b : Value) : ∃ T x, nodeD n a b = .iface T x := by
  unfold nodeD
  repeat' split
  all_goals exact ⟨_, _, rfl⟩
theorem den_isI (L : List Nd) (k : Nat) (hw : WfL L) (hk : k < L.length) : ∃ T x, den L k = .iface T x := by
  obtain ⟨n, hn⟩ : ∃ n, L[k]? = some n := ⟨L[k], List.getElem?_eq_getElem hk⟩
  rw [den_eq L k n hw hn]
  exact nodeD_isI n _ _
end Go.Proofs.YtodabmkcihafhaaGreatDoor

/- The program's Write: levelOf, write, writeAs. -/
namespace Go.Proofs.YtodabmkcihafhaaGreatDoor
open Go.RowKit
set_option linter.unusedVariables false

/-! ### A builder that holds a text -/
def BSt (B b : Nat) (t : ByteArray) (w : World) : Prop := Lib.IsBuilderF 123 5 B b (Lib.strCells t) w
def WrPost (B b : Nat) (t : ByteArray) (w : World) (e : Ending) (w' : World) : Prop := e = .returned (.tuple #[]) ∧ BSt B b t w' ∧ Below B w w' ∧ Lib.OthersKept 5 (some b) w w'
theorem strCells_append (a b : ByteArray) : Lib.strCells (a ++ b) = Lib.strCells a ++ Lib.strCells b := by
  unfold Lib.strCells
  rw [ByteArray.data_append, Array.toList_append, List.map_append]
theorem rune_cells (c : Nat) (hc : c < 55296) : Lib.runeCells (c : Int) = Lib.strCells (Utf8.encode (c : Int)) := by
  have v : Utf8.valid (c : Int) = true := by simp [Utf8.valid]; omega
  unfold Lib.runeCells
  by_cases h1 : c < 128
  · rw [Lib.encodeRuneZ_one (by omega) (by omega)]
    simp [Utf8.encode, v, h1, Lib.strCells]
    omega
  · by_cases h2 : c < 2048
    · rw [Lib.encodeRuneZ_two (by omega) (by omega)]
      simp [Utf8.encode, v, h1, h2, Lib.strCells]
      omega
    · rw [Lib.encodeRuneZ_three (by omega)]
      simp [Utf8.encode, v, h1, h2, show c < 65536 by omega, Lib.strCells]
      omega

theorem wrune_st (B b c : Nat) (t : ByteArray) (w : World) (hc : c < 55296) (h : BSt B b t w) (hlen : t.size ≤ 100000) (hBw : B ≤ w.heap.size) :
    Calls Tryz.prog 80 #[.pointer (some ⟨b, 0, none⟩), .int .i32 c] w fun e w' => (∃ v, e = .returned v) ∧ BSt B b (t ++ Utf8.encode (c : Int)) w' ∧ Below B w w' ∧ Lib.OthersKept 5 (some b) w w' := by
  refine (wrune_any B b _ (c : Int) (by omega) (by omega) w h (by rw [Lib.strCells_length]; omega) hBw).mono ?_
  rintro e w' ⟨rfl, h1, h2, h3⟩
  refine ⟨⟨_, rfl⟩, ?_, h2, h3⟩
  unfold BSt
  rw [strCells_append, ← rune_cells c hc]
  exact Or.inr h1
theorem wstring_st (B b : Nat) (t s : ByteArray) (w : World) (h : BSt B b t w) (hlen : t.size + s.size ≤ 100000) (hBw : B ≤ w.heap.size) :
    Calls Tryz.prog 79 #[.pointer (some ⟨b, 0, none⟩), .string s] w fun e w' => (∃ v, e = .returned v) ∧ BSt B b (t ++ s) w' ∧ Below B w w' ∧ Lib.OthersKept 5 (some b) w w' := by
  refine (wstring_any B b _ s w h (by rw [Lib.strCells_length]; omega) hBw).mono ?_
  rintro e w' ⟨rfl, h1, h2, h3⟩
  refine ⟨⟨_, rfl⟩, ?_, h2, h3⟩
  unfold BSt
  rw [strCells_append]
  exact Or.inr h1
theorem BSt.alloc {B b : Nat} {t : ByteArray} {w : World} (h : BSt B b t w) (o : Obj) : BSt B b t (w.alloc o) := Lib.IsBuilderF.alloc h o
theorem BSt.lt {B b : Nat} {t : ByteArray} {w : World} (h : BSt B b t w) : b < w.heap.size ∧ B ≤ b := by
  rcases h with h | h
  · exact ⟨h.lt, h.1⟩
  · exact ⟨h.lt, h.1⟩

/-! ### The type switches -/
theorem taNumeralNumeral (x : Value) (w : World) : (Instr.typeAssert (.iface 178 x) 75 178 true).run Tryz.prog w = .ok (.tuple #[x, .bool true]) w := by kernel_rfl
theorem taNumeralUnit (x : Value) (w : World) : (Instr.typeAssert (.iface 178 x) 75 183 true).run Tryz.prog w = .ok (.tuple #[.agg #[], .bool false]) w := by kernel_rfl
theorem taNumeralName (x : Value) (w : World) : (Instr.typeAssert (.iface 178 x) 75 185 true).run Tryz.prog w = .ok (.tuple #[.agg #[.int .i32 0, .int .i64 0], .bool false]) w := by kernel_rfl
theorem taNumeralMarked (x : Value) (w : World) : (Instr.typeAssert (.iface 178 x) 75 187 true).run Tryz.prog w = .ok (.tuple #[.agg #[.nilIface, .int .i32 0, .int .i64 0], .bool false]) w := by kernel_rfl
theorem taNumeralNegated (x : Value) (w : World) : (Instr.typeAssert (.iface 178 x) 75 191 true).run Tryz.prog w = .ok (.tuple #[.agg #[.nilIface], .bool false]) w := by kernel_rfl
theorem taNumeralProduct (x : Value) (w : World) : (Instr.typeAssert (.iface 178 x) 75 193 true).run Tryz.prog w = .ok (.tuple #[.agg #[.nilIface, .int .i32 0, .int .i64 0, .nilIface], .bool false]) w := by kernel_rfl
theorem taNumeralSum (x : Value) (w : World) : (Instr.typeAssert (.iface 178 x) 75 194 true).run Tryz.prog w = .ok (.tuple #[.agg #[.nilIface, .int .i32 0, .int .i64 0, .nilIface], .bool false]) w := by kernel_rfl
theorem taUnitNumeral (x : Value) (w : World) : (Instr.typeAssert (.iface 183 x) 75 178 true).run Tryz.prog w = .ok (.tuple #[.agg #[.string ⟨#[]⟩], .bool false]) w := by kernel_rfl
theorem taUnitUnit (x : Value) (w : World) : (Instr.typeAssert (.iface 183 x) 75 183 true).run Tryz.prog w = .ok (.tuple #[x, .bool true]) w := by kernel_rfl
theorem taUnitName (x : Value) (w : World) : (Instr.typeAssert (.iface 183 x) 75 185 true).run Tryz.prog w = .ok (.tuple #[.agg #[.int .i32 0, .int .i64 0], .bool false]) w := by kernel_rfl
theorem taUnitMarked (x : Value) (w : World) : (Instr.typeAssert (.iface 183 x) 75 187 true).run Tryz.prog w = .ok (.tuple #[.agg #[.nilIface, .int .i32 0, .int .i64 0], .bool false]) w := by kernel_rfl
theorem taUnitNegated (x : Value) (w : World) : (Instr.typeAssert (.iface 183 x) 75 191 true).run Tryz.prog w = .ok (.tuple #[.agg #[.nilIface], .bool false]) w := by kernel_rfl
theorem taUnitProduct (x : Value) (w : World) : (Instr.typeAssert (.iface 183 x) 75 193 true).run Tryz.prog w = .ok (.tuple #[.agg #[.nilIface, .int .i32 0, .int .i64 0, .nilIface], .bool false]) w := by kernel_rfl
theorem taUnitSum (x : Value) (w : World) : (Instr.typeAssert (.iface 183 x) 75 194 true).run Tryz.prog w = .ok (.tuple #[.agg #[.nilIface, .int .i32 0, .int .i64 0, .nilIface], .bool false]) w := by kernel_rfl
theorem taNameNumeral (x : Value) (w : World) : (Instr.typeAssert (.iface 185 x) 75 178 true).run Tryz.prog w = .ok (.tuple #[.agg #[.string ⟨#[]⟩], .bool false]) w := by kernel_rfl
theorem taNameUnit (x : Value) (w : World) : (Instr.typeAssert (.iface 185 x) 75 183 true).run Tryz.prog w = .ok (.tuple #[.agg #[], .bool false]) w := by kernel_rfl
theorem taNameName (x : Value) (w : World) : (Instr.typeAssert (.iface 185 x) 75 185 true).run Tryz.prog w = .ok (.tuple #[x, .bool true]) w := by kernel_rfl
theorem taNameMarked (x : Value) (w : World) : (Instr.typeAssert (.iface 185 x) 75 187 true).run Tryz.prog w = .ok (.tuple #[.agg #[.nilIface, .int .i32 0, .int .i64 0], .bool false]) w := by kernel_rfl
theorem taNameNegated (x : Value) (w : World) : (Instr.typeAssert (.iface 185 x) 75 191 true).run Tryz.prog w = .ok (.tuple #[.agg #[.nilIface], .bool false]) w := by kernel_rfl
theorem taNameProduct (x : Value) (w : World) : (Instr.typeAssert (.iface 185 x) 75 193 true).run Tryz.prog w = .ok (.tuple #[.agg #[.nilIface, .int .i32 0, .int .i64 0, .nilIface], .bool false]) w := by kernel_rfl
theorem taNameSum (x : Value) (w : World) : (Instr.typeAssert (.iface 185 x) 75 194 true).run Tryz.prog w = .ok (.tuple #[.agg #[.nilIface, .int .i32 0, .int .i64 0, .nilIface], .bool false]) w := by kernel_rfl
theorem taMarkedNumeral (x : Value) (w : World) : (Instr.typeAssert (.iface 187 x) 75 178 true).run Tryz.prog w = .ok (.tuple #[.agg #[.string ⟨#[]⟩], .bool false]) w := by kernel_rfl
theorem taMarkedUnit (x : Value) (w : World) : (Instr.typeAssert (.iface 187 x) 75 183 true).run Tryz.prog w = .ok (.tuple #[.agg #[], .bool false]) w := by kernel_rfl
theorem taMarkedName (x : Value) (w : World) : (Instr.typeAssert (.iface 187 x) 75 185 true).run Tryz.prog w = .ok (.tuple #[.agg #[.int .i32 0, .int .i64 0], .bool false]) w := by kernel_rfl
theorem taMarkedMarked (x : Value) (w : World) : (Instr.typeAssert (.iface 187 x) 75 187 true).run Tryz.prog w = .ok (.tuple #[x, .bool true]) w := by kernel_rfl
theorem taMarkedNegated (x : Value) (w : World) : (Instr.typeAssert (.iface 187 x) 75 191 true).run Tryz.prog w = .ok (.tuple #[.agg #[.nilIface], .bool false]) w := by kernel_rfl
theorem taMarkedProduct (x : Value) (w : World) : (Instr.typeAssert (.iface 187 x) 75 193 true).run Tryz.prog w = .ok (.tuple #[.agg #[.nilIface, .int .i32 0, .int .i64 0, .nilIface], .bool false]) w := by kernel_rfl
theorem taMarkedSum (x : Value) (w : World) : (Instr.typeAssert (.iface 187 x) 75 194 true).run Tryz.prog w = .ok (.tuple #[.agg #[.nilIface, .int .i32 0, .int .i64 0, .nilIface], .bool false]) w := by kernel_rfl
theorem taNegatedNumeral (x : Value) (w : World) : (Instr.typeAssert (.iface 191 x) 75 178 true).run Tryz.prog w = .ok (.tuple #[.agg #[.string ⟨#[]⟩], .bool false]) w := by kernel_rfl
theorem taNegatedUnit (x : Value) (w : World) : (Instr.typeAssert (.iface 191 x) 75 183 true).run Tryz.prog w = .ok (.tuple #[.agg #[], .bool false]) w := by kernel_rfl
theorem taNegatedName (x : Value) (w : World) : (Instr.typeAssert (.iface 191 x) 75 185 true).run Tryz.prog w = .ok (.tuple #[.agg #[.int .i32 0, .int .i64 0], .bool false]) w := by kernel_rfl
theorem taNegatedMarked (x : Value) (w : World) : (Instr.typeAssert (.iface 191 x) 75 187 true).run Tryz.prog w = .ok (.tuple #[.agg #[.nilIface, .int .i32 0, .int .i64 0], .bool false]) w := by kernel_rfl
theorem taNegatedNegated (x : Value) (w : World) : (Instr.typeAssert (.iface 191 x) 75 191 true).run Tryz.prog w = .ok (.tuple #[x, .bool true]) w := by kernel_rfl
theorem taNegatedProduct (x : Value) (w : World) : (Instr.typeAssert (.iface 191 x) 75 193 true).run Tryz.prog w = .ok (.tuple #[.agg #[.nilIface, .int .i32 0, .int .i64 0, .nilIface], .bool false]) w := by kernel_rfl
theorem taNegatedSum (x : Value) (w : World) : (Instr.typeAssert (.iface 191 x) 75 194 true).run Tryz.prog w = .ok (.tuple #[.agg #[.nilIface, .int .i32 0, .int .i64 0, .nilIface], .bool false]) w := by kernel_rfl
theorem taProductNumeral (x : Value) (w : World) : (Instr.typeAssert (.iface 193 x) 75 178 true).run Tryz.prog w = .ok (.tuple #[.agg #[.string ⟨#[]⟩], .bool false]) w := by kernel_rfl
theorem taProductUnit (x : Value) (w : World) : (Instr.typeAssert (.iface 193 x) 75 183 true).run Tryz.prog w = .ok (.tuple #[.agg #[], .bool false]) w := by kernel_rfl
theorem taProductName (x : Value) (w : World) : (Instr.typeAssert (.iface 193 x) 75 185 true).run Tryz.prog w = .ok (.tuple #[.agg #[.int .i32 0, .int .i64 0], .bool false]) w := by kernel_rfl
theorem taProductMarked (x : Value) (w : World) : (Instr.typeAssert (.iface 193 x) 75 187 true).run Tryz.prog w = .ok (.tuple #[.agg #[.nilIface, .int .i32 0, .int .i64 0], .bool false]) w := by kernel_rfl
theorem taProductNegated (x : Value) (w : World) : (Instr.typeAssert (.iface 193 x) 75 191 true).run Tryz.prog w = .ok (.tuple #[.agg #[.nilIface], .bool false]) w := by kernel_rfl
theorem taProductProduct (x : Value) (w : World) : (Instr.typeAssert (.iface 193 x) 75 193 true).run Tryz.prog w = .ok (.tuple #[x, .bool true]) w := by kernel_rfl
theorem taProductSum (x : Value) (w : World) : (Instr.typeAssert (.iface 193 x) 75 194 true).run Tryz.prog w = .ok (.tuple #[.agg #[.nilIface, .int .i32 0, .int .i64 0, .nilIface], .bool false]) w := by kernel_rfl
theorem taSumNumeral (x : Value) (w : World) : (Instr.typeAssert (.iface 194 x) 75 178 true).run Tryz.prog w = .ok (.tuple #[.agg #[.string ⟨#[]⟩], .bool false]) w := by kernel_rfl
theorem taSumUnit (x : Value) (w : World) : (Instr.typeAssert (.iface 194 x) 75 183 true).run Tryz.prog w = .ok (.tuple #[.agg #[], .bool false]) w := by kernel_rfl
theorem taSumName (x : Value) (w : World) : (Instr.typeAssert (.iface 194 x) 75 185 true).run Tryz.prog w = .ok (.tuple #[.agg #[.int .i32 0, .int .i64 0], .bool false]) w := by kernel_rfl
theorem taSumMarked (x : Value) (w : World) : (Instr.typeAssert (.iface 194 x) 75 187 true).run Tryz.prog w = .ok (.tuple #[.agg #[.nilIface, .int .i32 0, .int .i64 0], .bool false]) w := by kernel_rfl
theorem taSumNegated (x : Value) (w : World) : (Instr.typeAssert (.iface 194 x) 75 191 true).run Tryz.prog w = .ok (.tuple #[.agg #[.nilIface], .bool false]) w := by kernel_rfl
theorem taSumProduct (x : Value) (w : World) : (Instr.typeAssert (.iface 194 x) 75 193 true).run Tryz.prog w = .ok (.tuple #[.agg #[.nilIface, .int .i32 0, .int .i64 0, .nilIface], .bool false]) w := by kernel_rfl
theorem taSumSum (x : Value) (w : World) : (Instr.typeAssert (.iface 194 x) 75 194 true).run Tryz.prog w = .ok (.tuple #[x, .bool true]) w := by kernel_rfl

/-! ### levelOf -/
set_option maxHeartbeats 1000000 in
set_option maxRecDepth 1000000 in
theorem levelNumeral (x : Value) (w : World) : Calls Tryz.prog 118 #[.iface 178 x] w fun e w' => e = .returned (.int .i64 3) ∧ w' = w := by
  have qSum := taNumeralSum x
  have qProduct := taNumeralProduct x
  have qNegated := taNumeralNegated x
  go_enter Tryz.func118, Tryz.ntmps118
  go_wp2_with fail
  go_ret
  exact ⟨rfl, rfl⟩
set_option maxHeartbeats 1000000 in
set_option maxRecDepth 1000000 in
theorem levelUnit (x : Value) (w : World) : Calls Tryz.prog 118 #[.iface 183 x] w fun e w' => e = .returned (.int .i64 3) ∧ w' = w := by
  have qSum := taUnitSum x
  have qProduct := taUnitProduct x
  have qNegated := taUnitNegated x
  go_enter Tryz.func118, Tryz.ntmps118
  go_wp2_with fail
  go_ret
  exact ⟨rfl, rfl⟩
set_option maxHeartbeats 1000000 in
set_option maxRecDepth 1000000 in
theorem levelName (x : Value) (w : World) : Calls Tryz.prog 118 #[.iface 185 x] w fun e w' => e = .returned (.int .i64 3) ∧ w' = w := by
  have qSum := taNameSum x
  have qProduct := taNameProduct x
  have qNegated := taNameNegated x
  go_enter Tryz.func118, Tryz.ntmps118
  go_wp2_with fail
  go_ret
  exact ⟨rfl, rfl⟩
set_option maxHeartbeats 1000000 in
set_option maxRecDepth 1000000 in
theorem levelMarked (x : Value) (w : World) : Calls Tryz.prog 118 #[.iface 187 x] w fun e w' => e = .returned (.int .i64 3) ∧ w' = w := by
  have qSum := taMarkedSum x
  have qProduct := taMarkedProduct x
  have qNegated := taMarkedNegated x
  go_enter Tryz.func118, Tryz.ntmps118
  go_wp2_with fail
  go_ret
  exact ⟨rfl, rfl⟩
set_option maxHeartbeats 1000000 in
set_option maxRecDepth 1000000 in
theorem levelNegated (x : Value) (w : World) : Calls Tryz.prog 118 #[.iface 191 x] w fun e w' => e = .returned (.int .i64 2) ∧ w' = w := by
  have qSum := taNegatedSum x
  have qProduct := taNegatedProduct x
  have qNegated := taNegatedNegated x
  go_enter Tryz.func118, Tryz.ntmps118
  go_wp2_with fail
  go_ret
  exact ⟨rfl, rfl⟩
set_option maxHeartbeats 1000000 in
set_option maxRecDepth 1000000 in
theorem levelProduct (x : Value) (w : World) : Calls Tryz.prog 118 #[.iface 193 x] w fun e w' => e = .returned (.int .i64 1) ∧ w' = w := by
  have qSum := taProductSum x
  have qProduct := taProductProduct x
  go_enter Tryz.func118, Tryz.ntmps118
  go_wp2_with fail
  go_ret
  exact ⟨rfl, rfl⟩
set_option maxHeartbeats 1000000 in
set_option maxRecDepth 1000000 in
theorem levelSum (x : Value) (w : World) : Calls Tryz.prog 118 #[.iface 194 x] w fun e w' => e = .returned (.int .i64 0) ∧ w' = w := by
  have qSum := taSumSum x
  go_enter Tryz.func118, Tryz.ntmps118
  go_wp2_with fail
  go_ret
  exact ⟨rfl, rfl⟩
theorem levelOf_any (n : Nd) (a b : Value) (w : World) : Calls Tryz.prog 118 #[nodeD n a b] w fun e w' => e = .returned (.int .i64 (rankP n.op)) ∧ w' = w := by
  unfold nodeD rankP
  by_cases c1 : n.op = 43 ∨ n.op = 8722
  · rw [if_pos c1, if_pos c1]; exact levelSum _ w
  · rw [if_neg c1, if_neg c1]
    by_cases c2 : n.op = 215 ∨ n.op = 247
    · rw [if_pos c2, if_pos c2]; exact levelProduct _ w
    · rw [if_neg c2, if_neg c2]
      by_cases c3 : n.op = 110
      · rw [if_pos c3, if_pos c3]; exact levelNegated _ w
      · rw [if_neg c3, if_neg c3]
        by_cases c4 : n.op = 178 ∨ n.op = 8242
        · rw [if_pos c4]; exact levelMarked _ w
        · rw [if_neg c4]
          by_cases c5 : n.op = 48
          · rw [if_pos c5]; exact levelNumeral _ w
          · rw [if_neg c5]
            by_cases c6 : n.op = 105
            · rw [if_pos c6]; exact levelUnit _ w
            · rw [if_neg c6]; exact levelName _ w
end Go.Proofs.YtodabmkcihafhaaGreatDoor
