import Derived.Test.YtodabmkcihafhaaGreatDoorK23
import Derived.Test.YtodabmkcihafhaaGreatDoorK22
import Derived.Test.YtodabmkcihafhaaGreatDoorK3

/- Plain: the one form is no longer than the text. -/
namespace Go.Proofs.YtodabmkcihafhaaGreatDoor
set_option linter.unusedVariables false

def wt (t : Tok) : Nat := if isSg t.c = true then (Utf8.encode t.c).size else 0
def wts : List Tok → Nat
  | [] => 0
  | t :: r => wt t + wts r
theorem dec_width (s : ByteArray) (i : Nat) (h : i < s.size) (hk : known (Utf8.decode s i).1 = true) : (Utf8.decode s i).2 = (Utf8.encode ((Utf8.decode s i).1 : Int)).size := by
  rw [enc_wid _ hk]
  have ha := at_dec s i h
  rw [if_pos hk] at ha
  rw [← ha]
  have l0 := bt_lt s i
  have l1 := bt_lt s (i + 1)
  unfold atP
  rw [if_neg (by omega)]
  by_cases h1 : bt s i < 128
  · rw [if_pos h1]
    show 1 = if bt s i < 128 then 1 else _
    rw [if_pos h1]
  · rw [if_neg h1]
    by_cases h2 : 194 ≤ bt s i ∧ bt s i ≤ 223 ∧ i + 1 < s.size ∧ bt s (i + 1) / 64 = 2
    · rw [if_pos h2]
      show 2 = if bt s i % 32 * 64 + bt s (i + 1) % 64 < 128 then 1 else if bt s i % 32 * 64 + bt s (i + 1) % 64 < 2048 then 2 else 3
      rw [if_neg (by omega), if_pos (by omega)]
    · rw [if_neg h2]
      by_cases h3 : bt s i = 226 ∧ i + 2 < s.size ∧ bt s (i + 1) / 64 = 2 ∧ bt s (i + 2) / 64 = 2
      · rw [if_pos h3]
        show 3 = if 8192 + bt s (i + 1) % 64 * 64 + bt s (i + 2) % 64 < 128 then 1 else if 8192 + bt s (i + 1) % 64 * 64 + bt s (i + 2) % 64 < 2048 then 2 else 3
        rw [if_neg (by omega), if_neg (by omega)]
      · exfalso
        unfold atP at ha
        rw [if_neg (by omega), if_neg h1, if_neg h2, if_neg h3] at ha
        have := dec_pos s i h
        rw [← ha] at this
        simp at this
theorem toks_wts (s : ByteArray) : ∀ (d i : Nat) (ap : Bool), s.size ≤ i + d → i ≤ s.size → wts (toks s i ap) + i ≤ s.size := by
  have we : ∀ (n : Nat) (b : Bool), wt ⟨-1, n, b⟩ = 0 := fun n b => rfl
  intro d
  induction d with
  | zero =>
    intro i ap h1 h2
    rw [toks_end s i ap (by omega)]
    show wt _ + 0 + i ≤ _
    rw [we]
    omega
  | succ d ih =>
    intro i ap h1 h2
    by_cases h : i < s.size
    · have st := dec_step s i h
      have ps := dec_pos s i h
      rw [toks_step s i ap h]
      by_cases hb : (Utf8.decode s i).1 = 32
      · rw [if_pos hb]
        have := ih (i + (Utf8.decode s i).2) true (by omega) st
        omega
      · rw [if_neg hb]
        have := ih (i + (Utf8.decode s i).2) false (by omega) st
        have hw : wt ⟨((Utf8.decode s i).1 : Int), i, ap⟩ ≤ (Utf8.decode s i).2 := by
          unfold wt
          split
          · rename_i hs
            obtain ⟨n, hn, hk, _⟩ := isSg_known hs
            have hn' : (Utf8.decode s i).1 = n := by
              have : ((Utf8.decode s i).1 : Int) = n := hn
              omega
            rw [dec_width s i h (by rw [hn']; exact hk)]
            exact Nat.le_refl _
          · exact Nat.zero_le _
        show wt _ + wts _ + i ≤ _
        omega
    · rw [toks_end s i ap (by omega)]
      show wt _ + 0 + i ≤ _
      rw [we]
      omega

def brkS (r least n : Nat) : Nat := if r < least then n + 2 else n
theorem brk_wid (r least : Nat) (t : ByteArray) : (brk r least t).size = brkS r least t.size := by
  unfold brk brkS
  split
  · rw [mid_size]
    show 1 + t.size + 1 = t.size + 2
    omega
  · rfl
theorem brkS_mono (r n : Nat) {a b : Nat} (h : a ≤ b) : brkS r a n ≤ brkS r b n := by
  unfold brkS
  split <;> split <;> omega
theorem brkS_le (r a n : Nat) : brkS r a n ≤ n + 2 := by
  unfold brkS
  split <;> omega
theorem brkS_off {r a n : Nat} (h : a ≤ r) : brkS r a n = n := by
  unfold brkS
  rw [if_neg (by omega)]
def lev (tag : Nat) : Nat := if tag = 0 then 0 else if tag = 1 then 1 else if tag = 2 then 2 else if tag = 3 then 3 else if tag = 4 then 0 else if tag = 5 then 1 else 3
def cost (tag : Nat) (e : Ex) : Nat := brkS (rankP (opE e)) (lev tag) (fmE e).size

theorem wt_of {t : Tok} (h : isSg t.c = true) : wt t = (Utf8.encode t.c).size := by
  unfold wt
  rw [if_pos h]
theorem dig_sg {c : Int} (h : isDig c = true) : isSg c = true := by unfold isSg; simp [h]
theorem frac_sg {c : Int} (h : isFrac c = true) : isSg c = true := by unfold isSg; simp [h]
theorem digs_wts : ∀ (n : Nat) (ts : List Tok), (encAll (digs n ts).1).size + wts (digs n ts).2 = wts ts := by
  intro n
  induction n with
  | zero => intro ts; show 0 + _ = _; rw [Nat.zero_add]; rfl
  | succ n ih =>
    intro ts
    simp only [digs]
    by_cases h : isDig (jn ts) = true
    · rw [if_pos h]
      cases ts with
      | nil => simp [jn, isDig] at h
      | cons t r =>
        have hj : jn (t :: r) = t.c := by
          rcases jn_cases (t :: r) with q | q
          · exact q
          · rw [q] at h; simp [isDig] at h
        rw [hj] at h ⊢
        show (encAll (t.c :: (digs n r).1)).size + wts (digs n r).2 = wt t + wts r
        rw [encAll_cons, ByteArray.size_append, wt_of (dig_sg h)]
        have := ih r
        omega
    · rw [if_neg h]
      show 0 + _ = _
      rw [Nat.zero_add]
theorem frac_wts (ts : List Tok) : (encAll (fracT ts).1).size + wts (fracT ts).2 = wts ts := by
  unfold fracT
  by_cases h : isFrac (jn ts) = true
  · rw [if_pos h]
    cases ts with
    | nil => simp [jn, isFrac] at h
    | cons t r =>
      have hj : jn (t :: r) = t.c := by
        rcases jn_cases (t :: r) with q | q
        · exact q
        · rw [q] at h; simp [isFrac] at h
      rw [hj] at h ⊢
      show (encAll [t.c]).size + wts r = wt t + wts r
      rw [enc_one', wt_of (frac_sg h)]
  · rw [if_neg h]
    show 0 + _ = _
    rw [Nat.zero_add]
theorem numT_wts (t : Tok) (r : List Tok) (h : (isDig t.c || isFrac t.c) = true) : (encAll (numT (t :: r)).1).size + wts (numT (t :: r)).2 = wt t + wts r := by
  have hs : isSg t.c = true := by
    simp only [Bool.or_eq_true] at h
    rcases h with h | h
    · exact dig_sg h
    · exact frac_sg h
  unfold numT
  have e1 : hd (t :: r) = t.c := rfl
  rw [e1]
  by_cases hf : isFrac t.c = true
  · rw [if_pos hf]
    show (encAll [t.c]).size + wts r = _
    rw [enc_one', wt_of hs]
  · rw [if_neg hf]
    have key : ∀ x : List Int × List Tok, (encAll x.1).size + wts x.2 = wts r → (encAll (t.c :: x.1 ++ (fracT x.2).1)).size + wts (fracT x.2).2 = wt t + wts r := by
      intro x hx
      have := frac_wts x.2
      rw [List.cons_append, encAll_cons, encAll_append, ByteArray.size_append, ByteArray.size_append, wt_of hs]
      omega
    refine key _ ?_
    by_cases h0 : t.c = 48
    · rw [if_pos h0]
      show 0 + wts r = _
      omega
    · rw [if_neg h0]
      exact digs_wts 2 r
theorem pt_cost : ∀ (f tag : Nat) (e : Ex) (ts : List Tok), (pt f tag e ts).ok = true → cost tag (pt f tag e ts).e + wts (pt f tag e ts).ts ≤ wts ts + (if tag < 4 then 0 else cost tag e) := by
  have inrow_sg : ∀ l c, inRow l c = true → isSg c = true ∧ isBin c = true := by
    intro l c h
    have hb : isBin c = true := by
      unfold inRow at h
      unfold isBin
      split at h <;> simp at h ⊢ <;> omega
    exact ⟨by unfold isSg; simp [hb], hb⟩
  intro f
  induction f with
  | zero => intro tag e ts h; simp [pt] at h
  | succ f ih =>
    intro tag e ts h
    match tag, h with
    | 0, h =>
      rw [pt_0] at h ⊢
      by_cases ha : (pt f 1 e ts).ok = true
      · rw [if_pos ha] at h ⊢
        have i1 := ih 1 e ts ha
        have i2 := ih 4 _ _ h
        rw [if_pos (by decide)] at i1 ⊢
        rw [if_neg (by decide)] at i2
        have m : cost 4 (pt f 1 e ts).e ≤ cost 1 (pt f 1 e ts).e := brkS_mono _ _ (by decide)
        have m2 : cost 0 (pt f 4 (pt f 1 e ts).e (pt f 1 e ts).ts).e = cost 4 (pt f 4 (pt f 1 e ts).e (pt f 1 e ts).ts).e := rfl
        omega
      · rw [if_neg ha] at h; exact absurd h ha
    | 1, h =>
      rw [pt_1] at h ⊢
      by_cases ha : (pt f 2 e ts).ok = true
      · rw [if_pos ha] at h ⊢
        have i1 := ih 2 e ts ha
        have i2 := ih 5 _ _ h
        rw [if_pos (by decide)] at i1 ⊢
        rw [if_neg (by decide)] at i2
        have m : cost 5 (pt f 2 e ts).e ≤ cost 2 (pt f 2 e ts).e := brkS_mono _ _ (by decide)
        have m2 : cost 1 (pt f 5 (pt f 2 e ts).e (pt f 2 e ts).ts).e = cost 5 (pt f 5 (pt f 2 e ts).e (pt f 2 e ts).ts).e := rfl
        omega
      · rw [if_neg ha] at h; exact absurd h ha
    | 2, h =>
      rw [if_pos (by decide)]
      cases ts with
      | nil =>
        have := pt_len (f + 1) 2 e [] h
        simp at this
      | cons t r =>
        rw [pt_2] at h ⊢
        by_cases hc : t.c = 8722
        · rw [if_pos hc] at h ⊢
          by_cases ha : (pt f 2 e r).ok = true
          · rw [if_pos ha]
            have i1 := ih 2 e r ha
            rw [if_pos (by decide)] at i1
            have hw : wt t = (Utf8.encode 8722).size := by
              rw [wt_of (by rw [hc]; decide), hc]
            have hcost : cost 2 (.un 110 t.p (pt f 2 e r).e) = (Utf8.encode 8722).size + cost 2 (pt f 2 e r).e := by
              unfold cost
              rw [brkS_off (by show 2 ≤ rankP 110; decide)]
              simp only [fmE, if_true]
              rw [ByteArray.size_append, brk_wid]
              rfl
            show cost 2 (.un 110 t.p (pt f 2 e r).e) + wts (pt f 2 e r).ts ≤ wt t + wts r + 0
            omega
          · rw [if_neg ha] at h; exact absurd h ha
        · rw [if_neg hc] at h ⊢
          by_cases ha : (pt f 3 e (t :: r)).ok = true
          · rw [if_pos ha] at h ⊢
            have i1 := ih 3 e (t :: r) ha
            have i2 := ih 6 _ _ h
            rw [if_pos (by decide)] at i1
            rw [if_neg (by decide)] at i2
            have m : cost 6 (pt f 3 e (t :: r)).e = cost 3 (pt f 3 e (t :: r)).e := rfl
            have m2 : cost 2 (pt f 6 (pt f 3 e (t :: r)).e (pt f 3 e (t :: r)).ts).e ≤ cost 6 (pt f 6 (pt f 3 e (t :: r)).e (pt f 3 e (t :: r)).ts).e := brkS_mono _ _ (by decide)
            omega
          · rw [if_neg ha] at h; exact absurd h ha
    | 3, h =>
      rw [if_pos (by decide)]
      cases ts with
      | nil => simp [pt, hd, isDig, isFrac, isNm] at h
      | cons t r =>
        rw [pt_3] at h ⊢
        by_cases hn : (isDig t.c || isFrac t.c) = true
        · rw [if_pos hn]
          have := numT_wts t r hn
          have hcost : cost 3 (.num (numT (t :: r)).1 t.p) = (encAll (numT (t :: r)).1).size := brkS_off (by show 3 ≤ rankP 48; decide)
          show cost 3 (.num (numT (t :: r)).1 t.p) + wts (numT (t :: r)).2 ≤ wt t + wts r + 0
          omega
        · rw [if_neg hn] at h ⊢
          by_cases hl : t.c = 105 ∨ isNm t.c = true
          · rw [if_pos hl]
            have hc := leaf_cases hl
            have hs : isSg t.c = true := by
              unfold isSg
              rcases hl with hl | hl <;> simp [hl]
            have hr : 3 ≤ rankP t.c := by
              unfold rankP
              rw [if_neg (by omega), if_neg (by omega), if_neg (by omega)]
              exact Nat.le_refl _
            have hcost : cost 3 (.leaf t.c t.p) = (Utf8.encode t.c).size := brkS_off hr
            show cost 3 (.leaf t.c t.p) + wts r ≤ wt t + wts r + 0
            rw [wt_of hs]
            omega
          · rw [if_neg hl] at h ⊢
            by_cases hp : t.c = 40
            · rw [if_pos hp] at h ⊢
              by_cases ha : (pt f 0 e r).ok = true
              · rw [if_pos ha] at h ⊢
                have i1 := ih 0 e r ha
                rw [if_pos (by decide)] at i1
                by_cases hq : hd (pt f 0 e r).ts = 41
                · rw [if_pos hq]
                  have hw : wt t = 1 := by
                    rw [wt_of (by rw [hp]; decide), hp]
                    decide
                  have hw2 : wts (pt f 0 e r).ts = 1 + wts (pt f 0 e r).ts.tail := by
                    generalize (pt f 0 e r).ts = us at hq
                    cases us with
                    | nil => simp [hd] at hq
                    | cons u v =>
                      have hq' : u.c = 41 := hq
                      show wt u + wts v = 1 + wts v
                      rw [wt_of (by rw [hq']; decide), hq']
                      have : (Utf8.encode 41).size = 1 := by decide
                      rw [this]
                  have m : cost 3 (pt f 0 e r).e ≤ (fmE (pt f 0 e r).e).size + 2 := brkS_le _ _ _
                  have m2 : cost 0 (pt f 0 e r).e = (fmE (pt f 0 e r).e).size := brkS_off (Nat.zero_le _)
                  show cost 3 (pt f 0 e r).e + wts (pt f 0 e r).ts.tail ≤ wt t + wts r + 0
                  omega
                · rw [if_neg hq] at h; simp at h
              · rw [if_neg ha] at h; exact absurd h ha
            · rw [if_neg hp] at h; simp at h
    | 4, h =>
      rw [if_neg (by decide)]
      cases ts with
      | nil =>
        have : pt (f + 1) 4 e [] = ⟨true, e, []⟩ := rfl
        rw [this]
        show cost 4 e + 0 ≤ 0 + cost 4 e
        omega
      | cons t r =>
        rw [pt_4] at h ⊢
        by_cases hi : inRow 0 t.c = true
        · rw [if_pos hi] at h ⊢
          by_cases ha : (pt f 1 e r).ok = true
          · rw [if_pos ha] at h ⊢
            have i1 := ih 1 e r ha
            have i2 := ih 4 _ _ h
            rw [if_pos (by decide)] at i1
            rw [if_neg (by decide)] at i2
            have hc : t.c = 43 ∨ t.c = 8722 := by unfold inRow at hi; simpa using hi
            have hcost : cost 4 (.bin t.c t.p e (pt f 1 e r).e) = cost 4 e + wt t + cost 1 (pt f 1 e r).e := by
              rw [wt_of (inrow_sg _ _ hi).1]
              unfold cost
              rw [brkS_off (a := lev 4) (r := rankP (opE (.bin t.c t.p e (pt f 1 e r).e))) (Nat.zero_le _)]
              simp only [fmE]
              rw [if_pos hc, ByteArray.size_append, ByteArray.size_append, brk_wid, brk_wid]
              rfl
            show _ ≤ wt t + wts r + cost 4 e
            omega
          · rw [if_neg ha] at h; exact absurd h ha
        · rw [if_neg hi]
          show cost 4 e + wts (t :: r) ≤ wts (t :: r) + cost 4 e
          omega
    | 5, h =>
      rw [if_neg (by decide)]
      cases ts with
      | nil =>
        have : pt (f + 1) 5 e [] = ⟨true, e, []⟩ := rfl
        rw [this]
        show cost 5 e + 0 ≤ 0 + cost 5 e
        omega
      | cons t r =>
        rw [pt_5] at h ⊢
        by_cases hi : inRow 1 t.c = true
        · rw [if_pos hi] at h ⊢
          by_cases ha : (pt f 2 e r).ok = true
          · rw [if_pos ha] at h ⊢
            have i1 := ih 2 e r ha
            have i2 := ih 5 _ _ h
            rw [if_pos (by decide)] at i1
            rw [if_neg (by decide)] at i2
            have hc : t.c = 215 ∨ t.c = 247 := by unfold inRow at hi; simpa using hi
            have hn : ¬ (t.c = 43 ∨ t.c = 8722) := by omega
            have hcost : cost 5 (.bin t.c t.p e (pt f 2 e r).e) = cost 5 e + wt t + cost 2 (pt f 2 e r).e := by
              rw [wt_of (inrow_sg _ _ hi).1]
              unfold cost
              rw [brkS_off (a := lev 5) (r := rankP (opE (.bin t.c t.p e (pt f 2 e r).e))) (by show 1 ≤ rankP t.c; unfold rankP; rw [if_neg hn, if_pos hc]; exact Nat.le_refl _)]
              simp only [fmE]
              rw [if_neg hn, ByteArray.size_append, ByteArray.size_append, brk_wid, brk_wid]
              rfl
            show _ ≤ wt t + wts r + cost 5 e
            omega
          · rw [if_neg ha] at h; exact absurd h ha
        · rw [if_neg hi]
          show cost 5 e + wts (t :: r) ≤ wts (t :: r) + cost 5 e
          omega
    | (n + 6), h =>
      rw [if_neg (by omega)]
      have hl : lev (n + 6) = 3 := by
        unfold lev
        rw [if_neg (by omega), if_neg (by omega), if_neg (by omega), if_neg (by omega), if_neg (by omega), if_neg (by omega)]
      have hce : ∀ x, cost (n + 6) x = cost 6 x := fun x => by
        unfold cost
        rw [hl]
        rfl
      rw [hce, hce]
      cases ts with
      | nil =>
        have : pt (f + 1) (n + 6) e [] = ⟨true, e, []⟩ := rfl
        rw [this]
        show cost 6 e + 0 ≤ 0 + cost 6 e
        omega
      | cons t r =>
        rw [pt_6] at h ⊢
        by_cases hi : isMk t.c = true
        · rw [if_pos hi] at h ⊢
          have i2 := ih 6 _ _ h
          rw [if_neg (by decide)] at i2
          have hc : t.c = 178 ∨ t.c = 8242 := by unfold isMk at hi; simpa using hi
          have hcost : cost 6 (.un t.c t.p e) = cost 6 e + wt t := by
            rw [wt_of (by unfold isSg; simp [hi])]
            unfold cost
            rw [brkS_off (a := lev 6) (r := rankP (opE (.un t.c t.p e))) (by show 3 ≤ rankP t.c; unfold rankP; rw [if_neg (by omega), if_neg (by omega), if_neg (by omega)]; exact Nat.le_refl _)]
            simp only [fmE]
            rw [if_neg (by omega), ByteArray.size_append, brk_wid]
            rfl
          show _ ≤ wt t + wts r + cost 6 e
          omega
        · rw [if_neg hi]
          show cost 6 e + wts (t :: r) ≤ wts (t :: r) + cost 6 e
          omega
/-- The form of a text's tree is no longer than the text. -/
theorem form_size (s : ByteArray) (h : s.size ≤ 120) (hg : good s = true) : (fmE (treeT s)).size ≤ s.size := by
  rw [good_PT s h] at hg
  simp only [Bool.and_eq_true] at hg
  have c := pt_cost _ 0 e0 (toks s 0 false) hg.1
  have w := toks_wts s s.size 0 false (by omega) (Nat.zero_le _)
  rw [treeT_PT s h]
  rw [if_pos (by decide)] at c
  have m : cost 0 (PT 0 e0 (toks s 0 false)).e = (fmE (PT 0 e0 (toks s 0 false)).e).size := brkS_off (Nat.zero_le _)
  have c' : cost 0 (PT 0 e0 (toks s 0 false)).e + wts (PT 0 e0 (toks s 0 false)).ts ≤ wts (toks s 0 false) + 0 := c
  omega
/-- The form's form is the form; both are worked alike. -/
theorem form_form (s : ByteArray) (h : s.size ≤ 120) (hg : good s = true) : good (fmE (treeT s)) = true ∧ (treeT (fmE (treeT s))).plain = (treeT s).plain ∧ fmE (treeT (fmE (treeT s))) = fmE (treeT s) := by
  obtain ⟨h1, h2, h3, _⟩ := top_tree s hg
  have hz := form_size s h hg
  obtain ⟨g1, g2⟩ := form_tree (treeT s) h3 (by omega)
  exact ⟨g1, g2, fmE_same g2⟩
/-! ### Places don't tell -/
def Ans.got (a : Ans) : Got := match a with | .ok x => .ok x | .err q _ => .err q
theorem at_got (g : Got) (p : Nat) : (g.at p).got = g := by cases g <;> rfl
theorem evT_plain (env : Env) : ∀ e, (evT env e.plain).got = (evT env e).got := by
  intro e
  induction e with
  | num l p => rfl
  | leaf c p => rfl
  | un c p e ih =>
    simp only [Ex.plain, evT]
    revert ih
    cases evT env e.plain with
    | ok x =>
      cases evT env e with
      | ok y =>
        intro ih
        have : x = y := by injection ih
        subst this
        simp only
        rw [at_got, at_got]
      | err q r => intro ih; cases ih
    | err q r =>
      cases evT env e with
      | ok y => intro ih; cases ih
      | err q' r' => intro ih; exact ih
  | bin c p l r ihl ihr =>
    simp only [Ex.plain, evT]
    revert ihl ihr
    cases evT env l.plain with
    | ok x =>
      cases evT env l with
      | err q r => intro ih; cases ih
      | ok y =>
        cases evT env r.plain with
        | ok x2 =>
          cases evT env r with
          | err q r => intro _ ih; cases ih
          | ok y2 =>
            intro i1 i2
            have q1 : x = y := by injection i1
            have q2 : x2 = y2 := by injection i2
            subst q1 q2
            simp only
            rw [at_got, at_got]
        | err q s =>
          cases evT env r with
          | ok y => intro _ ih; cases ih
          | err q' s' => intro _ ih; exact ih
    | err q s =>
      cases evT env l with
      | ok y => intro ih; cases ih
      | err q' s' => intro ih _; exact ih
theorem missT_plain (env : Env) : ∀ e, (missT env e.plain).isSome = (missT env e).isSome := by
  intro e
  induction e with
  | num l p => rfl
  | leaf c p =>
    simp only [Ex.plain, missT]
    split <;> rfl
  | un c p e ih => exact ih
  | bin c p l r ihl ihr =>
    simp only [Ex.plain, missT]
    revert ihl
    cases missT env l.plain with
    | some q => cases missT env l with
      | some q' => intro _; rfl
      | none => intro h; cases h
    | none => cases missT env l with
      | some q' => intro h; cases h
      | none => intro _; exact ihr
theorem valT_plain (env : Env) (e : Ex) : (valT env e.plain).got = (valT env e).got := by
  have h := missT_plain env e
  unfold valT
  revert h
  cases missT env e.plain with
  | some q => cases missT env e with
    | some q' => intro _; rfl
    | none => intro h; cases h
  | none => cases missT env e with
    | some q' => intro h; cases h
    | none => intro _; exact evT_plain env e
theorem valT_same (env : Env) {a b : Ex} (h : a.plain = b.plain) : (valT env a).got = (valT env b).got := by rw [← valT_plain env a, ← valT_plain env b, h]
end Go.Proofs.YtodabmkcihafhaaGreatDoor

/- The law Formed. -/
namespace Go.Proofs.YtodabmkcihafhaaGreatDoor
open Go.RowKit
set_option linter.unusedVariables false

theorem got_same {a b : Ans} (h : a.got = b.got) : ansN a = ansN b ∧ ansE a = ansE b := by
  cases a with
  | ok x => cases b with
    | ok y => injection h with h; subst h; exact ⟨rfl, rfl⟩
    | err q p => cases h
  | err q p => cases b with
    | ok y => cases h
    | err q' p' => injection h with h; subst h; exact ⟨rfl, rfl⟩
theorem refT_ok {s : ByteArray} (hs : s.size ≤ 120) (hg : good s = true) : refT s = fmE (treeT s) := by
  unfold refT
  rw [if_neg (by omega), if_pos hg]
  exact (top_flat s hg).2
theorem sg_ne : ∀ e : Ex, ExOk e → sgE e ≠ [] := by
  intro e h
  cases e with
  | num l p =>
    rcases h with ⟨c, rfl, _⟩ | ⟨d, ds, fr, rfl, _⟩
    · show [c] ≠ []; simp
    · show d :: (ds ++ fr) ≠ []; simp
  | leaf c p => show [c] ≠ []; simp
  | un c p e =>
    simp only [sgE]
    split
    · simp
    · simp
  | bin c p l r =>
    simp only [sgE]
    split <;> simp
theorem enc_pos {c : Int} (h : isSg c = true) : 1 ≤ (Utf8.encode c).size := by
  obtain ⟨n, rfl, hk, _⟩ := isSg_known h
  exact (dec_enc ByteArray.empty ByteArray.empty n hk).2
theorem fm_pos (e : Ex) (h : ExOk e) : 1 ≤ (fmE e).size := by
  rw [fmE_enc]
  have hne := sg_ne e h
  have ha := sg_all e h
  cases hl : sgE e with
  | nil => exact absurd hl hne
  | cons c r =>
    rw [encAll_cons, ByteArray.size_append]
    have := enc_pos (ha c (by rw [hl]; simp))
    omega
/-- What Formed asks, of a text that is an expression. -/
theorem formed_ok (s : ByteArray) (hE : refE s = 0) : (refT s == ⟨#[]⟩) = false ∧ 1 ≤ (refT s).size ∧ (refT s).size ≤ s.size ∧ refE (refT s) = 0 ∧ refT (refT s) = refT s ∧ ansN (valS [] (refT s)) = ansN (valS [] s) ∧ ansE (valS [] (refT s)) = ansE (valS [] s) := by
  rcases valS_read [] s with ⟨_, hs, hg, hv⟩ | ⟨hE', _⟩
  · obtain ⟨_, _, hok, _⟩ := top_tree s hg
    have ht := refT_ok hs hg
    obtain ⟨g1, g2, g3⟩ := form_form s hs hg
    have hz := form_size s hs hg
    have hp := fm_pos (treeT s) hok
    rw [ht]
    have hs2 : (fmE (treeT s)).size ≤ 120 := by omega
    have hE2 : refE (fmE (treeT s)) = 0 := by
      unfold refE
      rw [if_neg (by omega), if_pos g1]
    have hgot : (valS [] (fmE (treeT s))).got = (valS [] s).got := by
      rw [hv]
      unfold valS
      rw [if_neg (by omega), if_pos g1]
      exact valT_same _ g2
    refine ⟨?_, hp, hz, hE2, ?_, got_same hgot⟩
    · rw [Bool.eq_false_iff]
      intro h
      have := (MapKept.bytes_beq _ _).1 h
      rw [this] at hp
      exact absurd hp (by decide)
    · rw [refT_ok hs2 g1, g3]
  · exact absurd hE hE'
theorem formed_err (s : ByteArray) (hE : refE s ≠ 0) : refT s = ⟨#[]⟩ ∧ ansE (valS [] s) = refE s := by
  rcases valS_read [] s with ⟨hE', _⟩ | ⟨_, p, hp, hv⟩
  · exact absurd hE' hE
  · refine ⟨?_, by rw [hv]; rfl⟩
    unfold refE at hE
    unfold refT
    by_cases h : 120 < s.size
    · rw [if_pos h]; rfl
    · rw [if_neg h] at hE ⊢
      by_cases hg : good s = true
      · rw [if_pos hg] at hE; exact absurd rfl hE
      · rw [if_neg hg]; rfl

theorem Kp.low {r n : Nat} {a b : World} (h : Kp (· = r) a b) (hr : n ≤ r) (ha : n ≤ a.heap.size) : Below n a b := ⟨h.os, h.tape, h.output, h.size, fun k hk => h.block k (by omega) (by omega)⟩
theorem loop_len (bs : ByteArray) : ∀ (d i : Nat) (r : List UInt8), bs.size - i = d → (ByteArray.toList.loop bs i r).length = d + r.length := by
  intro d
  induction d with
  | zero =>
    intro i r h
    rw [ByteArray.toList.loop, if_neg (by omega)]
    simp
  | succ d ih =>
    intro i r h
    rw [ByteArray.toList.loop, if_pos (by omega), ih (i + 1) _ (by omega)]
    simp
    omega
theorem toList_len (bs : ByteArray) : bs.toList.length = bs.size := by
  unfold ByteArray.toList
  rw [loop_len bs bs.size 0 [] (by omega)]
  simp
theorem bytes_self (t : ByteArray) : (t == t) = true := (MapKept.bytes_beq t t).2 rfl
theorem ansV_parts (a : Ans) : ansV a = .tuple #[.agg (numC (ansN a)), .int .i64 (ansE a), .int .i64 (ansP a)] := rfl
set_option maxHeartbeats 4000000 in
set_option maxRecDepth 100000 in
theorem formed_law (N : Nat) (aZ aB : Addr) (s : ByteArray) (w : World) (hS : Sen N aZ aB w) (hN : N ≤ w.heap.size) :
    Calls Tryz.prog 3 #[.string s] w fun e w' => e = .returned (.bool true) ∧ Below w.heap.size w w' := by
  have C1 := hidMk (new_any N aZ aB w hS hN)
  have CP := hidMk (fun t W => print_any t W)
  have CV := hidMk (fun t W K P m T r h => value_any N aZ aB K P m T r [] t W h)
  have CM := hidMk (fun e W => num_any e W)
  have FO := hidMk (formed_ok s)
  have FE := hidMk (formed_err s)
  clear hS hN
  go_enter Tryz.func3, Tryz.ntmps3
  go_wp2_with fail
  refine C1.out.mono ?_
  rintro e w1 ⟨rfl, hbk, hb1⟩
  have HB := hidMk hbk
  have HB1 := hidMk hb1
  clear hbk hb1 C1
  generalize w.heap.size + 4 = K at *
  go_wp2_with fail
  refine (CP.out s w1).mono ?_
  rintro e w2 ⟨rfl, hb2⟩
  have hbk2 := HB.out.below hb2
  have hbb2 := HB1.out.trans (hb2.mono HB1.out.size)
  have HB2 := hidMk hbk2
  have HBB2 := hidMk hbb2
  clear HB HB1 hb2 hbk2 hbb2
  go_wp2_with fail
  refine (CV.out s w2 _ _ _ _ _ HB2.out).mono ?_
  rintro e w3 ⟨rfl, ht3, hk3⟩
  have hbk3 := HB2.out.kept hk3 ht3
  have hbb3 := HBB2.out.trans (hk3.low (by omega) HBB2.out.size)
  rw [ansV_parts]
  generalize ansN (valS [] s) = z at *
  generalize ansP (valS [] s) = p at *
  clear HB2 HBB2 ht3 hk3
  go_upto_region 6 with fail
  have hbk4 := hbk3.below (fr_below w3 (.cells (numC z) 27))
  have hbb4 := hbb3.trans ((fr_below w3 (.cells (numC z) 27)).mono hbb3.size)
  have hx4 := heap_alloc_new w3 (.cells (numC z) 27)
  generalize w3.alloc _ = W4 at *
  generalize w3.heap.size = b7 at *
  have HB4 := hidMk hbk4
  have HBB4 := hidMk hbb4
  have HX4 := hidMk hx4
  clear hbk3 hbb3 hbk4 hbb4 hx4
  by_cases hE : refE s = 0
  · obtain ⟨f1, f0, f2, f3, f4, f5, f6⟩ := FO.out hE
    rw [hE]
    generalize refT s = t at *
    have ft := bytes_self t
    have F5 := hidMk f5
    have F0 := hidMk f0
    have F6 := hidMk f6
    have F3 := hidMk f3
    have F4 := hidMk f4
    clear FO FE hE f0 f1 f3 f4 f5 f6
    go_upto_region 8 with (go_at_call 15; refine (CM.out _ _).mono ?_; rintro e w7 ⟨rfl, rfl⟩)
    go_wp2_with fail
    refine (CP.out t _).mono ?_
    rintro e w5 ⟨rfl, hb5⟩
    have hbk5 := HB4.out.below hb5
    have hbb5 := HBB4.out.trans (hb5.mono HBB4.out.size)
    have hx5 := (hb5.block _ (Array.getElem?_eq_some_iff.1 HX4.out).1).trans HX4.out
    rw [F3.out, F4.out]
    clear HB4 HBB4 HX4 hb5
    have HB5 := hidMk hbk5
    have HBB5 := hidMk hbb5
    have HX5 := hidMk hx5
    clear hbk5 hbb5 hx5
    go_wp2_with fail
    refine (CV.out t w5 _ _ _ _ _ HB5.out).mono ?_
    rintro e w6 ⟨rfl, ht6, hk6⟩
    have hbb6 := HBB5.out.trans (hk6.low (by omega) HBB5.out.size)
    have hx6 := (hk6.block b7 (Array.getElem?_eq_some_iff.1 HX5.out).1 (fun e => by
      obtain ⟨es, c, h1, _⟩ := HB5.out.pw.tb.hr
      have := HX5.out
      rw [e, h1] at this
      cases this)).trans HX5.out
    rw [ansV_parts, F5.out, F6.out]
    generalize ansP (valS [] t) = p2 at *
    generalize ansE (valS [] s) = q at *
    clear HB5 HBB5 HX5 ht6 hk6 F3 F4 F5 F6
    go_upto_region 10 with fail
    have hbb7 := hbb6.trans ((fr_below w6 (.cells (numC z) 27)).mono hbb6.size)
    have hx7 := (Below.heap_alloc w6 (.cells (numC z) 27) _ (Array.getElem?_eq_some_iff.1 hx6).1).trans hx6
    have hy7 := heap_alloc_new w6 (.cells (numC z) 27)
    generalize w6.alloc _ = W7 at *
    generalize w6.heap.size = b13 at *
    obtain ⟨x0, x1, x2, x3⟩ := four_cells hx7
    obtain ⟨y0, y1, y2, y3⟩ := four_cells hy7
    have HBB7 := hidMk hbb7
    have heq := eq4_same z.re.n z.re.d z.im.n z.im.d W7
    clear hbb6 hbb7 hx6 hx7 hy7
    have hle : decide ((t.size : Int) ≤ (s.size : Int)) = true := decide_eq_true (by omega)
    go_wp2_with (go_at_call 15; refine (CM.out _ _).mono ?_; rintro e w7 ⟨rfl, rfl⟩)
    · rename_i h0
      exfalso
      have h1 := toList_len t
      rw [h0] at h1
      have h2 : t.size = 0 := h1.symm
      have h3 := F0.out
      omega
    · rename_i h0
      have h1 : t.toList.isEmpty = false := by simpa using h0
      go_ret
      refine ⟨?_, HBB7.out⟩
      simp [h1]
  · obtain ⟨f1, f2⟩ := FE.out hE
    rw [f1, f2]
    have hne : (refE s != 0) = true := by simpa using hE
    generalize refE s = E at *
    clear FO FE hE f1 f2
    go_wp2_with (go_at_call 15; refine (CM.out _ _).mono ?_; rintro e w7 ⟨rfl, rfl⟩)
    go_ret
    exact ⟨rfl, HBB4.out⟩
end Go.Proofs.YtodabmkcihafhaaGreatDoor

/- The laws' value, text, begun, joined, alike. -/
namespace Go.Proofs.YtodabmkcihafhaaGreatDoor
open Go.RowKit
set_option linter.unusedVariables false

/-- The number of a text, by a book without names; whether there is one. -/
def vN (s : ByteArray) : Num := ansN (valS [] s)
def vB (s : ByteArray) : Bool := ansE (valS [] s) == 0
structure VQ (w : World) (z : Array Value) (b5 : Nat) (x : Num) (W : World) : Prop where
  hz : W.heap[w.heap.size]? = some (.cells z 27 (0, 0))
  hx : W.heap[b5]? = some (.cells (numC x) 27 (0, 0))
  ne : b5 ≠ w.heap.size
  hb : Below w.heap.size w W
theorem VQ.drew {w : World} {z : Array Value} {b5 : Nat} {x : Num} {W : World} (h : VQ w z b5 x W) : VQ w z b5 x W.drew := ⟨h.hz, h.hx, h.ne, h.hb.drew⟩
theorem VQ.setz {w : World} {b5 : Nat} {x : Num} {a b c d : Value} {W : World} (h : VQ w #[a, b, c, d] b5 x W) : VQ w (numC x) b5 x ((((W.setCell ⟨w.heap.size, 0, none⟩ (.int .i64 x.re.n)).setCell ⟨w.heap.size, 1, none⟩ (.int .i64 x.re.d)).setCell ⟨w.heap.size, 2, none⟩ (.int .i64 x.im.n)).setCell ⟨w.heap.size, 3, none⟩ (.int .i64 x.im.d)) :=
  ⟨four_set h.hz _ _ _ _, (four_other h.ne _ _ _ _).trans h.hx, h.ne, below_four h.hb (Nat.le_refl _) _ _ _ _⟩
set_option maxHeartbeats 4000000 in
set_option maxRecDepth 100000 in
theorem value_fn (N : Nat) (aZ aB : Addr) (s : ByteArray) (w : World) (hS : Sen N aZ aB w) (hN : N ≤ w.heap.size) :
    Calls Tryz.prog 22 #[.string s] w fun e w' => e = .returned (.tuple #[.agg (numC (vN s)), .bool (vB s)]) ∧ Below w.heap.size w w' := by
  have h0 := heap_alloc_new w (.cells #[.int .i64 0, .int .i64 0, .int .i64 0, .int .i64 0] 27)
  have hb0 := fr_below w (.cells #[.int .i64 0, .int .i64 0, .int .i64 0, .int .i64 0] 27)
  have C1 := hidMk (new_any N aZ aB (w.alloc (.cells #[.int .i64 0, .int .i64 0, .int .i64 0, .int .i64 0] 27)) (hS.alloc hN _) (by simp; omega))
  have CV := hidMk (fun W K P m T r h => value_any N aZ aB K P m T r [] s W h)
  have CM := hidMk (fun e W => num_any e W)
  have H0 := hidMk h0
  have HB0 := hidMk hb0
  clear hS hN h0 hb0
  unfold vN vB
  go_enter Tryz.func22, Tryz.ntmps22
  go_wp2_with fail
  refine C1.out.mono ?_
  rintro e w1 ⟨rfl, hbk, hb1⟩
  simp only [World.size_alloc] at hbk hb1 ⊢
  have hz1 := (hb1.block w.heap.size (by omega)).trans H0.out
  have hbb1 := HB0.out.trans (hb1.mono (by omega))
  have HB := hidMk hbk
  have HBB := hidMk hbb1
  have HZ := hidMk hz1
  clear hbk hb1 hbb1 hz1 H0 HB0 C1
  generalize w.alloc _ = W0 at *
  generalize w.heap.size + 1 + 4 = K at *
  go_wp2_with fail
  refine (CV.out _ _ _ _ _ _ HB.out).mono ?_
  rintro e w3 ⟨rfl, ht3, hk3⟩
  have hbb3 := HBB.out.trans (hk3.low (by omega) HBB.out.size)
  have hz3 := (hk3.block w.heap.size (Array.getElem?_eq_some_iff.1 HZ.out).1 (by omega)).trans HZ.out
  rw [ansV_parts]
  obtain ⟨z, hz⟩ : ∃ z, ansN (valS [] s) = z := ⟨_, rfl⟩
  obtain ⟨q, hq⟩ : ∃ q, ansE (valS [] s) = q := ⟨_, rfl⟩
  rw [hz, hq]
  have HZQ := hidMk (And.intro hz hq)
  generalize ansP (valS [] s) = p at *
  clear HB HBB HZ ht3 hk3 CV hz hq
  go_upto_region 5 with fail
  have h4 : VQ w #[.int .i64 0, .int .i64 0, .int .i64 0, .int .i64 0] w3.heap.size z (w3.alloc (.cells (numC z) 27)) :=
    ⟨(Below.heap_alloc w3 _ _ (Array.getElem?_eq_some_iff.1 hz3).1).trans hz3, heap_alloc_new w3 _, by have := (Array.getElem?_eq_some_iff.1 hz3).1; omega, hbb3.trans ((fr_below w3 _).mono hbb3.size)⟩
  generalize w3.alloc _ = W4 at *
  generalize w3.heap.size = b5 at *
  have H4 := hidMk h4.drew
  clear hbb3 hz3 h4
  refine region_inv (nt := 23) _
    (fun j v => match j with
      | 0 => v = .agg (numC z)
      | 1 => v = .int .i64 q
      | 2 => v = .int .i64 q
      | 3 => v = .bool (q == 0)
      | 5 => v = .bool (q == 0)
      | _ => True)
    (fun b u w' => Hid (VQ w (if b 4 = true then numC z else #[.int .i64 0, .int .i64 0, .int .i64 0, .int .i64 0]) b5 z w'))
    (act_of rfl rfl) (by kernel_rfl) (by kernel_rfl) (by kernel_rfl) H4.out ?_ ?_
  · intro i o b u w' ho hbi hall hU hW K hK
    have hA : actOf 23 u = ⟨#[u 0, u 1, u 2, u 3, u 4, u 5, u 6, u 7, u 8, u 9, u 10, u 11, u 12, u 13, u 14, u 15, u 16, u 17, u 18, u 19, u 20, u 21, u 22], []⟩ := rfl
    rw [hA] at hK ⊢
    have c2 : u 2 = .pointer (some ⟨w.heap.size, 0, none⟩) := hU.oldB 2 (by kernel_rfl)
    have c5 : u 5 = .pointer (some ⟨b5, 0, none⟩) := hU.oldB 5 (by kernel_rfl)
    have c6 : u 6 = .int .i64 q := hU.oldB 6 (by kernel_rfl)
    have got := hU.got
    have HW := hW
    have HKK := hidMk hK
    clear hU hA hK hW
    obtain ⟨x0, x1, x2, x3⟩ := four_cells HW.out.hx
    rcases i with _ | _ | _ | _ | _ | _ | i
    · cases ho
      go_simp
      exact HKK.out _ _ _ (by rw [c2, c5, c6]; rfl) (fun _ => rfl) HW.out
    · cases ho
      go_simp
      exact HKK.out _ _ _ (by rw [c2, c5, c6]; rfl) (fun _ => rfl) HW.out
    · cases ho
      have g20 : u 20 = .int .i64 q := got 1 20 rfl (hall ⟨1, .data⟩ (by simp) rfl)
      go_simp
      refine (CM.out _ _).mono ?_
      rintro e w9 ⟨rfl, hw9⟩
      subst hw9
      exact HKK.out _ _ _ (by rw [c2, c5, c6, g20]; rfl) (fun _ => rfl) HW.out
    · cases ho
      have g21 : u 21 = .int .i64 q := got 2 21 rfl (hall ⟨2, .data⟩ (by simp) rfl)
      go_simp
      exact HKK.out _ _ _ (by rw [c2, c5, c6, g21]; rfl) (fun _ => rfl) HW.out
    · cases ho
      have g19 : u 19 = .agg (numC z) := got 0 19 rfl (hall ⟨0, .data⟩ (by simp) rfl)
      have h5 := HW.out
      rw [if_neg (by rw [hbi]; decide)] at h5
      obtain ⟨s0, s1, s2, s3⟩ := four_cells h5.hz
      obtain ⟨f0, f1, f2, f3⟩ := four_frozen h5.hz
      have H5 := hidMk h5
      clear h5
      go_simp
      exact HKK.out undef _ _ (by rw [c2, c5, c6, g19]; rfl) (fun h => by cases h) H5.out.setz
    · cases ho
      have g22 : u 22 = .bool (q == 0) := got 3 22 rfl (hall ⟨3, .data⟩ (by simp) rfl)
      go_simp
      exact HKK.out _ _ _ (by rw [c2, c5, c6, g22]; rfl) (fun _ => rfl) HW.out
    · simp at ho
  · intro b u w' hall hU hW
    have e3' : u 3 = .bool (q == 0) := hU.got 5 3 rfl (hall 5 (by decide))
    have h5 := hW.out
    rw [if_pos (hall 4 (by decide))] at h5
    have hA : actOf 23 u = ⟨#[u 0, u 1, u 2, u 3, u 4, u 5, u 6, u 7, u 8, u 9, u 10, u 11, u 12, u 13, u 14, u 15, u 16, u 17, u 18, u 19, u 20, u 21, u 22], []⟩ := rfl
    have e0 : u 0 = .string s := hU.oldB 0 (by kernel_rfl)
    have e1 : u 1 = undef := hU.oldB 1 (by kernel_rfl)
    have e2 : u 2 = .pointer (some ⟨w.heap.size, 0, none⟩) := hU.oldB 2 (by kernel_rfl)
    have e4 : u 4 = .pointer (some ⟨K, 0, none⟩) := hU.oldB 4 (by kernel_rfl)
    have e5 : u 5 = .pointer (some ⟨b5, 0, none⟩) := hU.oldB 5 (by kernel_rfl)
    have e6 : u 6 = .int .i64 q := hU.oldB 6 (by kernel_rfl)
    have e7 : u 7 = .int .i64 p := hU.oldB 7 (by kernel_rfl)
    have e8 : u 8 = .pointer (some ⟨K, 0, none⟩) := hU.oldB 8 (by kernel_rfl)
    have e9 : u 9 = .pointer (some ⟨K, 0, none⟩) := hU.oldB 9 (by kernel_rfl)
    have e10 : u 10 = .bool false := hU.oldB 10 (by kernel_rfl)
    have e11 : u 11 = undef := hU.oldB 11 (by kernel_rfl)
    have e12 : u 12 = .tuple #[.agg (numC z), .int .i64 q, .int .i64 p] := hU.oldB 12 (by kernel_rfl)
    have e13 : u 13 = .pointer (some ⟨K, 0, none⟩) := hU.oldB 13 (by kernel_rfl)
    have e14 : u 14 = .string s := hU.oldB 14 (by kernel_rfl)
    have e15 : u 15 = .tuple #[.agg (numC z), .int .i64 q, .int .i64 p] := hU.oldB 15 (by kernel_rfl)
    have e16 : u 16 = .agg (numC z) := hU.oldB 16 (by kernel_rfl)
    have e17 : u 17 = .int .i64 q := hU.oldB 17 (by kernel_rfl)
    have e18 : u 18 = .int .i64 p := hU.oldB 18 (by kernel_rfl)
    rw [hA, e0, e1, e2, e4, e5, e6, e7, e8, e9, e10, e11, e12, e13, e14, e15, e16, e17, e18]
    clear hA e0 e1 e2 e4 e5 e6 e7 e8 e9 e10 e11 e12 e13 e14 e15 e16 e17 e18
    rw [e3']
    have H5 := hidMk h5
    clear hU hW hall e3' H4 h5 CM
    obtain ⟨z0, z1, z2, z3⟩ := four_cells H5.out.hz
    go_wp2_with fail
    exact bodyPost_ret (v := .tuple #[.agg (numC z), .bool (q == 0)]) (by simp [results, Tryz.results22, go_sem, z0, z1, z2, z3]) rfl ⟨by rw [HZQ.out.1, HZQ.out.2], H5.out.hb⟩
end Go.Proofs.YtodabmkcihafhaaGreatDoor

/- Plain: fractions in lowest terms, as rational numbers; the laws of sums and products. -/
namespace Go.Proofs.YtodabmkcihafhaaGreatDoor
set_option linter.unusedVariables false

def Fr.q (f : Fr) : Rat := (f.n : Rat) / (f.d : Rat)
theorem cast_ne {d : Int} (h : 0 < d) : (d : Rat) ≠ 0 := by
  intro h0
  have : d = 0 := by exact_mod_cast h0
  omega
theorem low_q {n d : Int} (h : 0 < d) : (lowP n d).q = (n : Rat) / (d : Rat) := by
  have h1 := low_mul_n n d
  have h2 := low_mul_d n d
  have h3 := gcdP_pos (n := n) h
  have h4 := low_d_pos (n := n) h
  unfold Fr.q
  generalize (lowP n d).n = a at *
  generalize (lowP n d).d = b at *
  generalize gcdP n d = g at *
  subst h1 h2
  have g0 := cast_ne h3
  have b0 := cast_ne h4
  rw [Rat.intCast_mul, Rat.intCast_mul]
  grind
theorem mk_q {n d : Int} (h : 0 < d) (hb : mkB n d = false) : (mkF n d).q = (n : Rat) / (d : Rat) := by
  rw [mkF_of_not hb]
  exact low_q h
theorem pl_q {a b : Fr} (ha : a.Ok) (hb : b.Ok) (h : plB a b = false) : (plF a b).q = a.q + b.q := by
  unfold plF
  rw [mk_q (mul_pos' ha.1 hb.1) h]
  unfold Fr.q
  have h1 := cast_ne ha.1
  have h2 := cast_ne hb.1
  rw [Rat.intCast_add, Rat.intCast_mul, Rat.intCast_mul, Rat.intCast_mul]
  grind
theorem tm_q {a b : Fr} (ha : a.Ok) (hb : b.Ok) (h : tmB a b = false) : (tmF a b).q = a.q * b.q := by
  unfold tmF
  rw [mk_q (mul_pos' ha.1 hb.1) h]
  unfold Fr.q
  have h1 := cast_ne ha.1
  have h2 := cast_ne hb.1
  rw [Rat.intCast_mul, Rat.intCast_mul]
  grind
theorem neg_q (a : Fr) : a.neg.q = -a.q := by
  unfold Fr.q Fr.neg
  simp only
  rw [Rat.intCast_neg]
  grind
theorem inv_q {a : Fr} (ha : a.Ok) (h : 0 < a.n) : a.inv.q = 1 / a.q ∧ a.q ≠ 0 := by
  have h1 := cast_ne ha.1
  have h2 := cast_ne h
  unfold Fr.q Fr.inv
  simp only
  constructor
  · grind
  · grind
theorem q_inj {a b : Fr} (ha : a.Ok) (hb : b.Ok) (h : a.q = b.q) : a = b := by
  obtain ⟨a1, _, _, _, a5⟩ := ha
  obtain ⟨b1, _, _, _, b5⟩ := hb
  have h1 := cast_ne a1
  have h2 := cast_ne b1
  unfold Fr.q at h
  have e : (a.n : Rat) * (b.d : Rat) = (b.n : Rat) * (a.d : Rat) := by grind
  have e2 : a.n * b.d = b.n * a.d := by exact_mod_cast e
  have e3 : a.n.natAbs * b.d.natAbs = b.n.natAbs * a.d.natAbs := by
    rw [← Int.natAbs_mul, ← Int.natAbs_mul, e2]
  have d1 : a.d.natAbs ∣ b.d.natAbs := by
    have : a.d.natAbs ∣ a.n.natAbs * b.d.natAbs := by rw [e3]; exact Nat.dvd_mul_left _ _
    exact Nat.Coprime.dvd_of_dvd_mul_left (Nat.Coprime.symm a5) this
  have d2 : b.d.natAbs ∣ a.d.natAbs := by
    have : b.d.natAbs ∣ b.n.natAbs * a.d.natAbs := by rw [← e3]; exact Nat.dvd_mul_left _ _
    exact Nat.Coprime.dvd_of_dvd_mul_left (Nat.Coprime.symm b5) this
  have d3 := Nat.dvd_antisymm d1 d2
  have d4 : a.d = b.d := by omega
  have d5 : a.n = b.n := by
    rw [d4] at e2
    exact Int.eq_of_mul_eq_mul_right (by omega) e2
  cases a
  cases b
  simp_all

/-! ### Numbers -/
theorem num_ext {x y : Num} (hx : x.Ok) (hy : y.Ok) (h1 : x.re.q = y.re.q) (h2 : x.im.q = y.im.q) : x = y := by
  have e1 := q_inj hx.1 hy.1 h1
  have e2 := q_inj hx.2 hy.2 h2
  cases x
  cases y
  simp_all
structure Sum2 (x y z : Num) : Prop where
  ok : z.Ok
  re : z.re.q = x.re.q + y.re.q
  im : z.im.q = x.im.q + y.im.q
theorem add_q {x y : Num} (hx : x.Ok) (hy : y.Ok) (h : addB x y = false) : Sum2 x y (addN x y) := by
  unfold addB at h
  simp only [Bool.or_eq_false_iff] at h
  exact ⟨addN_ok hx hy, pl_q hx.1 hy.1 h.1, pl_q hx.2 hy.2 h.2⟩
structure Dif2 (x y z : Num) : Prop where
  ok : z.Ok
  re : z.re.q = x.re.q - y.re.q
  im : z.im.q = x.im.q - y.im.q
theorem sub_q {x y : Num} (hx : x.Ok) (hy : y.Ok) (h : subB x y = false) : Dif2 x y (subN x y) := by
  have a := add_q hx hy.neg h
  refine ⟨a.ok, ?_, ?_⟩
  · have := a.re
    rw [show y.neg.re.q = -y.re.q from neg_q _] at this
    unfold subN
    grind
  · have := a.im
    rw [show y.neg.im.q = -y.im.q from neg_q _] at this
    unfold subN
    grind
structure Mul2 (x y z : Num) : Prop where
  ok : z.Ok
  re : z.re.q = x.re.q * y.re.q - x.im.q * y.im.q
  im : z.im.q = x.re.q * y.im.q + x.im.q * y.re.q
theorem mul_q {x y : Num} (hx : x.Ok) (hy : y.Ok) (h : mulB x y = false) : Mul2 x y (mulN x y) := by
  unfold mulB at h
  simp only [Bool.or_eq_false_iff] at h
  obtain ⟨⟨⟨⟨⟨h1, h2⟩, h3⟩, h4⟩, h5⟩, h6⟩ := h
  refine ⟨mulN_ok hx hy, ?_, ?_⟩
  · show (plF (tmF x.re y.re) (tmF x.im y.im).neg).q = _
    rw [pl_q (tmF_ok hx.1 hy.1) (tmF_ok hx.2 hy.2).neg h3, neg_q, tm_q hx.1 hy.1 h1, tm_q hx.2 hy.2 h2]
    grind
  · show (plF (tmF x.re y.im) (tmF x.im y.re)).q = _
    rw [pl_q (tmF_ok hx.1 hy.2) (tmF_ok hx.2 hy.1) h6, tm_q hx.1 hy.2 h4, tm_q hx.2 hy.1 h5]
structure Div2 (x y z : Num) : Prop where
  ok : z.Ok
  ne : y.re.q * y.re.q + y.im.q * y.im.q ≠ 0
  re : z.re.q = (x.re.q * y.re.q + x.im.q * y.im.q) / (y.re.q * y.re.q + y.im.q * y.im.q)
  im : z.im.q = (x.im.q * y.re.q - x.re.q * y.im.q) / (y.re.q * y.re.q + y.im.q * y.im.q)
theorem div_q {x y : Num} (hx : x.Ok) (hy : y.Ok) (hz : y.zero = false) (hs : sqB y = false) (h : divB x y = false) : Div2 x y (divN x y) := by
  have sp := sq_pos hy hz hs
  have so : (sqF y).Ok := plF_ok (tmF_ok hy.1 hy.1) (tmF_ok hy.2 hy.2)
  obtain ⟨iq, in0⟩ := inv_q so sp
  have io := (mk_of_inv so sp).2.2
  unfold sqB at hs
  simp only [Bool.or_eq_false_iff] at hs
  obtain ⟨⟨s1, s2⟩, s3⟩ := hs
  have sq : (sqF y).q = y.re.q * y.re.q + y.im.q * y.im.q := by
    unfold sqF
    rw [pl_q (tmF_ok hy.1 hy.1) (tmF_ok hy.2 hy.2) s3, tm_q hy.1 hy.1 s1, tm_q hy.2 hy.2 s2]
  unfold divB at h
  simp only [Bool.or_eq_false_iff] at h
  obtain ⟨⟨⟨⟨⟨⟨⟨h1, h2⟩, h3⟩, h4⟩, h5⟩, h6⟩, h7⟩, h8⟩ := h
  rw [sq] at iq in0
  refine ⟨⟨tmF_ok (plF_ok (tmF_ok hx.1 hy.1) (tmF_ok hx.2 hy.2)) io, tmF_ok (plF_ok (tmF_ok hx.2 hy.1) (tmF_ok hx.1 hy.2).neg) io⟩, in0, ?_, ?_⟩
  · show (tmF (dvRe x y) (sqF y).inv).q = _
    rw [tm_q (a := dvRe x y) (plF_ok (tmF_ok hx.1 hy.1) (tmF_ok hx.2 hy.2)) io h4, iq]
    unfold dvRe
    rw [pl_q (tmF_ok hx.1 hy.1) (tmF_ok hx.2 hy.2) h3, tm_q hx.1 hy.1 h1, tm_q hx.2 hy.2 h2]
    grind
  · show (tmF (dvIm x y) (sqF y).inv).q = _
    rw [tm_q (a := dvIm x y) (plF_ok (tmF_ok hx.2 hy.1) (tmF_ok hx.1 hy.2).neg) io h8, iq]
    unfold dvIm
    rw [pl_q (tmF_ok hx.2 hy.1) (tmF_ok hx.1 hy.2).neg h7, neg_q, tm_q hx.2 hy.1 h5, tm_q hx.1 hy.2 h6]
    grind

/-! ### The laws -/
theorem bigOr_ok {b : Bool} {x z : Num} (h : bigOr b x = .ok z) : b = false ∧ z = x := by
  unfold bigOr at h
  cases b with
  | true => simp at h
  | false => simp at h; exact ⟨rfl, h.symm⟩
theorem op_add {x y z : Num} (hx : x.Ok) (hy : y.Ok) (h : opP 43 x y = .ok z) : Sum2 x y z := by
  obtain ⟨hb, rfl⟩ := bigOr_ok (show bigOr _ _ = _ from h)
  exact add_q hx hy hb
theorem op_sub {x y z : Num} (hx : x.Ok) (hy : y.Ok) (h : opP 8722 x y = .ok z) : Dif2 x y z := by
  obtain ⟨hb, rfl⟩ := bigOr_ok (show bigOr _ _ = _ from h)
  exact sub_q hx hy hb
theorem op_mul {x y z : Num} (hx : x.Ok) (hy : y.Ok) (h : opP 215 x y = .ok z) : Mul2 x y z := by
  obtain ⟨hb, rfl⟩ := bigOr_ok (show bigOr _ _ = _ from h)
  exact mul_q hx hy hb
theorem op_div {x y z : Num} (hx : x.Ok) (hy : y.Ok) (h : opP 247 x y = .ok z) : Div2 x y z := by
  have h' : (if y.zero = true then Got.err 4 else bigOr (sqB y || divB x y) (divN x y)) = .ok z := h
  by_cases hz : y.zero = true
  · rw [if_pos hz] at h'; cases h'
  · rw [if_neg hz] at h'
    obtain ⟨hb, rfl⟩ := bigOr_ok h'
    simp only [Bool.or_eq_false_iff] at hb
    exact div_q hx hy (by simpa using hz) hb.1 hb.2
theorem ring_one {x y u v : Num} (hx : x.Ok) (hy : y.Ok) (h1 : opP 43 x y = .ok u) (h2 : opP 43 y x = .ok v) : u = v := by
  have a := op_add hx hy h1
  have b := op_add hy hx h2
  refine num_ext a.ok b.ok ?_ ?_
  · rw [a.re, b.re]; grind
  · rw [a.im, b.im]; grind
theorem ring_two {x y u v : Num} (hx : x.Ok) (hy : y.Ok) (h1 : opP 215 x y = .ok u) (h2 : opP 215 y x = .ok v) : u = v := by
  have a := op_mul hx hy h1
  have b := op_mul hy hx h2
  refine num_ext a.ok b.ok ?_ ?_
  · rw [a.re, b.re]; grind
  · rw [a.im, b.im]; grind
theorem ring_three {x y u v : Num} (hx : x.Ok) (hy : y.Ok) (h1 : opP 43 x y = .ok u) (h2 : opP 8722 u y = .ok v) : v = x := by
  have a := op_add hx hy h1
  have b := op_sub a.ok hy h2
  refine num_ext b.ok hx ?_ ?_
  · rw [b.re, a.re]; grind
  · rw [b.im, a.im]; grind
theorem ring_four {x y u v : Num} (hx : x.Ok) (hy : y.Ok) (h1 : opP 215 x y = .ok u) (h2 : opP 247 u y = .ok v) : v = x := by
  have a := op_mul hx hy h1
  have b := op_div a.ok hy h2
  have n := b.ne
  refine num_ext b.ok hx ?_ ?_
  · rw [b.re, a.re, a.im]; grind
  · rw [b.im, a.re, a.im]; grind
theorem ring_five {x y z u v p q r : Num} (hx : x.Ok) (hy : y.Ok) (hz : z.Ok) (h1 : opP 43 x y = .ok u) (h2 : opP 215 u z = .ok v) (h3 : opP 215 x z = .ok p) (h4 : opP 215 y z = .ok q) (h5 : opP 43 p q = .ok r) : v = r := by
  have a := op_add hx hy h1
  have b := op_mul a.ok hz h2
  have c := op_mul hx hz h3
  have d := op_mul hy hz h4
  have e := op_add c.ok d.ok h5
  refine num_ext b.ok e.ok ?_ ?_
  · rw [b.re, e.re, a.re, a.im, c.re, d.re]; grind
  · rw [b.im, e.im, a.re, a.im, c.im, d.im]; grind
theorem mirror_mul {x y u v : Num} (hx : x.Ok) (hy : y.Ok) (h1 : opP 215 x y = .ok u) (h2 : opP 215 x.conj y.conj = .ok v) : u.conj = v := by
  have a := op_mul hx hy h1
  have b := op_mul hx.conj hy.conj h2
  refine num_ext a.ok.conj b.ok ?_ ?_
  · rw [b.re]
    show u.re.q = x.re.q * y.re.q - x.im.neg.q * y.im.neg.q
    rw [a.re, neg_q, neg_q]; grind
  · rw [b.im]
    show u.im.neg.q = x.re.q * y.im.neg.q + x.im.neg.q * y.re.q
    rw [neg_q, a.im, neg_q, neg_q]; grind
theorem conj_conj (x : Num) : x.conj.conj = x := by
  cases x
  unfold Num.conj Fr.neg
  simp
end Go.Proofs.YtodabmkcihafhaaGreatDoor

/- The laws' begun, joined, alike. -/
namespace Go.Proofs.YtodabmkcihafhaaGreatDoor
open Go.RowKit
set_option linter.unusedVariables false

def begT : ByteArray := (⟨#[40, 49, 194, 189, 43, 105, 41]⟩ : ByteArray) ++ Utf8.encode 215 ++ ⟨#[105]⟩
theorem begT_v : vN begT = ⟨⟨-1, 1⟩, ⟨3, 2⟩⟩ ∧ vB begT = true := by
  constructor
  · kernel_rfl
  · kernel_rfl
theorem text_fn (c : Nat) (w : World) (hc : c < 55296) : Calls Tryz.prog 21 #[.int .i64 c] w fun e w' => e = .returned (.string (Utf8.encode (c : Int))) ∧ Below w.heap.size w w' :=
  (text_any c w hc).mono fun e w' ⟨h1, o, h2⟩ => ⟨h1, by rw [h2]; exact fr_below w o⟩
theorem cat_run (a b : ByteArray) (h : a.size + b.size ≤ 1152921504606846976) (w : World) : (Op.stringOp .add a b).run Tryz.prog w = .ok (.string (a ++ b)) w := by
  have : ¬ ((a.size + b.size : Nat) : Int) > IntKind.i64.max := by
    have : IntKind.i64.max = 9223372036854775807 := by decide
    rw [this]
    omega
  simp only [Op.stringOp]
  rw [if_neg this]
  rfl

set_option maxHeartbeats 2000000 in
set_option maxRecDepth 100000 in
theorem begun_fn (N : Nat) (aZ aB : Addr) (w : World) (hS : Sen N aZ aB w) (hN : N ≤ w.heap.size) :
    Calls Tryz.prog 18 #[] w fun e w' => e = .returned (.bool true) ∧ Below w.heap.size w w' := by
  have CT := hidMk (text_fn 215 w (by decide))
  have CV := hidMk (fun W (hb : Below w.heap.size w W) => value_fn N aZ aB begT W (hS.below hb hN) (Nat.le_trans hN hb.size))
  have hv := begT_v
  have es : (Utf8.encode 215).size = 2 := by decide
  have c1 := fun W => cat_run ⟨#[40, 49, 194, 189, 43, 105, 41]⟩ (Utf8.encode 215) (by rw [es]; decide) W
  have c2 := fun W => cat_run ((⟨#[40, 49, 194, 189, 43, 105, 41]⟩ : ByteArray) ++ Utf8.encode 215) ⟨#[105]⟩ (by rw [ByteArray.size_append, es]; decide) W
  have C1 := hidMk c1
  have C2 := hidMk c2
  have HV := hidMk hv
  clear hS hN c1 c2 hv es
  go_enter Tryz.func18, Tryz.ntmps18
  go_wp2_with fail
  refine CT.out.mono ?_
  rintro e w1 ⟨rfl, hb1⟩
  have c1 := C1.out w1
  have c2 := C2.out w1
  have e1 : ((215 : Nat) : Int) = 215 := rfl
  rw [e1]
  have HB1 := hidMk hb1
  clear hb1 CT C1 C2 e1
  go_wp2_with fail
  refine (CV.out w1 HB1.out).mono ?_
  rintro e w2 ⟨rfl, hb2⟩
  rw [HV.out.1, HV.out.2]
  have hbb := HB1.out.trans (hb2.mono HB1.out.size)
  clear HB1 hb2 CV HV c1 c2
  go_upto_region 2 with fail
  have hx3 := heap_alloc_new w2 (.cells (numC ⟨⟨-1, 1⟩, ⟨3, 2⟩⟩) 27)
  have hb3 := hbb.trans ((fr_below w2 (.cells (numC ⟨⟨-1, 1⟩, ⟨3, 2⟩⟩) 27)).mono hbb.size)
  generalize w2.alloc _ = W3 at *
  generalize w2.heap.size = b1 at *
  obtain ⟨x0, x1, x2, x3⟩ := four_cells hx3
  have heq := eq4_same (-1) 1 3 2 W3
  have HB3 := hidMk hb3
  clear hbb hb3 hx3
  go_wp2_with fail
  go_ret
  exact ⟨rfl, HB3.out⟩

/-! ### Joined -/
def jT (a : ByteArray) (c : Nat) (b : ByteArray) : ByteArray := (⟨#[40]⟩ : ByteArray) ++ a ++ ⟨#[41]⟩ ++ Utf8.encode (c : Int) ++ ⟨#[40]⟩ ++ b ++ ⟨#[41]⟩
theorem jT_eq (a : ByteArray) (c : Nat) (b : ByteArray) : jT a c b = inBr a ++ Utf8.encode (c : Int) ++ inBr b := by
  unfold jT inBr
  simp [ByteArray.append_assoc]
def jB (a : ByteArray) (c : Nat) (b : ByteArray) : Bool := (refE a == 0 && refE b == 0) && decide (((jT a c b).size : Int) ≤ 120)
theorem cat6 (a : ByteArray) (c : Nat) (b : ByteArray) (ha : a.size ≤ 281474976710656) (hb : b.size ≤ 281474976710656) (hc : c < 55296) :
    ((⟨#[40]⟩ : ByteArray).size + a.size ≤ 1152921504606846976) ∧ (((⟨#[40]⟩ : ByteArray) ++ a).size + (⟨#[41]⟩ : ByteArray).size ≤ 1152921504606846976) ∧ (((⟨#[40]⟩ : ByteArray) ++ a ++ ⟨#[41]⟩).size + (Utf8.encode (c : Int)).size ≤ 1152921504606846976) ∧
    (((⟨#[40]⟩ : ByteArray) ++ a ++ ⟨#[41]⟩ ++ Utf8.encode (c : Int)).size + (⟨#[40]⟩ : ByteArray).size ≤ 1152921504606846976) ∧ (((⟨#[40]⟩ : ByteArray) ++ a ++ ⟨#[41]⟩ ++ Utf8.encode (c : Int) ++ ⟨#[40]⟩).size + b.size ≤ 1152921504606846976) ∧
    (((⟨#[40]⟩ : ByteArray) ++ a ++ ⟨#[41]⟩ ++ Utf8.encode (c : Int) ++ ⟨#[40]⟩ ++ b).size + (⟨#[41]⟩ : ByteArray).size ≤ 1152921504606846976) := by
  have h4 := enc_size (c : Int)
  have e1 : (⟨#[40]⟩ : ByteArray).size = 1 := rfl
  have e2 : (⟨#[41]⟩ : ByteArray).size = 1 := rfl
  simp only [ByteArray.size_append, e1, e2]
  omega

set_option maxHeartbeats 2000000 in
set_option maxRecDepth 100000 in
theorem joined_fn (a : ByteArray) (c : Nat) (b : ByteArray) (w : World) (ha : a.size ≤ 281474976710656) (hb : b.size ≤ 281474976710656) (hc : c < 55296) :
    Calls Tryz.prog 19 #[.string a, .int .i64 c, .string b] w fun e w' => e = .returned (.tuple #[.string (jT a c b), .bool (jB a c b)]) ∧ Below w.heap.size w w' := by
  obtain ⟨k1, k2, k3, k4, k5, k6⟩ := cat6 a c b ha hb hc
  have K1 := hidMk (fun W => cat_run _ _ k1 W)
  have K2 := hidMk (fun W => cat_run _ _ k2 W)
  have K3 := hidMk (fun W => cat_run _ _ k3 W)
  have K4 := hidMk (fun W => cat_run _ _ k4 W)
  have K5 := hidMk (fun W => cat_run _ _ k5 W)
  have K6 := hidMk (fun W => cat_run _ _ k6 W)
  have CP := hidMk (fun t W => print_any t W)
  have CT := hidMk (fun W => text_fn c W hc)
  have CM := hidMk (fun e W => num_any e W)
  have HJ : Hid (jB a c b = ((refE a == 0 && refE b == 0) && decide (((jT a c b).size : Int) ≤ 120))) := rfl
  have HT : Hid (jT a c b = (⟨#[40]⟩ : ByteArray) ++ a ++ ⟨#[41]⟩ ++ Utf8.encode (c : Int) ++ ⟨#[40]⟩ ++ b ++ ⟨#[41]⟩) := rfl
  clear ha hb hc k1 k2 k3 k4 k5 k6
  go_enter Tryz.func19, Tryz.ntmps19
  go_wp2_with fail
  refine (CP.out a w).mono ?_
  rintro e w1 ⟨rfl, hb1⟩
  have HB1 := hidMk hb1
  clear hb1
  go_wp2_with fail
  refine (CP.out b w1).mono ?_
  rintro e w2 ⟨rfl, hb2⟩
  have hbb2 := HB1.out.trans (hb2.mono HB1.out.size)
  have HB2 := hidMk hbb2
  clear hb2 hbb2 HB1
  have r1 := K1.out w2
  have r2 := K2.out w2
  go_wp2_with fail
  refine (CT.out w2).mono ?_
  rintro e w3 ⟨rfl, hb3⟩
  have hbb3 := HB2.out.trans (hb3.mono HB2.out.size)
  have HB3 := hidMk hbb3
  clear hb3 hbb3 HB2 r1 r2
  have r3 := K3.out w3
  have r4 := K4.out w3
  have r5 := K5.out w3
  have r6 := K6.out w3
  go_upto_region 4 with fail
  clear r3 r4 r5 r6 K1 K2 K3 K4 K5 K6
  have ht := HT.out
  have hj := HJ.out
  generalize (⟨#[40]⟩ : ByteArray) ++ a ++ ⟨#[41]⟩ ++ Utf8.encode (c : Int) ++ ⟨#[40]⟩ ++ b ++ ⟨#[41]⟩ = t at *
  rw [ht] at hj
  have HJ2 := hidMk hj
  have HT2 := hidMk ht
  clear HJ HT hj ht
  generalize refE a = p at *
  generalize refE b = q at *
  go_wp2_with (go_at_call 15; refine (CM.out _ _).mono ?_; rintro e w7 ⟨rfl, rfl⟩)
  · rename_i hp hq
    subst hp hq
    go_ret2
    refine ⟨?_, HB3.out⟩
    rw [HT2.out, HJ2.out]
    rfl
  · rename_i hp hq
    subst hp
    go_ret2
    refine ⟨?_, HB3.out⟩
    rw [HT2.out, HJ2.out]
    simp [hq]
  · rename_i hp
    go_ret2
    refine ⟨?_, HB3.out⟩
    rw [HT2.out, HJ2.out]
    simp [hp]
end Go.Proofs.YtodabmkcihafhaaGreatDoor

/- The law Kept. -/
namespace Go.Proofs.YtodabmkcihafhaaGreatDoor
open Go.RowKit
set_option linter.unusedVariables false
/-- A book that was made since w0, and what it stands on. -/
structure BW (N : Nat) (aZ aB : Addr) (w0 : World) (K : Nat) (names : List (Int × Num)) (W : World) : Prop where
  ex : ∃ P m T r, Bk N aZ aB K P m T r names W ∧ w0.heap.size ≤ r
  u : U8T W
  hK : w0.heap.size ≤ K
  hN : N ≤ w0.heap.size
  nm : names.length ≤ 1000
  hb : Below w0.heap.size w0 W
/-- Boxes of four numbers lie as they lay. -/
def K4 (W W' : World) : Prop := ∀ (b : Nat) (c : Array Value), W.heap[b]? = some (.cells c 27 (0, 0)) → W'.heap[b]? = some (.cells c 27 (0, 0))
theorem K4.of_below {W W' : World} (g : Below W.heap.size W W') : K4 W W' := fun b c h => (g.block _ (Array.getElem?_eq_some_iff.1 h).1).trans h
section
variable {N : Nat} {aZ aB : Addr} {w0 : World} {K : Nat} {names : List (Int × Num)} {W W' : World}
theorem BW.below (h : BW N aZ aB w0 K names W) (g : Below W.heap.size W W') : BW N aZ aB w0 K names W' := by
  obtain ⟨P, m, T, r, h1, h2⟩ := h.ex
  exact ⟨⟨P, m, T, r, h1.below g, h2⟩, h.u.kept h1.pw.pg.hS (fun j hj => g.block j (by have := h1.pw.pg.hN; omega)), h.hK, h.hN, h.nm, h.hb.trans (g.mono h.hb.size)⟩
theorem bw_value (s : ByteArray) (h : BW N aZ aB w0 K names W) : Calls Tryz.prog 14 #[.pointer (some ⟨K, 0, none⟩), .string s] W fun e w' => e = .returned (ansV (valS names s)) ∧ BW N aZ aB w0 K names w' ∧ K4 W w' := by
  obtain ⟨P, m, T, r, h1, h2⟩ := h.ex
  refine (value_any N aZ aB K P m T r names s W h1).mono ?_
  rintro e w' ⟨rfl, ht, hk⟩
  have hS := h1.pw.pg.hS
  have hNN := h1.pw.pg.hN
  have hN0 := h.hN
  obtain ⟨es, clock, hr, _⟩ := h1.pw.tb.hr
  refine ⟨rfl, ⟨⟨P, m, T, r, h1.kept hk ht, h2⟩, h.u.kept hS (fun j hj => hk.block j (by omega) (by omega)), h.hK, h.hN, h.nm, h.hb.trans (hk.low h2 h.hb.size)⟩, fun b c hb => ?_⟩
  rw [hk.block b (Array.getElem?_eq_some_iff.1 hb).1 (fun e => by rw [e, hr] at hb; cases hb)]
  exact hb
theorem bw_let (nm s : ByteArray) (h : BW N aZ aB w0 K names W) : Calls Tryz.prog 23 #[.pointer (some ⟨K, 0, none⟩), .string nm, .string s] W fun e w' => e = .returned (.tuple #[.int .i64 (letR names nm s).1, .int .i64 (letR names nm s).2.1]) ∧ BW N aZ aB w0 K (letR names nm s).2.2 w' ∧ K4 W w' := by
  obtain ⟨P, m, T, r, h1, h2⟩ := h.ex
  have hN0 := h.hN
  have hK0 := h.hK
  refine (blet_any N aZ aB K P m T r names nm s W h1 h.u (by omega) h.nm).mono ?_
  rintro e w' ⟨rfl, P', m', T', r', hbk, hk, _, _, _, hr'⟩
  have hS := h1.pw.pg.hS
  have hNN := h1.pw.pg.hN
  obtain ⟨es, clock, hr, _⟩ := h1.pw.tb.hr
  have hsz := h.hb.size
  refine ⟨rfl, ⟨⟨P', m', T', r', hbk, by rcases hr' with rfl | h <;> omega⟩, h.u.kept hS (fun j hj => hk.block j (by omega) (by omega)), h.hK, h.hN, let_len nm s h.nm, h.hb.trans ⟨hk.os, hk.tape, hk.output, hk.size, fun k hkk => hk.block k (by omega) (by omega)⟩⟩, fun b c hb => ?_⟩
  rw [hk.block b (Array.getElem?_eq_some_iff.1 hb).1 ?_]
  · exact hb
  · rintro (e | e)
    · have := h1.hK
      rw [← e, hb] at this
      simp at this
    · rw [e, hr] at hb
      cases hb
theorem bw_new (w1 : World) (hS : Sen N aZ aB w1) (hN : N ≤ w0.heap.size) (hU : U8T w1) (hb : Below w0.heap.size w0 w1) :
    Calls Tryz.prog 12 #[] w1 fun e w' => ∃ K, e = .returned (.pointer (some ⟨K, 0, none⟩)) ∧ BW N aZ aB w0 K [] w' := by
  refine (new_any N aZ aB w1 hS (Nat.le_trans hN hb.size)).mono ?_
  rintro e w' ⟨rfl, hbk, hb'⟩
  have := hb.size
  exact ⟨_, rfl, ⟨_, _, _, _, hbk, by omega⟩, hU.kept hS (fun j hj => hb'.block j (by omega)), by omega, hN, by simp, hb.trans (hb'.mono hb.size)⟩
end
end Go.Proofs.YtodabmkcihafhaaGreatDoor
