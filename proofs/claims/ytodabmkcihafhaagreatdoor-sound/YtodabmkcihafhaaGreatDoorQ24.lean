import Derived.Test.YtodabmkcihafhaaGreatDoorQ16
import Derived.Test.YtodabmkcihafhaaGreatDoorQ22

/- Plain: the one form, read again. -/
namespace Go.Proofs.YtodabmkcihafhaaGreatDoor
set_option linter.unusedVariables false

def NoNum (c : Int) : Prop := isDig c = false ∧ isFrac c = false
theorem jn_no {t : Tok} {r : List Tok} (h : NoNum t.c) : isDig (jn (t :: r)) = false ∧ isFrac (jn (t :: r)) = false := by
  rcases jn_cases (t :: r) with q | q <;> rw [q]
  · exact h
  · exact ⟨rfl, rfl⟩
theorem jn_tk {c : Int} {p : Nat} {r : List Tok} : jn (⟨c, p, false⟩ :: r) = c := rfl
theorem Tk.nil_inv {U : List Tok} (h : Tk [] U) : U = [] := by
  unfold Tk at h
  simpa using h
theorem digs_read : ∀ (n : Nat) (ds : List Int) (U : List Tok) (X : List Tok), ds.length ≤ n → (∀ c ∈ ds, isDig c = true) → Tk ds U → (ds.length < n → isDig (jn X) = false) → digs n (U ++ X) = (ds, X) := by
  intro n
  induction n with
  | zero =>
    intro ds U X h1 h2 h3 h4
    cases ds with
    | nil =>
      obtain rfl := h3.nil_inv
      rfl
    | cons d r => simp at h1
  | succ n ih =>
    intro ds U X h1 h2 h3 h4
    cases ds with
    | nil =>
      obtain rfl := h3.nil_inv
      have := h4 (by simp)
      simp only [List.nil_append, digs, this]
      rfl
    | cons d r =>
      obtain ⟨p, V, rfl, hV⟩ := h3.cons_inv
      have hd := h2 d (by simp)
      have i := ih r V X (by simpa using h1) (fun c hc => h2 c (by simp [hc])) hV (fun h => h4 (by simpa using h))
      simp only [List.cons_append, digs, jn_tk, hd, if_true, List.tail_cons, i]
theorem frac_dig {c : Int} (h : isFrac c = true) : isDig c = false := by
  unfold isFrac at h
  unfold isDig
  simp at h ⊢
  omega
theorem nume_read {l : List Int} (hl : NumeOk l) {U : List Tok} (hU : Tk l U) {t : Tok} {r : List Tok} (ht : NoNum t.c) : ∃ c p V, U = ⟨c, p, false⟩ :: V ∧ (isDig c || isFrac c) = true ∧ numT (U ++ t :: r) = (l, t :: r) := by
  have jx := jn_no (r := r) ht
  rcases hl with ⟨c, rfl, hc⟩ | ⟨d, ds, fr, rfl, h1, h2, h3, h4, h5⟩
  · obtain ⟨p, V, rfl, hV⟩ := hU.cons_inv
    obtain rfl := hV.nil_inv
    refine ⟨c, p, [], rfl, by rw [hc]; simp, ?_⟩
    show numT (⟨c, p, false⟩ :: t :: r) = _
    unfold numT
    have e1 : hd (⟨c, p, false⟩ :: t :: r) = c := rfl
    rw [e1, if_pos hc]
    rfl
  · obtain ⟨p, V, rfl, hV⟩ := hU.cons_inv
    obtain ⟨W, F, rfl, hW, hF⟩ := hV.append_inv
    have hnf : isFrac d = false := by
      unfold isDig at h1
      unfold isFrac
      simp at h1 ⊢
      omega
    refine ⟨d, p, W ++ F, rfl, by rw [h1]; rfl, ?_⟩
    have ef : fracT (F ++ t :: r) = (fr, t :: r) := by
      rcases h5 with rfl | ⟨c, rfl, hc⟩
      · obtain rfl := hF.nil_inv
        unfold fracT
        rw [List.nil_append, jx.2]
        rfl
      · obtain ⟨q, V, rfl, hV2⟩ := hF.cons_inv
        obtain rfl := hV2.nil_inv
        show fracT (⟨c, q, false⟩ :: t :: r) = _
        unfold fracT
        rw [jn_tk, if_pos hc]
        rfl
    have ej : isDig (jn (F ++ t :: r)) = false := by
      rcases h5 with rfl | ⟨c, rfl, hc⟩
      · obtain rfl := hF.nil_inv
        exact jx.1
      · obtain ⟨q, V, rfl, hV⟩ := hF.cons_inv
        exact frac_dig hc
    have e1 : (⟨d, p, false⟩ :: (W ++ F)) ++ t :: r = ⟨d, p, false⟩ :: (W ++ (F ++ t :: r)) := by simp
    rw [e1]
    unfold numT
    have e2 : hd (⟨d, p, false⟩ :: (W ++ (F ++ t :: r))) = d := rfl
    rw [e2, if_neg (by rw [hnf]; decide)]
    by_cases h0 : d = 48
    · have e3 := h2 h0
      subst e3
      obtain rfl := hW.nil_inv
      simp only [h0, if_true, List.nil_append, List.tail_cons, ef]
      rfl
    · have e3 := digs_read 2 ds W (F ++ t :: r) h3 h4 hW (fun _ => ej)
      simp only [h0, if_false, List.tail_cons, e3, ef]
      rfl

/-- What the signs of a tree's form are read as, those behind them being 't :: r'. -/
structure Rd (e : Ex) (U : List Tok) (x : Ex) (t : Tok) (r : List Tok) : Prop where
  three : 3 ≤ rankP (opE e) → ∃ e', e'.plain = e.plain ∧ PT 2 x (U ++ t :: r) = PT 6 e' (t :: r)
  two : 2 ≤ rankP (opE e) → isMk t.c = false → ∃ e', e'.plain = e.plain ∧ PT 2 x (U ++ t :: r) = ⟨true, e', t :: r⟩
  one : 1 ≤ rankP (opE e) → isMk t.c = false → ∃ e', e'.plain = e.plain ∧ PT 1 x (U ++ t :: r) = PT 5 e' (t :: r)
  zero : isMk t.c = false → inRow 1 t.c = false → ∃ e', e'.plain = e.plain ∧ PT 0 x (U ++ t :: r) = PT 4 e' (t :: r)
theorem six_stop {e : Ex} {t : Tok} {r : List Tok} (h : isMk t.c = false) : PT 6 e (t :: r) = ⟨true, e, t :: r⟩ := by rw [PT_6, if_neg (by rw [h]; decide)]
theorem five_stop {e : Ex} {t : Tok} {r : List Tok} (h : inRow 1 t.c = false) : PT 5 e (t :: r) = ⟨true, e, t :: r⟩ := by rw [PT_5, if_neg (by rw [h]; decide)]
theorem four_stop {e : Ex} {t : Tok} {r : List Tok} (h : inRow 0 t.c = false) : PT 4 e (t :: r) = ⟨true, e, t :: r⟩ := by rw [PT_4, if_neg (by rw [h]; decide)]
theorem two_of_three {e : Ex} {U : List Tok} {x : Ex} {t : Tok} {r : List Tok} (h : ∃ e', e'.plain = e.plain ∧ PT 2 x (U ++ t :: r) = PT 6 e' (t :: r)) (hm : isMk t.c = false) : ∃ e', e'.plain = e.plain ∧ PT 2 x (U ++ t :: r) = ⟨true, e', t :: r⟩ := by
  obtain ⟨e', h1, h2⟩ := h
  exact ⟨e', h1, by rw [h2, six_stop hm]⟩
theorem one_of_two {e : Ex} {U : List Tok} {x : Ex} {t : Tok} {r : List Tok} (h : ∃ e', e'.plain = e.plain ∧ PT 2 x (U ++ t :: r) = ⟨true, e', t :: r⟩) : ∃ e', e'.plain = e.plain ∧ PT 1 x (U ++ t :: r) = PT 5 e' (t :: r) := by
  obtain ⟨e', h1, h2⟩ := h
  exact ⟨e', h1, by rw [PT_1, h2, if_pos rfl]⟩
theorem zero_of_one {e : Ex} {U : List Tok} {x : Ex} {t : Tok} {r : List Tok} (h : ∃ e', e'.plain = e.plain ∧ PT 1 x (U ++ t :: r) = PT 5 e' (t :: r)) (hr : inRow 1 t.c = false) : ∃ e', e'.plain = e.plain ∧ PT 0 x (U ++ t :: r) = PT 4 e' (t :: r) := by
  obtain ⟨e', h1, h2⟩ := h
  rw [five_stop hr] at h2
  exact ⟨e', h1, by rw [PT_0, h2, if_pos rfl]⟩
theorem Rd.of_three {e : Ex} {U : List Tok} {x : Ex} {t : Tok} {r : List Tok} (h : ∃ e', e'.plain = e.plain ∧ PT 2 x (U ++ t :: r) = PT 6 e' (t :: r)) : Rd e U x t r :=
  ⟨fun _ => h, fun _ hm => two_of_three h hm, fun _ hm => one_of_two (two_of_three h hm), fun hm hr => zero_of_one (one_of_two (two_of_three h hm)) hr⟩
theorem Rd.of_two {e : Ex} {U : List Tok} {x : Ex} {t : Tok} {r : List Tok} (hk : rankP (opE e) < 3) (h : isMk t.c = false → ∃ e', e'.plain = e.plain ∧ PT 2 x (U ++ t :: r) = ⟨true, e', t :: r⟩) : Rd e U x t r :=
  ⟨fun h3 => by omega, fun _ hm => h hm, fun _ hm => one_of_two (h hm), fun hm hr => zero_of_one (one_of_two (h hm)) hr⟩
theorem Rd.of_one {e : Ex} {U : List Tok} {x : Ex} {t : Tok} {r : List Tok} (hk : rankP (opE e) < 2) (h : isMk t.c = false → ∃ e', e'.plain = e.plain ∧ PT 1 x (U ++ t :: r) = PT 5 e' (t :: r)) : Rd e U x t r :=
  ⟨fun h3 => by omega, fun h2 _ => by omega, fun _ hm => h hm, fun hm hr => zero_of_one (h hm) hr⟩
theorem Rd.of_zero {e : Ex} {U : List Tok} {x : Ex} {t : Tok} {r : List Tok} (hk : rankP (opE e) < 1) (h : isMk t.c = false → inRow 1 t.c = false → ∃ e', e'.plain = e.plain ∧ PT 0 x (U ++ t :: r) = PT 4 e' (t :: r)) : Rd e U x t r :=
  ⟨fun h3 => by omega, fun h2 _ => by omega, fun h1 _ => by omega, h⟩
/-- In brackets. -/
theorem br_rd {e : Ex} (ih : ∀ U x t r, Tk (sgE e) U → NoNum t.c → Rd e U x t r) {U : List Tok} {x : Ex} {t : Tok} {r : List Tok} (hU : Tk (40 :: (sgE e ++ [41])) U) : ∃ e', e'.plain = e.plain ∧ PT 2 x (U ++ t :: r) = PT 6 e' (t :: r) := by
  obtain ⟨p, V, rfl, hV⟩ := hU.cons_inv
  obtain ⟨A, B, rfl, hA, hB⟩ := hV.append_inv
  obtain ⟨q, C, rfl, hC⟩ := hB.cons_inv
  obtain rfl := hC.nil_inv
  obtain ⟨e', h1, h2⟩ := (ih A x ⟨41, q, false⟩ (t :: r) hA ⟨rfl, rfl⟩).zero rfl rfl
  rw [four_stop rfl] at h2
  refine ⟨e', h1, ?_⟩
  have e1 : ⟨40, p, false⟩ :: (A ++ [⟨41, q, false⟩]) ++ t :: r = (⟨40, p, false⟩ : Tok) :: (A ++ ⟨41, q, false⟩ :: t :: r) := by simp
  have e3 : PT 3 x (⟨40, p, false⟩ :: (A ++ ⟨41, q, false⟩ :: t :: r)) = ⟨true, e', t :: r⟩ := by
    rw [PT_3, if_neg (show ¬ (isDig 40 || isFrac 40) = true by decide), if_neg (show ¬ ((40 : Int) = 105 ∨ isNm 40 = true) by decide), if_pos rfl, h2, if_pos rfl, if_pos (show hd (⟨41, q, false⟩ :: t :: r) = 41 from rfl)]
    rfl
  rw [e1, PT_2, if_neg (show ¬ ((40 : Int) = 8722) by decide), e3, if_pos rfl]
theorem brk_three {e : Ex} (ih : ∀ U x t r, Tk (sgE e) U → NoNum t.c → Rd e U x t r) {U : List Tok} {x : Ex} {t : Tok} {r : List Tok} (ht : NoNum t.c) (hU : Tk (brkL (rankP (opE e)) 3 (sgE e)) U) : ∃ e', e'.plain = e.plain ∧ PT 2 x (U ++ t :: r) = PT 6 e' (t :: r) := by
  unfold brkL at hU
  split at hU
  · exact br_rd ih hU
  · exact (ih U x t r hU ht).three (by omega)
theorem brk_two {e : Ex} (ih : ∀ U x t r, Tk (sgE e) U → NoNum t.c → Rd e U x t r) {U : List Tok} {x : Ex} {t : Tok} {r : List Tok} (ht : NoNum t.c) (hm : isMk t.c = false) (hU : Tk (brkL (rankP (opE e)) 2 (sgE e)) U) : ∃ e', e'.plain = e.plain ∧ PT 2 x (U ++ t :: r) = ⟨true, e', t :: r⟩ := by
  unfold brkL at hU
  split at hU
  · exact two_of_three (br_rd ih hU) hm
  · exact (ih U x t r hU ht).two (by omega) hm
theorem brk_one {e : Ex} (ih : ∀ U x t r, Tk (sgE e) U → NoNum t.c → Rd e U x t r) {U : List Tok} {x : Ex} {t : Tok} {r : List Tok} (ht : NoNum t.c) (hm : isMk t.c = false) (hU : Tk (brkL (rankP (opE e)) 1 (sgE e)) U) : ∃ e', e'.plain = e.plain ∧ PT 1 x (U ++ t :: r) = PT 5 e' (t :: r) := by
  unfold brkL at hU
  split at hU
  · exact one_of_two (two_of_three (br_rd ih hU) hm)
  · exact (ih U x t r hU ht).one (by omega) hm
theorem form_rd : ∀ e : Ex, ExOk e → ∀ U x t r, Tk (sgE e) U → NoNum t.c → Rd e U x t r := by
  intro e
  induction e with
  | num l p =>
    intro hok U x t r hU ht
    obtain ⟨c, q, V, rfl, h1, h2⟩ := nume_read (r := r) hok hU ht
    refine Rd.of_three ⟨.num l q, rfl, ?_⟩
    have e3 : PT 3 x (⟨c, q, false⟩ :: V ++ t :: r) = ⟨true, .num l q, t :: r⟩ := by
      rw [List.cons_append, PT_3, if_pos h1]
      rw [List.cons_append] at h2
      rw [h2]
    have hc : ¬ c = 8722 := by
      intro hc
      rw [hc] at h1
      revert h1
      decide
    rw [List.cons_append] at e3 ⊢
    rw [PT_2, if_neg hc, e3, if_pos rfl]
  | leaf c p =>
    intro hok U x t r hU ht
    obtain ⟨q, V, rfl, hV⟩ := hU.cons_inv
    obtain rfl := hV.nil_inv
    have hc := leaf_cases hok
    have h1 : (isDig c || isFrac c) = false := by unfold isDig isFrac; simp; omega
    refine Rd.of_three ⟨.leaf c q, rfl, ?_⟩
    show PT 2 x (⟨c, q, false⟩ :: t :: r) = _
    have e3 : PT 3 x (⟨c, q, false⟩ :: t :: r) = ⟨true, .leaf c q, t :: r⟩ := by
      rw [PT_3, if_neg (by rw [h1]; decide), if_pos (show c = 105 ∨ isNm c = true from hok)]
    rw [PT_2, if_neg (show ¬ c = 8722 by omega), e3, if_pos rfl]
  | un c p e ih =>
    intro hok U x t r hU ht
    have i := ih hok.2
    simp only [sgE] at hU
    rcases un_cases hok.1 with rfl | hc
    · rw [if_pos rfl] at hU
      obtain ⟨q, V, rfl, hV⟩ := hU.cons_inv
      refine Rd.of_two (show rankP 110 < 3 by decide) (fun hm => ?_)
      obtain ⟨e', h1, h2⟩ := brk_two (x := x) (r := r) i ht hm hV
      refine ⟨.un 110 q e', by simp only [Ex.plain, h1], ?_⟩
      rw [List.cons_append, PT_2, if_pos rfl, h2, if_pos rfl]
    · rw [if_neg (by omega)] at hU
      obtain ⟨A, B, rfl, hA, hB⟩ := hU.append_inv
      obtain ⟨q, C, rfl, hC⟩ := hB.cons_inv
      obtain rfl := hC.nil_inv
      have hn : NoNum c := by rcases hc with rfl | rfl <;> exact ⟨rfl, rfl⟩
      have hk : isMk c = true := by rcases hc with rfl | rfl <;> rfl
      obtain ⟨e', h1, h2⟩ := brk_three (x := x) (t := ⟨c, q, false⟩) (r := t :: r) i hn hA
      refine Rd.of_three ⟨.un c q e', by simp only [Ex.plain, h1], ?_⟩
      have e1 : A ++ [⟨c, q, false⟩] ++ t :: r = A ++ (⟨c, q, false⟩ :: t :: r) := by simp
      rw [e1, h2, PT_6, if_pos hk]
  | bin c p l rr ihl ihr =>
    intro hok U x t r hU ht
    have il := ihl hok.2.1
    have ir := ihr hok.2.2
    have hc := bin_cases hok.1
    have hn : NoNum c := by rcases hc with rfl | rfl | rfl | rfl <;> exact ⟨rfl, rfl⟩
    have hk : isMk c = false := by rcases hc with rfl | rfl | rfl | rfl <;> rfl
    simp only [sgE] at hU
    by_cases h0 : c = 43 ∨ c = 8722
    · rw [if_pos h0] at hU
      obtain ⟨A, B, rfl, hA, hB⟩ := hU.append_inv
      obtain ⟨q, C, rfl, hC⟩ := hB.cons_inv
      have hA' : Tk (sgE l) A := by
        unfold brkL at hA
        rw [if_neg (by omega)] at hA
        exact hA
      have hr1 : inRow 1 c = false := by rcases h0 with rfl | rfl <;> rfl
      have hr0 : inRow 0 c = true := by rcases h0 with rfl | rfl <;> rfl
      refine Rd.of_zero (by show rankP c < 1; unfold rankP; rw [if_pos h0]; decide) (fun hm hr => ?_)
      obtain ⟨e1, h1, h2⟩ := (il A x ⟨c, q, false⟩ (C ++ t :: r) hA' hn).zero hk hr1
      obtain ⟨e2, h3, h4⟩ := brk_one (x := e1) (r := r) ir ht hm hC
      refine ⟨.bin c q e1 e2, by simp only [Ex.plain, h1, h3], ?_⟩
      have e3 : A ++ ⟨c, q, false⟩ :: C ++ t :: r = A ++ (⟨c, q, false⟩ :: (C ++ t :: r)) := by simp
      rw [five_stop hr] at h4
      rw [e3, h2, PT_4, if_pos hr0, h4, if_pos rfl]
    · rw [if_neg h0] at hU
      obtain ⟨A, B, rfl, hA, hB⟩ := hU.append_inv
      obtain ⟨q, C, rfl, hC⟩ := hB.cons_inv
      have h0' : c = 215 ∨ c = 247 := by omega
      have hr1 : inRow 1 c = true := by rcases h0' with rfl | rfl <;> rfl
      refine Rd.of_one (by show rankP c < 2; unfold rankP; rw [if_neg h0, if_pos h0']; decide) (fun hm => ?_)
      obtain ⟨e1, h1, h2⟩ := brk_one (x := x) (t := ⟨c, q, false⟩) (r := C ++ t :: r) il hn hk hA
      obtain ⟨e2, h3, h4⟩ := brk_two (x := e1) (r := r) ir ht hm hC
      refine ⟨.bin c q e1 e2, by simp only [Ex.plain, h1, h3], ?_⟩
      have e3 : A ++ ⟨c, q, false⟩ :: C ++ t :: r = A ++ (⟨c, q, false⟩ :: (C ++ t :: r)) := by simp
      rw [e3, h2, PT_5, if_pos hr1, h4, if_pos rfl]
/-- The one form is an expression, of the same tree. -/
theorem form_tree (e : Ex) (h : ExOk e) (hs : (fmE e).size ≤ 120) : good (fmE e) = true ∧ (treeT (fmE e)).plain = e.plain := by
  have hS : Sits (fmE e) 0 (encAll (sgE e)) := by rw [← fmE_enc]; exact Sits.all _
  obtain ⟨U, h1, h2⟩ := toks_written (sgE e) (fmE e) 0 (sg_all e h) hS
  rw [at_end (fmE e) (0 + (encAll (sgE e)).size) (by rw [fmE_enc]; omega)] at h2
  obtain ⟨e', h3, h4⟩ := (form_rd e h U e0 ⟨-1, (fmE e).size, false⟩ [] h1 ⟨rfl, rfl⟩).zero rfl rfl
  rw [← h2, four_stop rfl] at h4
  have g := good_of hs rfl h4
  exact ⟨g.1, by rw [g.2, h3]⟩
end Go.Proofs.YtodabmkcihafhaaGreatDoor

/- Plain: the one form is no longer than the text. -/
namespace Go.Proofs.YtodabmkcihafhaaGreatDoor
set_option linter.unusedVariables false

def wt (t : Tok) : Nat := if isSg t.c = true then (Utf8.encode t.c).size else 0
def wts : List Tok → Nat
  | [] => 0
  | t :: r => wt t + wts r
theorem dec_width (s : ByteArray) (i : Nat) (h : i < s.size) (hk : known (Utf8.decode s i).1 = true) : (Utf8.decode s i).2 = (Utf8.encode ((Utf8.decode s i).1 : Int)).size := by
  rw [enc_wid _ hk]
  have ha := at_dec s i h
  rw [if_pos hk] at ha
  rw [← ha]
  have l0 := bt_lt s i
  have l1 := bt_lt s (i + 1)
  unfold atP
  rw [if_neg (by omega)]
  by_cases h1 : bt s i < 128
  · rw [if_pos h1]
    show 1 = if bt s i < 128 then 1 else _
    rw [if_pos h1]
  · rw [if_neg h1]
    by_cases h2 : 194 ≤ bt s i ∧ bt s i ≤ 223 ∧ i + 1 < s.size ∧ bt s (i + 1) / 64 = 2
    · rw [if_pos h2]
      show 2 = if bt s i % 32 * 64 + bt s (i + 1) % 64 < 128 then 1 else if bt s i % 32 * 64 + bt s (i + 1) % 64 < 2048 then 2 else 3
      rw [if_neg (by omega), if_pos (by omega)]
    · rw [if_neg h2]
      by_cases h3 : bt s i = 226 ∧ i + 2 < s.size ∧ bt s (i + 1) / 64 = 2 ∧ bt s (i + 2) / 64 = 2
      · rw [if_pos h3]
        show 3 = if 8192 + bt s (i + 1) % 64 * 64 + bt s (i + 2) % 64 < 128 then 1 else if 8192 + bt s (i + 1) % 64 * 64 + bt s (i + 2) % 64 < 2048 then 2 else 3
        rw [if_neg (by omega), if_neg (by omega)]
      · exfalso
        unfold atP at ha
        rw [if_neg (by omega), if_neg h1, if_neg h2, if_neg h3] at ha
        have := dec_pos s i h
        rw [← ha] at this
        simp at this
theorem toks_wts (s : ByteArray) : ∀ (d i : Nat) (ap : Bool), s.size ≤ i + d → i ≤ s.size → wts (toks s i ap) + i ≤ s.size := by
  have we : ∀ (n : Nat) (b : Bool), wt ⟨-1, n, b⟩ = 0 := fun n b => rfl
  intro d
  induction d with
  | zero =>
    intro i ap h1 h2
    rw [toks_end s i ap (by omega)]
    show wt _ + 0 + i ≤ _
    rw [we]
    omega
  | succ d ih =>
    intro i ap h1 h2
    by_cases h : i < s.size
    · have st := dec_step s i h
      have ps := dec_pos s i h
      rw [toks_step s i ap h]
      by_cases hb : (Utf8.decode s i).1 = 32
      · rw [if_pos hb]
        have := ih (i + (Utf8.decode s i).2) true (by omega) st
        omega
      · rw [if_neg hb]
        have := ih (i + (Utf8.decode s i).2) false (by omega) st
        have hw : wt ⟨((Utf8.decode s i).1 : Int), i, ap⟩ ≤ (Utf8.decode s i).2 := by
          unfold wt
          split
          · rename_i hs
            obtain ⟨n, hn, hk, _⟩ := isSg_known hs
            have hn' : (Utf8.decode s i).1 = n := by
              have : ((Utf8.decode s i).1 : Int) = n := hn
              omega
            rw [dec_width s i h (by rw [hn']; exact hk)]
            exact Nat.le_refl _
          · exact Nat.zero_le _
        show wt _ + wts _ + i ≤ _
        omega
    · rw [toks_end s i ap (by omega)]
      show wt _ + 0 + i ≤ _
      rw [we]
      omega

def brkS (r least n : Nat) : Nat := if r < least then n + 2 else n
theorem brk_wid (r least : Nat) (t : ByteArray) : (brk r least t).size = brkS r least t.size := by
  unfold brk brkS
  split
  · rw [mid_size]
    show 1 + t.size + 1 = t.size + 2
    omega
  · rfl
theorem brkS_mono (r n : Nat) {a b : Nat} (h : a ≤ b) : brkS r a n ≤ brkS r b n := by
  unfold brkS
  split <;> split <;> omega
theorem brkS_le (r a n : Nat) : brkS r a n ≤ n + 2 := by
  unfold brkS
  split <;> omega
theorem brkS_off {r a n : Nat} (h : a ≤ r) : brkS r a n = n := by
  unfold brkS
  rw [if_neg (by omega)]
def lev (tag : Nat) : Nat := if tag = 0 then 0 else if tag = 1 then 1 else if tag = 2 then 2 else if tag = 3 then 3 else if tag = 4 then 0 else if tag = 5 then 1 else 3
def cost (tag : Nat) (e : Ex) : Nat := brkS (rankP (opE e)) (lev tag) (fmE e).size

theorem wt_of {t : Tok} (h : isSg t.c = true) : wt t = (Utf8.encode t.c).size := by
  unfold wt
  rw [if_pos h]
theorem dig_sg {c : Int} (h : isDig c = true) : isSg c = true := by unfold isSg; simp [h]
theorem frac_sg {c : Int} (h : isFrac c = true) : isSg c = true := by unfold isSg; simp [h]
theorem digs_wts : ∀ (n : Nat) (ts : List Tok), (encAll (digs n ts).1).size + wts (digs n ts).2 = wts ts := by
  intro n
  induction n with
  | zero => intro ts; show 0 + _ = _; rw [Nat.zero_add]; rfl
  | succ n ih =>
    intro ts
    simp only [digs]
    by_cases h : isDig (jn ts) = true
    · rw [if_pos h]
      cases ts with
      | nil => simp [jn, isDig] at h
      | cons t r =>
        have hj : jn (t :: r) = t.c := by
          rcases jn_cases (t :: r) with q | q
          · exact q
          · rw [q] at h; simp [isDig] at h
        rw [hj] at h ⊢
        show (encAll (t.c :: (digs n r).1)).size + wts (digs n r).2 = wt t + wts r
        rw [encAll_cons, ByteArray.size_append, wt_of (dig_sg h)]
        have := ih r
        omega
    · rw [if_neg h]
      show 0 + _ = _
      rw [Nat.zero_add]
theorem frac_wts (ts : List Tok) : (encAll (fracT ts).1).size + wts (fracT ts).2 = wts ts := by
  unfold fracT
  by_cases h : isFrac (jn ts) = true
  · rw [if_pos h]
    cases ts with
    | nil => simp [jn, isFrac] at h
    | cons t r =>
      have hj : jn (t :: r) = t.c := by
        rcases jn_cases (t :: r) with q | q
        · exact q
        · rw [q] at h; simp [isFrac] at h
      rw [hj] at h ⊢
      show (encAll [t.c]).size + wts r = wt t + wts r
      rw [enc_one', wt_of (frac_sg h)]
  · rw [if_neg h]
    show 0 + _ = _
    rw [Nat.zero_add]
theorem numT_wts (t : Tok) (r : List Tok) (h : (isDig t.c || isFrac t.c) = true) : (encAll (numT (t :: r)).1).size + wts (numT (t :: r)).2 = wt t + wts r := by
  have hs : isSg t.c = true := by
    simp only [Bool.or_eq_true] at h
    rcases h with h | h
    · exact dig_sg h
    · exact frac_sg h
  unfold numT
  have e1 : hd (t :: r) = t.c := rfl
  rw [e1]
  by_cases hf : isFrac t.c = true
  · rw [if_pos hf]
    show (encAll [t.c]).size + wts r = _
    rw [enc_one', wt_of hs]
  · rw [if_neg hf]
    have key : ∀ x : List Int × List Tok, (encAll x.1).size + wts x.2 = wts r → (encAll (t.c :: x.1 ++ (fracT x.2).1)).size + wts (fracT x.2).2 = wt t + wts r := by
      intro x hx
      have := frac_wts x.2
      rw [List.cons_append, encAll_cons, encAll_append, ByteArray.size_append, ByteArray.size_append, wt_of hs]
      omega
    refine key _ ?_
    by_cases h0 : t.c = 48
    · rw [if_pos h0]
      show 0 + wts r = _
      omega
    · rw [if_neg h0]
      exact digs_wts 2 r
theorem pt_cost : ∀ (f tag : Nat) (e : Ex) (ts : List Tok), (pt f tag e ts).ok = true → cost tag (pt f tag e ts).e + wts (pt f tag e ts).ts ≤ wts ts + (if tag < 4 then 0 else cost tag e) := by
  have inrow_sg : ∀ l c, inRow l c = true → isSg c = true ∧ isBin c = true := by
    intro l c h
    have hb : isBin c = true := by
      unfold inRow at h
      unfold isBin
      split at h <;> simp at h ⊢ <;> omega
    exact ⟨by unfold isSg; simp [hb], hb⟩
  intro f
  induction f with
  | zero => intro tag e ts h; simp [pt] at h
  | succ f ih =>
    intro tag e ts h
    match tag, h with
    | 0, h =>
      rw [pt_0] at h ⊢
      by_cases ha : (pt f 1 e ts).ok = true
      · rw [if_pos ha] at h ⊢
        have i1 := ih 1 e ts ha
        have i2 := ih 4 _ _ h
        rw [if_pos (by decide)] at i1 ⊢
        rw [if_neg (by decide)] at i2
        have m : cost 4 (pt f 1 e ts).e ≤ cost 1 (pt f 1 e ts).e := brkS_mono _ _ (by decide)
        have m2 : cost 0 (pt f 4 (pt f 1 e ts).e (pt f 1 e ts).ts).e = cost 4 (pt f 4 (pt f 1 e ts).e (pt f 1 e ts).ts).e := rfl
        omega
      · rw [if_neg ha] at h; exact absurd h ha
    | 1, h =>
      rw [pt_1] at h ⊢
      by_cases ha : (pt f 2 e ts).ok = true
      · rw [if_pos ha] at h ⊢
        have i1 := ih 2 e ts ha
        have i2 := ih 5 _ _ h
        rw [if_pos (by decide)] at i1 ⊢
        rw [if_neg (by decide)] at i2
        have m : cost 5 (pt f 2 e ts).e ≤ cost 2 (pt f 2 e ts).e := brkS_mono _ _ (by decide)
        have m2 : cost 1 (pt f 5 (pt f 2 e ts).e (pt f 2 e ts).ts).e = cost 5 (pt f 5 (pt f 2 e ts).e (pt f 2 e ts).ts).e := rfl
        omega
      · rw [if_neg ha] at h; exact absurd h ha
    | 2, h =>
      rw [if_pos (by decide)]
      cases ts with
      | nil =>
        have := pt_len (f + 1) 2 e [] h
        simp at this
      | cons t r =>
        rw [pt_2] at h ⊢
        by_cases hc : t.c = 8722
        · rw [if_pos hc] at h ⊢
          by_cases ha : (pt f 2 e r).ok = true
          · rw [if_pos ha]
            have i1 := ih 2 e r ha
            rw [if_pos (by decide)] at i1
            have hw : wt t = (Utf8.encode 8722).size := by
              rw [wt_of (by rw [hc]; decide), hc]
            have hcost : cost 2 (.un 110 t.p (pt f 2 e r).e) = (Utf8.encode 8722).size + cost 2 (pt f 2 e r).e := by
              unfold cost
              rw [brkS_off (by show 2 ≤ rankP 110; decide)]
              simp only [fmE, if_true]
              rw [ByteArray.size_append, brk_wid]
              rfl
            show cost 2 (.un 110 t.p (pt f 2 e r).e) + wts (pt f 2 e r).ts ≤ wt t + wts r + 0
            omega
          · rw [if_neg ha] at h; exact absurd h ha
        · rw [if_neg hc] at h ⊢
          by_cases ha : (pt f 3 e (t :: r)).ok = true
          · rw [if_pos ha] at h ⊢
            have i1 := ih 3 e (t :: r) ha
            have i2 := ih 6 _ _ h
            rw [if_pos (by decide)] at i1
            rw [if_neg (by decide)] at i2
            have m : cost 6 (pt f 3 e (t :: r)).e = cost 3 (pt f 3 e (t :: r)).e := rfl
            have m2 : cost 2 (pt f 6 (pt f 3 e (t :: r)).e (pt f 3 e (t :: r)).ts).e ≤ cost 6 (pt f 6 (pt f 3 e (t :: r)).e (pt f 3 e (t :: r)).ts).e := brkS_mono _ _ (by decide)
            omega
          · rw [if_neg ha] at h; exact absurd h ha
    | 3, h =>
      rw [if_pos (by decide)]
      cases ts with
      | nil => simp [pt, hd, isDig, isFrac, isNm] at h
      | cons t r =>
        rw [pt_3] at h ⊢
        by_cases hn : (isDig t.c || isFrac t.c) = true
        · rw [if_pos hn]
          have := numT_wts t r hn
          have hcost : cost 3 (.num (numT (t :: r)).1 t.p) = (encAll (numT (t :: r)).1).size := brkS_off (by show 3 ≤ rankP 48; decide)
          show cost 3 (.num (numT (t :: r)).1 t.p) + wts (numT (t :: r)).2 ≤ wt t + wts r + 0
          omega
        · rw [if_neg hn] at h ⊢
          by_cases hl : t.c = 105 ∨ isNm t.c = true
          · rw [if_pos hl]
            have hc := leaf_cases hl
            have hs : isSg t.c = true := by
              unfold isSg
              rcases hl with hl | hl <;> simp [hl]
            have hr : 3 ≤ rankP t.c := by
              unfold rankP
              rw [if_neg (by omega), if_neg (by omega), if_neg (by omega)]
              exact Nat.le_refl _
            have hcost : cost 3 (.leaf t.c t.p) = (Utf8.encode t.c).size := brkS_off hr
            show cost 3 (.leaf t.c t.p) + wts r ≤ wt t + wts r + 0
            rw [wt_of hs]
            omega
          · rw [if_neg hl] at h ⊢
            by_cases hp : t.c = 40
            · rw [if_pos hp] at h ⊢
              by_cases ha : (pt f 0 e r).ok = true
              · rw [if_pos ha] at h ⊢
                have i1 := ih 0 e r ha
                rw [if_pos (by decide)] at i1
                by_cases hq : hd (pt f 0 e r).ts = 41
                · rw [if_pos hq]
                  have hw : wt t = 1 := by
                    rw [wt_of (by rw [hp]; decide), hp]
                    decide
                  have hw2 : wts (pt f 0 e r).ts = 1 + wts (pt f 0 e r).ts.tail := by
                    generalize (pt f 0 e r).ts = us at hq
                    cases us with
                    | nil => simp [hd] at hq
                    | cons u v =>
                      have hq' : u.c = 41 := hq
                      show wt u + wts v = 1 + wts v
                      rw [wt_of (by rw [hq']; decide), hq']
                      have : (Utf8.encode 41).size = 1 := by decide
                      rw [this]
                  have m : cost 3 (pt f 0 e r).e ≤ (fmE (pt f 0 e r).e).size + 2 := brkS_le _ _ _
                  have m2 : cost 0 (pt f 0 e r).e = (fmE (pt f 0 e r).e).size := brkS_off (Nat.zero_le _)
                  show cost 3 (pt f 0 e r).e + wts (pt f 0 e r).ts.tail ≤ wt t + wts r + 0
                  omega
                · rw [if_neg hq] at h; simp at h
              · rw [if_neg ha] at h; exact absurd h ha
            · rw [if_neg hp] at h; simp at h
    | 4, h =>
      rw [if_neg (by decide)]
      cases ts with
      | nil =>
        have : pt (f + 1) 4 e [] = ⟨true, e, []⟩ := rfl
        rw [this]
        show cost 4 e + 0 ≤ 0 + cost 4 e
        omega
      | cons t r =>
        rw [pt_4] at h ⊢
        by_cases hi : inRow 0 t.c = true
        · rw [if_pos hi] at h ⊢
          by_cases ha : (pt f 1 e r).ok = true
          · rw [if_pos ha] at h ⊢
            have i1 := ih 1 e r ha
            have i2 := ih 4 _ _ h
            rw [if_pos (by decide)] at i1
            rw [if_neg (by decide)] at i2
            have hc : t.c = 43 ∨ t.c = 8722 := by unfold inRow at hi; simpa using hi
            have hcost : cost 4 (.bin t.c t.p e (pt f 1 e r).e) = cost 4 e + wt t + cost 1 (pt f 1 e r).e := by
              rw [wt_of (inrow_sg _ _ hi).1]
              unfold cost
              rw [brkS_off (a := lev 4) (r := rankP (opE (.bin t.c t.p e (pt f 1 e r).e))) (Nat.zero_le _)]
              simp only [fmE]
              rw [if_pos hc, ByteArray.size_append, ByteArray.size_append, brk_wid, brk_wid]
              rfl
            show _ ≤ wt t + wts r + cost 4 e
            omega
          · rw [if_neg ha] at h; exact absurd h ha
        · rw [if_neg hi]
          show cost 4 e + wts (t :: r) ≤ wts (t :: r) + cost 4 e
          omega
    | 5, h =>
      rw [if_neg (by decide)]
      cases ts with
      | nil =>
        have : pt (f + 1) 5 e [] = ⟨true, e, []⟩ := rfl
        rw [this]
        show cost 5 e + 0 ≤ 0 + cost 5 e
        omega
      | cons t r =>
        rw [pt_5] at h ⊢
        by_cases hi : inRow 1 t.c = true
        · rw [if_pos hi] at h ⊢
          by_cases ha : (pt f 2 e r).ok = true
          · rw [if_pos ha] at h ⊢
            have i1 := ih 2 e r ha
            have i2 := ih 5 _ _ h
            rw [if_pos (by decide)] at i1
            rw [if_neg (by decide)] at i2
            have hc : t.c = 215 ∨ t.c = 247 := by unfold inRow at hi; simpa using hi
            have hn : ¬ (t.c = 43 ∨ t.c = 8722) := by omega
            have hcost : cost 5 (.bin t.c t.p e (pt f 2 e r).e) = cost 5 e + wt t + cost 2 (pt f 2 e r).e := by
              rw [wt_of (inrow_sg _ _ hi).1]
              unfold cost
              rw [brkS_off (a := lev 5) (r := rankP (opE (.bin t.c t.p e (pt f 2 e r).e))) (by show 1 ≤ rankP t.c; unfold rankP; rw [if_neg hn, if_pos hc]; exact Nat.le_refl _)]
              simp only [fmE]
              rw [if_neg hn, ByteArray.size_append, ByteArray.size_append, brk_wid, brk_wid]
              rfl
            show _ ≤ wt t + wts r + cost 5 e
            omega
          · rw [if_neg ha] at h; exact absurd h ha
        · rw [if_neg hi]
          show cost 5 e + wts (t :: r) ≤ wts (t :: r) + cost 5 e
          omega
    | (n + 6), h =>
      rw [if_neg (by omega)]
      have hl : lev (n + 6) = 3 := by
        unfold lev
        rw [if_neg (by omega), if_neg (by omega), if_neg (by omega), if_neg (by omega), if_neg (by omega), if_neg (by omega)]
      have hce : ∀ x, cost (n + 6) x = cost 6 x := fun x => by
        unfold cost
        rw [hl]
        rfl
      rw [hce, hce]
      cases ts with
      | nil =>
        have : pt (f + 1) (n + 6) e [] = ⟨true, e, []⟩ := rfl
        rw [this]
        show cost 6 e + 0 ≤ 0 + cost 6 e
        omega
      | cons t r =>
        rw [pt_6] at h ⊢
        by_cases hi : isMk t.c = true
        · rw [if_pos hi] at h ⊢
          have i2 := ih 6 _ _ h
          rw [if_neg (by decide)] at i2
          have hc : t.c = 178 ∨ t.c = 8242 := by unfold isMk at hi; simpa using hi
          have hcost : cost 6 (.un t.c t.p e) = cost 6 e + wt t := by
            rw [wt_of (by unfold isSg; simp [hi])]
            unfold cost
            rw [brkS_off (a := lev 6) (r := rankP (opE (.un t.c t.p e))) (by show 3 ≤ rankP t.c; unfold rankP; rw [if_neg (by omega), if_neg (by omega), if_neg (by omega)]; exact Nat.le_refl _)]
            simp only [fmE]
            rw [if_neg (by omega), ByteArray.size_append, brk_wid]
            rfl
          show _ ≤ wt t + wts r + cost 6 e
          omega
        · rw [if_neg hi]
          show cost 6 e + wts (t :: r) ≤ wts (t :: r) + cost 6 e
          omega
/-- The form of a text's tree is no longer than the text. -/
theorem form_size (s : ByteArray) (h : s.size ≤ 120) (hg : good s = true) : (fmE (treeT s)).size ≤ s.size := by
  rw [good_PT s h] at hg
  simp only [Bool.and_eq_true] at hg
  have c := pt_cost _ 0 e0 (toks s 0 false) hg.1
  have w := toks_wts s s.size 0 false (by omega) (Nat.zero_le _)
  rw [treeT_PT s h]
  rw [if_pos (by decide)] at c
  have m : cost 0 (PT 0 e0 (toks s 0 false)).e = (fmE (PT 0 e0 (toks s 0 false)).e).size := brkS_off (Nat.zero_le _)
  have c' : cost 0 (PT 0 e0 (toks s 0 false)).e + wts (PT 0 e0 (toks s 0 false)).ts ≤ wts (toks s 0 false) + 0 := c
  omega
/-- The form's form is the form; both are worked alike. -/
theorem form_form (s : ByteArray) (h : s.size ≤ 120) (hg : good s = true) : good (fmE (treeT s)) = true ∧ (treeT (fmE (treeT s))).plain = (treeT s).plain ∧ fmE (treeT (fmE (treeT s))) = fmE (treeT s) := by
  obtain ⟨h1, h2, h3, _⟩ := top_tree s hg
  have hz := form_size s h hg
  obtain ⟨g1, g2⟩ := form_tree (treeT s) h3 (by omega)
  exact ⟨g1, g2, fmE_same g2⟩
/-! ### Places don't tell -/
def Ans.got (a : Ans) : Got := match a with | .ok x => .ok x | .err q _ => .err q
theorem at_got (g : Got) (p : Nat) : (g.at p).got = g := by cases g <;> rfl
theorem evT_plain (env : Env) : ∀ e, (evT env e.plain).got = (evT env e).got := by
  intro e
  induction e with
  | num l p => rfl
  | leaf c p => rfl
  | un c p e ih =>
    simp only [Ex.plain, evT]
    revert ih
    cases evT env e.plain with
    | ok x =>
      cases evT env e with
      | ok y =>
        intro ih
        have : x = y := by injection ih
        subst this
        simp only
        rw [at_got, at_got]
      | err q r => intro ih; cases ih
    | err q r =>
      cases evT env e with
      | ok y => intro ih; cases ih
      | err q' r' => intro ih; exact ih
  | bin c p l r ihl ihr =>
    simp only [Ex.plain, evT]
    revert ihl ihr
    cases evT env l.plain with
    | ok x =>
      cases evT env l with
      | err q r => intro ih; cases ih
      | ok y =>
        cases evT env r.plain with
        | ok x2 =>
          cases evT env r with
          | err q r => intro _ ih; cases ih
          | ok y2 =>
            intro i1 i2
            have q1 : x = y := by injection i1
            have q2 : x2 = y2 := by injection i2
            subst q1 q2
            simp only
            rw [at_got, at_got]
        | err q s =>
          cases evT env r with
          | ok y => intro _ ih; cases ih
          | err q' s' => intro _ ih; exact ih
    | err q s =>
      cases evT env l with
      | ok y => intro ih; cases ih
      | err q' s' => intro ih _; exact ih
theorem missT_plain (env : Env) : ∀ e, (missT env e.plain).isSome = (missT env e).isSome := by
  intro e
  induction e with
  | num l p => rfl
  | leaf c p =>
    simp only [Ex.plain, missT]
    split <;> rfl
  | un c p e ih => exact ih
  | bin c p l r ihl ihr =>
    simp only [Ex.plain, missT]
    revert ihl
    cases missT env l.plain with
    | some q => cases missT env l with
      | some q' => intro _; rfl
      | none => intro h; cases h
    | none => cases missT env l with
      | some q' => intro h; cases h
      | none => intro _; exact ihr
theorem valT_plain (env : Env) (e : Ex) : (valT env e.plain).got = (valT env e).got := by
  have h := missT_plain env e
  unfold valT
  revert h
  cases missT env e.plain with
  | some q => cases missT env e with
    | some q' => intro _; rfl
    | none => intro h; cases h
  | none => cases missT env e with
    | some q' => intro h; cases h
    | none => intro _; exact evT_plain env e
theorem valT_same (env : Env) {a b : Ex} (h : a.plain = b.plain) : (valT env a).got = (valT env b).got := by rw [← valT_plain env a, ← valT_plain env b, h]
end Go.Proofs.YtodabmkcihafhaaGreatDoor

/- The law Formed. -/
namespace Go.Proofs.YtodabmkcihafhaaGreatDoor
open Go.RowKit
set_option linter.unusedVariables false

theorem got_same {a b : Ans} (h : a.got = b.got) : ansN a = ansN b ∧ ansE a = ansE b := by
  cases a with
  | ok x => cases b with
    | ok y => injection h with h; subst h; exact ⟨rfl, rfl⟩
    | err q p => cases h
  | err q p => cases b with
    | ok y => cases h
    | err q' p' => injection h with h; subst h; exact ⟨rfl, rfl⟩
theorem refT_ok {s : ByteArray} (hs : s.size ≤ 120) (hg : good s = true) : refT s = fmE (treeT s) := by
  unfold refT
  rw [if_neg (by omega), if_pos hg]
  exact (top_flat s hg).2
theorem sg_ne : ∀ e : Ex, ExOk e → sgE e ≠ [] := by
  intro e h
  cases e with
  | num l p =>
    rcases h with ⟨c, rfl, _⟩ | ⟨d, ds, fr, rfl, _⟩
    · show [c] ≠ []; simp
    · show d :: (ds ++ fr) ≠ []; simp
  | leaf c p => show [c] ≠ []; simp
  | un c p e =>
    simp only [sgE]
    split
    · simp
    · simp
  | bin c p l r =>
    simp only [sgE]
    split <;> simp
theorem enc_pos {c : Int} (h : isSg c = true) : 1 ≤ (Utf8.encode c).size := by
  obtain ⟨n, rfl, hk, _⟩ := isSg_known h
  exact (dec_enc ByteArray.empty ByteArray.empty n hk).2
theorem fm_pos (e : Ex) (h : ExOk e) : 1 ≤ (fmE e).size := by
  rw [fmE_enc]
  have hne := sg_ne e h
  have ha := sg_all e h
  cases hl : sgE e with
  | nil => exact absurd hl hne
  | cons c r =>
    rw [encAll_cons, ByteArray.size_append]
    have := enc_pos (ha c (by rw [hl]; simp))
    omega
/-- What Formed asks, of a text that is an expression. -/
theorem formed_ok (s : ByteArray) (hE : refE s = 0) : (refT s == ⟨#[]⟩) = false ∧ 1 ≤ (refT s).size ∧ (refT s).size ≤ s.size ∧ refE (refT s) = 0 ∧ refT (refT s) = refT s ∧ ansN (valS [] (refT s)) = ansN (valS [] s) ∧ ansE (valS [] (refT s)) = ansE (valS [] s) := by
  rcases valS_read [] s with ⟨_, hs, hg, hv⟩ | ⟨hE', _⟩
  · obtain ⟨_, _, hok, _⟩ := top_tree s hg
    have ht := refT_ok hs hg
    obtain ⟨g1, g2, g3⟩ := form_form s hs hg
    have hz := form_size s hs hg
    have hp := fm_pos (treeT s) hok
    rw [ht]
    have hs2 : (fmE (treeT s)).size ≤ 120 := by omega
    have hE2 : refE (fmE (treeT s)) = 0 := by
      unfold refE
      rw [if_neg (by omega), if_pos g1]
    have hgot : (valS [] (fmE (treeT s))).got = (valS [] s).got := by
      rw [hv]
      unfold valS
      rw [if_neg (by omega), if_pos g1]
      exact valT_same _ g2
    refine ⟨?_, hp, hz, hE2, ?_, got_same hgot⟩
    · rw [Bool.eq_false_iff]
      intro h
      have := (MapKept.bytes_beq _ _).1 h
      rw [this] at hp
      exact absurd hp (by decide)
    · rw [refT_ok hs2 g1, g3]
  · exact absurd hE hE'
theorem formed_err (s : ByteArray) (hE : refE s ≠ 0) : refT s = ⟨#[]⟩ ∧ ansE (valS [] s) = refE s := by
  rcases valS_read [] s with ⟨hE', _⟩ | ⟨_, p, hp, hv⟩
  · exact absurd hE' hE
  · refine ⟨?_, by rw [hv]; rfl⟩
    unfold refE at hE
    unfold refT
    by_cases h : 120 < s.size
    · rw [if_pos h]; rfl
    · rw [if_neg h] at hE ⊢
      by_cases hg : good s = true
      · rw [if_pos hg] at hE; exact absurd rfl hE
      · rw [if_neg hg]; rfl

theorem Kp.low {r n : Nat} {a b : World} (h : Kp (· = r) a b) (hr : n ≤ r) (ha : n ≤ a.heap.size) : Below n a b := ⟨h.os, h.tape, h.output, h.size, fun k hk => h.block k (by omega) (by omega)⟩
theorem loop_len (bs : ByteArray) : ∀ (d i : Nat) (r : List UInt8), bs.size - i = d → (ByteArray.toList.loop bs i r).length = d + r.length := by
  intro d
  induction d with
  | zero =>
    intro i r h
    rw [ByteArray.toList.loop, if_neg (by omega)]
    simp
  | succ d ih =>
    intro i r h
    rw [ByteArray.toList.loop, if_pos (by omega), ih (i + 1) _ (by omega)]
    simp
    omega
theorem toList_len (bs : ByteArray) : bs.toList.length = bs.size := by
  unfold ByteArray.toList
  rw [loop_len bs bs.size 0 [] (by omega)]
  simp
theorem bytes_self (t : ByteArray) : (t == t) = true := (MapKept.bytes_beq t t).2 rfl
theorem ansV_parts (a : Ans) : ansV a = .tuple #[.agg (numC (ansN a)), .int .i64 (ansE a), .int .i64 (ansP a)] := rfl
set_option maxHeartbeats 4000000 in
set_option maxRecDepth 100000 in
theorem formed_law (N : Nat) (aZ aB : Addr) (s : ByteArray) (w : World) (hS : Sen N aZ aB w) (hN : N ≤ w.heap.size) :
    Calls Tryz.prog 3 #[.string s] w fun e w' => e = .returned (.bool true) ∧ Below w.heap.size w w' := by
  have C1 := hidMk (new_any N aZ aB w hS hN)
  have CP := hidMk (fun t W => print_any t W)
  have CV := hidMk (fun t W K P m T r h => value_any N aZ aB K P m T r [] t W h)
  have CM := hidMk (fun e W => num_any e W)
  have FO := hidMk (formed_ok s)
  have FE := hidMk (formed_err s)
  clear hS hN
  go_enter Tryz.func3, Tryz.ntmps3
  go_wp2_with fail
  refine C1.out.mono ?_
  rintro e w1 ⟨rfl, hbk, hb1⟩
  have HB := hidMk hbk
  have HB1 := hidMk hb1
  clear hbk hb1 C1
  generalize w.heap.size + 4 = K at *
  go_wp2_with fail
  refine (CP.out s w1).mono ?_
  rintro e w2 ⟨rfl, hb2⟩
  have hbk2 := HB.out.below hb2
  have hbb2 := HB1.out.trans (hb2.mono HB1.out.size)
  have HB2 := hidMk hbk2
  have HBB2 := hidMk hbb2
  clear HB HB1 hb2 hbk2 hbb2
  go_wp2_with fail
  refine (CV.out s w2 _ _ _ _ _ HB2.out).mono ?_
  rintro e w3 ⟨rfl, ht3, hk3⟩
  have hbk3 := HB2.out.kept hk3 ht3
  have hbb3 := HBB2.out.trans (hk3.low (by omega) HBB2.out.size)
  rw [ansV_parts]
  generalize ansN (valS [] s) = z at *
  generalize ansP (valS [] s) = p at *
  clear HB2 HBB2 ht3 hk3
  go_upto_region 6 with fail
  have hbk4 := hbk3.below (fr_below w3 (.cells (numC z) 27))
  have hbb4 := hbb3.trans ((fr_below w3 (.cells (numC z) 27)).mono hbb3.size)
  have hx4 := heap_alloc_new w3 (.cells (numC z) 27)
  generalize w3.alloc _ = W4 at *
  generalize w3.heap.size = b7 at *
  have HB4 := hidMk hbk4
  have HBB4 := hidMk hbb4
  have HX4 := hidMk hx4
  clear hbk3 hbb3 hbk4 hbb4 hx4
  by_cases hE : refE s = 0
  · obtain ⟨f1, f0, f2, f3, f4, f5, f6⟩ := FO.out hE
    rw [hE]
    generalize refT s = t at *
    have ft := bytes_self t
    have F5 := hidMk f5
    have F0 := hidMk f0
    have F6 := hidMk f6
    have F3 := hidMk f3
    have F4 := hidMk f4
    clear FO FE hE f0 f1 f3 f4 f5 f6
    go_upto_region 8 with (go_at_call 15; refine (CM.out _ _).mono ?_; rintro e w7 ⟨rfl, rfl⟩)
    go_wp2_with fail
    refine (CP.out t _).mono ?_
    rintro e w5 ⟨rfl, hb5⟩
    have hbk5 := HB4.out.below hb5
    have hbb5 := HBB4.out.trans (hb5.mono HBB4.out.size)
    have hx5 := (hb5.block _ (Array.getElem?_eq_some_iff.1 HX4.out).1).trans HX4.out
    rw [F3.out, F4.out]
    clear HB4 HBB4 HX4 hb5
    have HB5 := hidMk hbk5
    have HBB5 := hidMk hbb5
    have HX5 := hidMk hx5
    clear hbk5 hbb5 hx5
    go_wp2_with fail
    refine (CV.out t w5 _ _ _ _ _ HB5.out).mono ?_
    rintro e w6 ⟨rfl, ht6, hk6⟩
    have hbb6 := HBB5.out.trans (hk6.low (by omega) HBB5.out.size)
    have hx6 := (hk6.block b7 (Array.getElem?_eq_some_iff.1 HX5.out).1 (fun e => by
      obtain ⟨es, c, h1, _⟩ := HB5.out.pw.tb.hr
      have := HX5.out
      rw [e, h1] at this
      cases this)).trans HX5.out
    rw [ansV_parts, F5.out, F6.out]
    generalize ansP (valS [] t) = p2 at *
    generalize ansE (valS [] s) = q at *
    clear HB5 HBB5 HX5 ht6 hk6 F3 F4 F5 F6
    go_upto_region 10 with fail
    have hbb7 := hbb6.trans ((fr_below w6 (.cells (numC z) 27)).mono hbb6.size)
    have hx7 := (Below.heap_alloc w6 (.cells (numC z) 27) _ (Array.getElem?_eq_some_iff.1 hx6).1).trans hx6
    have hy7 := heap_alloc_new w6 (.cells (numC z) 27)
    generalize w6.alloc _ = W7 at *
    generalize w6.heap.size = b13 at *
    obtain ⟨x0, x1, x2, x3⟩ := four_cells hx7
    obtain ⟨y0, y1, y2, y3⟩ := four_cells hy7
    have HBB7 := hidMk hbb7
    have heq := eq4_same z.re.n z.re.d z.im.n z.im.d W7
    clear hbb6 hbb7 hx6 hx7 hy7
    have hle : decide ((t.size : Int) ≤ (s.size : Int)) = true := decide_eq_true (by omega)
    go_wp2_with (go_at_call 15; refine (CM.out _ _).mono ?_; rintro e w7 ⟨rfl, rfl⟩)
    · rename_i h0
      exfalso
      have h1 := toList_len t
      rw [h0] at h1
      have h2 : t.size = 0 := h1.symm
      have h3 := F0.out
      omega
    · rename_i h0
      have h1 : t.toList.isEmpty = false := by simpa using h0
      go_ret
      refine ⟨?_, HBB7.out⟩
      simp [h1]
  · obtain ⟨f1, f2⟩ := FE.out hE
    rw [f1, f2]
    have hne : (refE s != 0) = true := by simpa using hE
    generalize refE s = E at *
    clear FO FE hE f1 f2
    go_wp2_with (go_at_call 15; refine (CM.out _ _).mono ?_; rintro e w7 ⟨rfl, rfl⟩)
    go_ret
    exact ⟨rfl, HBB4.out⟩
end Go.Proofs.YtodabmkcihafhaaGreatDoor
