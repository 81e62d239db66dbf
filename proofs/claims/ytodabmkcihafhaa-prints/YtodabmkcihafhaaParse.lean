/- The program's Parse. -/
import Derived.Test.YtodabmkcihafhaaPRow3
import Derived.Test.YtodabmkcihafhaaRefP
import Derived.Deep.AppendLies
namespace Go.Proofs.Ytodabmkcihafhaa
open Go.RowKit
set_option linter.unusedVariables false

def parseR (s : ByteArray) : Value := if good s then .tuple #[den (top s).L (top s).k, .int .i64 0, .bool true] else .tuple #[.nilIface, .int .i64 (hp (top s).ts), .bool false]

set_option maxHeartbeats 2000000 in
set_option maxRecDepth 100000 in
theorem parse_any (s : ByteArray) (w : World) (hs : s.size ≤ 120) :
    Calls Try.prog 11 #[.string s] w fun e w' => e = .returned (parseR s) ∧ Below w.heap.size w w' := by
  have hl := toks_len s hs
  have hER := toksF_end s (s.size - 0) 0 false
  have hne := hER.1.ne
  have hlen1 : 1 ≤ (toks s 0 false).length := hne
  go_enter Try.func11, Try.ntmps11
  go_wp2_with fail
  refine (piecesOf_any s w hs).mono ?_
  rintro e w1 ⟨v, rfl, hown, hb1⟩
  obtain ⟨g, cap, rfl, hbg, hglt⟩ := hown.form (by omega)
  have hP := PSt.new hown hglt hER.1 hER.2
  have cs := ((par_all w1.heap.size 2000 2000 (Nat.le_refl _)).1) (toks s 0 false) [] _ (by omega) wf_nil hP
  have hb2 : Below w.heap.size w (w1.alloc (.cells #[.slice (some ⟨g, 0, none⟩) (toks s 0 false).length cap] 59)) := hb1.alloc hb1.size _
  have hsz1 := hb1.size
  clear hown hP
  have cs' : Calls Try.prog 20 #[.pointer (some ⟨w1.heap.size, 0, none⟩)] (w1.alloc (.cells #[.slice (some ⟨g, 0, none⟩) (toks s 0 false).length cap] 59)) (PPost w1.heap.size (w1.alloc (.cells #[.slice (some ⟨g, 0, none⟩) (toks s 0 false).length cap] 59)) (top s)) := cs
  clear cs hb1
  go_wp2_with fail
  refine cs'.mono ?_
  rintro e w2 ⟨v2, rfl, hI2, hP2, hb2', hv2⟩
  have HV : Hid ((top s).ok = true → v2 = den (top s).L (top s).k) := hv2
  have hb3 : Below w.heap.size w w2 := hb2.trans ((gb_to_below hb2' (Nat.le_refl _) (by simp)).mono hsz1)
  clear hv2 cs' hb2 hb2'
  have HG : Hid (good s = ((top s).ok && hd (top s).ts == -1)) := rfl
  have HR : Hid (parseR s = if good s then .tuple #[den (top s).L (top s).k, .int .i64 0, .bool true] else .tuple #[.nilIface, .int .i64 (hp (top s).ts), .bool false]) := rfl
  generalize top s = R at *
  have bad : good s = false → w2.heap.size = w2.heap.size → True := fun _ _ => trivial
  clear bad
  obtain ⟨g2, o2, cap2, pl2, ap2, c0, f0, hg2, hne2, hc2, hm2, d0, d1, d2, hpl, _⟩ := hP2.cells
  have HPL : Hid (pl2 = hp R.ts) := hpl
  clear hpl
  by_cases ho : R.ok = true
  · rw [ho]
    have HO : Hid (R.ok = true) := ho
    clear ho
    go_wp2_with fail
    refine (ahead_any _ R.ts _ hP2).mono ?_
    rintro e w3 ⟨rfl, hw3⟩
    have hw3 := hw3.symm
    subst hw3
    by_cases h1 : hd R.ts = -1
    · have b1 : (hd R.ts != -1) = false := by simp [h1]
      have H1 : Hid (good s = true) := by
        show good s = true
        rw [HG.out, HO.out, h1]; rfl
      clear h1
      go_wp2_with fail
      go_ret3
      rw [HR.out, if_pos H1.out, ← HV.out HO.out]
      exact ⟨rfl, hb3⟩
    · have b1 : (hd R.ts != -1) = true := by simp [h1]
      have H1 : Hid (¬ good s = true) := by
        show ¬ good s = true
        rw [HG.out, HO.out]; simpa using h1
      clear h1
      go_wp2_with fail
      go_quiet (fail)
      go_wp2_with fail
      go_ret3
      rw [HR.out, if_neg H1.out, ← HPL.out]
      exact ⟨rfl, below_drewN hb3 _⟩
  · have ho2 : R.ok = false := by simpa using ho
    rw [ho2]
    have H1 : Hid (¬ good s = true) := by
      show ¬ good s = true
      rw [HG.out, ho2]; simp
    clear ho ho2
    go_wp2_with fail
    go_quiet (fail)
    go_wp2_with fail
    go_ret3
    rw [HR.out, if_neg H1.out, ← HPL.out]
    exact ⟨rfl, below_drewN hb3 _⟩
end Go.Proofs.Ytodabmkcihafhaa
