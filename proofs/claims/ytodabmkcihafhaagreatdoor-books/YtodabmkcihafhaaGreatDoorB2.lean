import Derived.Test.YtodabmkcihafhaaGreatDoorRows
import Derived.WalkKit
import Derived.WalkSpells
import Derived.WalkLawsBesides
import Derived.Test.YtodabmkcihafhaaGreatDoorB1

/- strings.ContainsRune at every rune, in four texts of the program. -/
namespace Go.Proofs.YtodabmkcihafhaaGreatDoor
open Go.RowKit
set_option linter.unusedVariables false

set_option maxHeartbeats 2000000 in
set_option maxRecDepth 1000000 in
theorem index_none (s : ByteArray) (r : Int) (w : World) (h1 : r < 0 ∨ 128 ≤ r) (hr2 : r ≠ 65533) (hv : Lib.validRune r = false) :
    Calls Tryz.prog 152 #[.string s, .int .i32 r] w fun e w' => e = .returned (.int .i64 (-1)) ∧ w' = w := by
  have q3 : (r == 65533) = false := beq_false_of_ne hr2
  by_cases h : 0 ≤ r
  · have q2 : decide (r < 128) = false := by simp; omega
    go_enter Tryz.func152, Tryz.ntmps152
    go_wp2_with fail
    refine (validRune_any r _).mono ?_
    rintro e w1 ⟨rfl, hw1⟩
    have hw1 := hw1.symm
    subst hw1
    rw [hv]
    clear hv
    go_wp2_with fail
    go_ret
    exact ⟨rfl, rfl⟩
  · have q2 : decide (0 ≤ r) = false := by simp; omega
    go_enter Tryz.func152, Tryz.ntmps152
    go_wp2_with fail
    refine (validRune_any r _).mono ?_
    rintro e w1 ⟨rfl, hw1⟩
    have hw1 := hw1.symm
    subst hw1
    rw [hv]
    clear hv
    go_wp2_with fail
    go_ret
    exact ⟨rfl, rfl⟩

set_option maxHeartbeats 2000000 in
set_option maxRecDepth 1000000 in
theorem index_error (s : ByteArray) (w : World) (L : List Nat) (h0 : 0 ∈ L) (hL : ∀ p ∈ L, p < s.size → (Utf8.decode s p).1 ≠ 65533 ∧ p + (Utf8.decode s p).2 ∈ L) :
    Calls Tryz.prog 152 #[.string s, .int .i32 65533] w fun e w' => e = .returned (.int .i64 (-1)) ∧ Below w.heap.size w w' := by
  have HL : Hid (∀ p ∈ L, p < s.size → (Utf8.decode s p).1 ≠ 65533 ∧ p + (Utf8.decode s p).2 ∈ L) := hL
  have H0 : Hid (0 ∈ L) := h0
  clear hL h0
  go_enter Tryz.func152, Tryz.ntmps152
  go_wp2_with fail
  go_loopw [] (fun wr => ∃ (pos : Nat), Hid (pos ∈ L) ∧ wr.heap[w.heap.size]? = some (.stringIter s pos) ∧ Below w.heap.size w wr) (fun wr => s.size - wr.iterPos w.heap.size)
  case atStart =>
    refine ⟨0, H0, ?_, ?_⟩
    · exact World.iter_heap w s 0
    · exact (Below.refl _ w).alloc (Nat.le_refl _) _
  case round =>
    obtain ⟨pos, HP, hit, hbw⟩ := hrel
    by_cases hp : pos < s.size
    · have hnx : ∀ ty, (Instr.next (.pointer (some ⟨w.heap.size, 0, none⟩)) true ty).run Tryz.prog wr = _ := fun ty => Lib.run_next_any_at wr w.heap.size s pos ty hit hp
      have hwd := dec_pos s pos hp
      have hit2 := Lib.iterAt_heap wr w.heap.size s pos (pos + (Utf8.decode s pos).2) hit
      have hbw2 := Lib.below_iterAt hbw (k := w.heap.size) (by omega) s (pos + (Utf8.decode s pos).2)
      have hc := HL.out pos HP.out hp
      have b1 : (((Utf8.decode s pos).1 : Int) == 65533) = false := by simp; have := hc.1; omega
      have HC : Hid (pos + (Utf8.decode s pos).2 ∈ L) := hc.2
      have HI0 : Hid (wr.heap[w.heap.size]? = some (.stringIter s pos)) := hit
      clear hit hbw hc
      generalize wr.iterAt w.heap.size s (pos + (Utf8.decode s pos).2) = W1 at *
      have HI2 : Hid (W1.heap[w.heap.size]? = some (.stringIter s (pos + (Utf8.decode s pos).2))) := hit2
      clear hit2
      go_wp2_with fail
      refine ⟨⟨pos + (Utf8.decode s pos).2, HC, HI2.out, hbw2⟩, ?_⟩
      simp only [World.iterPos, HI2.out, HI0.out]
      omega
    · have hnx : ∀ ty, (Instr.next (.pointer (some ⟨w.heap.size, 0, none⟩)) true ty).run Tryz.prog wr = _ := fun ty => Lib.run_next_end_at wr w.heap.size s pos ty hit hp
      clear hit
      go_wp2_with fail
      go_ret
      exact ⟨rfl, hbw⟩

set_option maxHeartbeats 400000 in
theorem contains_of (s : ByteArray) (r : Int) (w : World) (b : Bool) (h : Calls Tryz.prog 152 #[.string s, .int .i32 r] w fun e w' => (∃ v : Int, e = .returned (.int .i64 v) ∧ decide (0 ≤ v) = b) ∧ Below w.heap.size w w') :
    Calls Tryz.prog 141 #[.string s, .int .i32 r] w fun e w' => e = .returned (.bool b) ∧ Below w.heap.size w w' := by
  go_enter Tryz.func141, Tryz.ntmps141
  go_wp2_with fail
  refine h.mono ?_
  rintro e w' ⟨⟨v, rfl, hv⟩, hb⟩
  go_wp2_with fail
  go_ret
  exact ⟨by rw [← hv]; rfl, hb⟩

theorem rn_u8 (n : Nat) (h : n < 256) : (UInt8.ofNat n).toNat = n := by simp; omega
theorem rn_enc2 (n : Nat) (h0 : 128 ≤ n) (h1 : n < 2048) : Utf8.encode (n : Int) = ⟨#[UInt8.ofNat (192 + n / 64), UInt8.ofNat (128 + n % 64)]⟩ := by
  have hv : Utf8.valid (n : Int) = true := by rw [validRune_eq, validRune, decide_eq_true]; left; omega
  have g1 : ¬ n < 128 := by omega
  unfold Utf8.encode
  simp only [hv, if_true, Int.toNat_natCast, g1, h1, if_false]
theorem rn_enc3 (n : Nat) (h0 : 2048 ≤ n) (h1 : n < 65536) (hv : Utf8.valid (n : Int) = true) : Utf8.encode (n : Int) = ⟨#[UInt8.ofNat (224 + n / 4096), UInt8.ofNat (128 + n / 64 % 64), UInt8.ofNat (128 + n % 64)]⟩ := by
  have g1 : ¬ n < 128 := by omega
  have g2 : ¬ n < 2048 := by omega
  unfold Utf8.encode
  simp only [hv, if_true, Int.toNat_natCast, g1, g2, h1, if_false]
theorem rn_enc4 (n : Nat) (h0 : 65536 ≤ n) (hv : Utf8.valid (n : Int) = true) : Utf8.encode (n : Int) = ⟨#[UInt8.ofNat (240 + n / 262144), UInt8.ofNat (128 + n / 4096 % 64), UInt8.ofNat (128 + n / 64 % 64), UInt8.ofNat (128 + n % 64)]⟩ := by
  have g1 : ¬ n < 128 := by omega
  have g2 : ¬ n < 2048 := by omega
  have g3 : ¬ n < 65536 := by omega
  unfold Utf8.encode
  simp only [hv, if_true, Int.toNat_natCast, g1, g2, g3, if_false]

/-- What is to be looked up in a short text, byte by byte. -/
structure Looks (s : ByteArray) (f : Int → Bool) (L : List Nat) : Prop where
  size : s.size ≤ 8
  asc : ∀ n, n < 128 → decide (0 ≤ Lib.indexByte s.data.toList (UInt8.ofNat n)) = f n
  two : ∀ p, p < s.size → p + 2 ≤ s.size → 192 ≤ bt s p → 128 ≤ bt s (p + 1) → (bt s p - 192) * 64 + (bt s (p + 1) - 128) < 2048 → f (((bt s p - 192) * 64 + (bt s (p + 1) - 128) : Nat) : Int) = true
  three : ∀ p, p < s.size → p + 3 ≤ s.size → 224 ≤ bt s p → 128 ≤ bt s (p + 1) → 128 ≤ bt s (p + 2) → f (((bt s p - 224) * 4096 + (bt s (p + 1) - 128) * 64 + (bt s (p + 2) - 128) : Nat) : Int) = true
  four : ∀ p, p < s.size → bt s p < 240
  back : ∀ r, 128 ≤ r → f r = true → Occ s (Utf8.encode r)
  bad : ∀ r, f r = true → r ≠ 65533 ∧ Lib.validRune r = true
  no3 : ∀ c, c < s.size → ∀ b, b < c → ∀ a, a < b → ¬ (bt s a = bt s b ∧ bt s b = bt s c ∧ bt s a < 192)
  in0 : 0 ∈ L
  inL : ∀ p ∈ L, p < s.size → (Utf8.decode s p).1 ≠ 65533 ∧ p + (Utf8.decode s p).2 ∈ L

theorem Looks.occ {s : ByteArray} {f : Int → Bool} {L : List Nat} (h : Looks s f L) (n : Nat) (h0 : 128 ≤ n) (hv : Utf8.valid (n : Int) = true) (hn : n < 1114112) : Occ s (Utf8.encode (n : Int)) ↔ f (n : Int) = true := by
  constructor
  · rintro ⟨p, hp, hall⟩
    by_cases h2 : n < 2048
    · rw [rn_enc2 n h0 h2] at hp hall
      have hp : p + 2 ≤ s.size := hp
      have e0 : bt s (p + 0) = 192 + n / 64 := (hall 0 (by show 0 < 2; decide)).trans (rn_u8 _ (by omega))
      have e1 : bt s (p + 1) = 128 + n % 64 := (hall 1 (by show 1 < 2; decide)).trans (rn_u8 _ (by omega))
      rw [Nat.add_zero] at e0
      have e : (bt s p - 192) * 64 + (bt s (p + 1) - 128) = n := by omega
      have := h.two p (by omega) hp (by omega) (by omega) (by omega)
      rw [e] at this; exact this
    · by_cases h3 : n < 65536
      · rw [rn_enc3 n (by omega) h3 hv] at hp hall
        have hp : p + 3 ≤ s.size := hp
        have e0 : bt s (p + 0) = 224 + n / 4096 := (hall 0 (by show 0 < 3; decide)).trans (rn_u8 _ (by omega))
        have e1 : bt s (p + 1) = 128 + n / 64 % 64 := (hall 1 (by show 1 < 3; decide)).trans (rn_u8 _ (by omega))
        have e2 : bt s (p + 2) = 128 + n % 64 := (hall 2 (by show 2 < 3; decide)).trans (rn_u8 _ (by omega))
        rw [Nat.add_zero] at e0
        have e : (bt s p - 224) * 4096 + (bt s (p + 1) - 128) * 64 + (bt s (p + 2) - 128) = n := by omega
        have := h.three p (by omega) hp (by omega) (by omega) (by omega)
        rw [e] at this; exact this
      · rw [rn_enc4 n (by omega) hv] at hp hall
        have hp : p + 4 ≤ s.size := hp
        have e0 : bt s (p + 0) = 240 + n / 262144 := (hall 0 (by show 0 < 4; decide)).trans (rn_u8 _ (by omega))
        have := h.four p (by omega)
        rw [Nat.add_zero] at e0
        omega
  · exact h.back n (by omega)

theorem rn_last (n : Nat) (h0 : 128 ≤ n) (hn : n < 1114112) (hv : Utf8.valid (n : Int) = true) : ∃ m, 1 ≤ m ∧ m ≤ 3 ∧ (Utf8.encode (n : Int)).size = m + 1 ∧ bt (Utf8.encode (n : Int)) m < 192 := by
  by_cases h2 : n < 2048
  · rw [rn_enc2 n h0 h2]
    refine ⟨1, by omega, by omega, rfl, ?_⟩
    have : bt ⟨#[UInt8.ofNat (192 + n / 64), UInt8.ofNat (128 + n % 64)]⟩ 1 = 128 + n % 64 := rn_u8 _ (by omega)
    omega
  · by_cases h3 : n < 65536
    · rw [rn_enc3 n (by omega) h3 hv]
      refine ⟨2, by omega, by omega, rfl, ?_⟩
      have : bt ⟨#[UInt8.ofNat (224 + n / 4096), UInt8.ofNat (128 + n / 64 % 64), UInt8.ofNat (128 + n % 64)]⟩ 2 = 128 + n % 64 := rn_u8 _ (by omega)
      omega
    · rw [rn_enc4 n (by omega) hv]
      refine ⟨3, by omega, by omega, rfl, ?_⟩
      have : bt ⟨#[UInt8.ofNat (240 + n / 262144), UInt8.ofNat (128 + n / 4096 % 64), UInt8.ofNat (128 + n / 64 % 64), UInt8.ofNat (128 + n % 64)]⟩ 3 = 128 + n % 64 := rn_u8 _ (by omega)
      omega

theorem Looks.contains {s : ByteArray} {f : Int → Bool} {L : List Nat} (h : Looks s f L) (r : Int) (w : World) (h0 : -1 ≤ r) (h1 : r ≤ 1114111) :
    Calls Tryz.prog 141 #[.string s, .int .i32 r] w fun e w' => e = .returned (.bool (f r)) ∧ Below w.heap.size w w' := by
  by_cases ha : 0 ≤ r ∧ r < 128
  · obtain ⟨n, rfl⟩ : ∃ n : Nat, r = n := ⟨r.toNat, by omega⟩
    refine (contains_ascii s n w (by omega) (by omega)).mono ?_
    rintro e w' ⟨rfl, rfl⟩
    refine ⟨?_, Below.refl _ _⟩
    rw [arg_u8, h.asc n (by omega)]
  · apply contains_of
    by_cases he : r = 65533
    · subst he
      have hf : f 65533 = false := by
        cases hb : f 65533 with
        | false => rfl
        | true => exact absurd rfl (h.bad _ hb).1
      refine (index_error s w L h.in0 h.inL).mono ?_
      rintro e w' ⟨rfl, hb⟩
      exact ⟨⟨-1, rfl, by rw [hf]; rfl⟩, hb⟩
    · cases hv : Lib.validRune r with
      | false =>
        have hf : f r = false := by
          cases hb : f r with
          | false => rfl
          | true => exact absurd (h.bad _ hb).2 (by rw [hv]; decide)
        refine (index_none s r w (by omega) he hv).mono ?_
        rintro e w' ⟨rfl, rfl⟩
        exact ⟨⟨-1, rfl, by rw [hf]; rfl⟩, Below.refl _ _⟩
      | true =>
        have hr : 128 ≤ r := by
          have := hv
          unfold Lib.validRune at this
          rw [decide_eq_true_eq] at this
          omega
        obtain ⟨n, rfl⟩ : ∃ n : Nat, r = n := ⟨r.toNat, by omega⟩
        have hv' : Utf8.valid (n : Int) = true := by rw [validRune_eq]; exact hv
        obtain ⟨m, m1, m2, m3, m4⟩ := rn_last n (by omega) (by omega) hv'
        refine (index_rune s _ n w m h.size rfl m1 m2 m3 hr he hv ?_).mono ?_
        · intro a b c hab hbc hcs q1 q2 q3
          exact h.no3 c hcs b hbc a hab ⟨by omega, by omega, by omega⟩
        · rintro e w' ⟨⟨v, rfl, hiff⟩, k, rfl⟩
          refine ⟨⟨v, rfl, ?_⟩, ⟨rfl, rfl, rfl, Nat.le_refl _, fun _ _ => rfl⟩⟩
          rw [Bool.eq_iff_iff, decide_eq_true_iff, hiff]
          exact h.occ n (by omega) hv' (by omega)

theorem looks_frac : Looks ⟨#[194, 189, 194, 188, 194, 190]⟩ isFrac [0, 2, 4, 6] where
  size := by decide
  asc := by decide +kernel
  two := by decide +kernel
  three := by decide +kernel
  four := by decide +kernel
  back := by
    intro r h0 hf
    have : r = 189 ∨ r = 188 ∨ r = 190 := by simpa [isFrac, or_assoc] using hf
    rcases this with rfl | rfl | rfl
    · exact ⟨0, by decide +kernel, by decide +kernel⟩
    · exact ⟨2, by decide +kernel, by decide +kernel⟩
    · exact ⟨4, by decide +kernel, by decide +kernel⟩
  bad := by
    intro r hf
    have : r = 189 ∨ r = 188 ∨ r = 190 := by simpa [isFrac, or_assoc] using hf
    rcases this with rfl | rfl | rfl <;> decide
  no3 := by decide +kernel
  in0 := by decide
  inL := by decide +kernel
theorem looks_mark : Looks ⟨#[194, 178, 226, 128, 178]⟩ isMk [0, 2, 5] where
  size := by decide
  asc := by decide +kernel
  two := by decide +kernel
  three := by decide +kernel
  four := by decide +kernel
  back := by
    intro r h0 hf
    have : r = 178 ∨ r = 8242 := by simpa [isMk] using hf
    rcases this with rfl | rfl
    · exact ⟨0, by decide +kernel, by decide +kernel⟩
    · exact ⟨2, by decide +kernel, by decide +kernel⟩
  bad := by
    intro r hf
    have : r = 178 ∨ r = 8242 := by simpa [isMk] using hf
    rcases this with rfl | rfl <;> decide
  no3 := by decide +kernel
  in0 := by decide
  inL := by decide +kernel
theorem looks_sum : Looks ⟨#[43, 226, 136, 146]⟩ (inRow 0) [0, 1, 4] where
  size := by decide
  asc := by decide +kernel
  two := by decide +kernel
  three := by decide +kernel
  four := by decide +kernel
  back := by
    intro r h0 hf
    have : r = 43 ∨ r = 8722 := by simpa [inRow] using hf
    rcases this with rfl | rfl
    · omega
    · exact ⟨1, by decide +kernel, by decide +kernel⟩
  bad := by
    intro r hf
    have : r = 43 ∨ r = 8722 := by simpa [inRow] using hf
    rcases this with rfl | rfl <;> decide
  no3 := by decide +kernel
  in0 := by decide
  inL := by decide +kernel
theorem looks_prod : Looks ⟨#[195, 151, 195, 183]⟩ (inRow 1) [0, 2, 4] where
  size := by decide
  asc := by decide +kernel
  two := by decide +kernel
  three := by decide +kernel
  four := by decide +kernel
  back := by
    intro r h0 hf
    have : r = 215 ∨ r = 247 := by simpa [inRow] using hf
    rcases this with rfl | rfl
    · exact ⟨0, by decide +kernel, by decide +kernel⟩
    · exact ⟨2, by decide +kernel, by decide +kernel⟩
  bad := by
    intro r hf
    have : r = 215 ∨ r = 247 := by simpa [inRow] using hf
    rcases this with rfl | rfl <;> decide
  no3 := by decide +kernel
  in0 := by decide
  inL := by decide +kernel
end Go.Proofs.YtodabmkcihafhaaGreatDoor

/- The program's looks at one rune. -/
namespace Go.Proofs.YtodabmkcihafhaaGreatDoor
open Go.RowKit
set_option linter.unusedVariables false

theorem contains_frac (r : Int) (w : World) (h0 : -1 ≤ r) (h1 : r ≤ 1114111) : Calls Tryz.prog 141 #[.string ⟨#[194, 189, 194, 188, 194, 190]⟩, .int .i32 r] w fun e w' => e = .returned (.bool (isFrac r)) ∧ Below w.heap.size w w' :=
  looks_frac.contains r w h0 h1
theorem contains_mark (r : Int) (w : World) (h0 : -1 ≤ r) (h1 : r ≤ 1114111) : Calls Tryz.prog 141 #[.string ⟨#[194, 178, 226, 128, 178]⟩, .int .i32 r] w fun e w' => e = .returned (.bool (isMk r)) ∧ Below w.heap.size w w' :=
  looks_mark.contains r w h0 h1
theorem contains_sum (r : Int) (w : World) (h0 : -1 ≤ r) (h1 : r ≤ 1114111) : Calls Tryz.prog 141 #[.string ⟨#[43, 226, 136, 146]⟩, .int .i32 r] w fun e w' => e = .returned (.bool (inRow 0 r)) ∧ Below w.heap.size w w' :=
  looks_sum.contains r w h0 h1
theorem contains_prod (r : Int) (w : World) (h0 : -1 ≤ r) (h1 : r ≤ 1114111) : Calls Tryz.prog 141 #[.string ⟨#[195, 151, 195, 183]⟩, .int .i32 r] w fun e w' => e = .returned (.bool (inRow 1 r)) ∧ Below w.heap.size w w' :=
  looks_prod.contains r w h0 h1

set_option maxHeartbeats 400000 in
theorem isFraction_any (r : Int) (w : World) (h0 : -1 ≤ r) (h1 : r ≤ 1114111) : Calls Tryz.prog 165 #[.int .i32 r] w fun e w' => e = .returned (.bool (isFrac r)) ∧ Below w.heap.size w w' := by
  go_enter Tryz.func165, Tryz.ntmps165
  go_wp2_with fail
  refine (contains_frac r _ h0 h1).mono ?_
  rintro e w' ⟨rfl, hb⟩
  go_wp2_with fail
  go_ret
  exact ⟨rfl, hb⟩
set_option maxHeartbeats 400000 in
theorem isMark_any (r : Int) (w : World) (h0 : -1 ≤ r) (h1 : r ≤ 1114111) : Calls Tryz.prog 154 #[.int .i32 r] w fun e w' => e = .returned (.bool (isMk r)) ∧ Below w.heap.size w w' := by
  go_enter Tryz.func154, Tryz.ntmps154
  go_wp2_with fail
  refine (contains_mark r _ h0 h1).mono ?_
  rintro e w' ⟨rfl, hb⟩
  go_wp2_with fail
  go_ret
  exact ⟨rfl, hb⟩
theorem ret_b {a b : Bool} (h : a = b) : Ending.returned (.bool a) = .returned (.bool b) := by rw [h]
set_option maxHeartbeats 400000 in
theorem isDigit_any (r : Int) (w : World) : Calls Tryz.prog 164 #[.int .i32 r] w fun e w' => e = .returned (.bool (isDig r)) ∧ w' = w := by
  have HD : Hid (isDig r = (decide (48 ≤ r) && decide (r ≤ 57))) := rfl
  by_cases h : 48 ≤ r
  · go_enter Tryz.func164, Tryz.ntmps164
    go_wp2_with fail
    go_ret
    refine ⟨ret_b ?_, rfl⟩
    rw [HD.out]; simp [h]
  · have h' : decide (48 ≤ r) = false := by simpa using h
    go_enter Tryz.func164, Tryz.ntmps164
    go_wp2_with fail
    go_ret
    refine ⟨ret_b ?_, rfl⟩
    rw [HD.out, h']; rfl
set_option maxHeartbeats 400000 in
theorem isName_any (r : Int) (w : World) : Calls Tryz.prog 65 #[.int .i32 r] w fun e w' => e = .returned (.bool (isNm r)) ∧ w' = w := by
  have HD : Hid (isNm r = (decide (945 ≤ r) && decide (r ≤ 969))) := rfl
  by_cases h : 945 ≤ r
  · go_enter Tryz.func65, Tryz.ntmps65
    go_wp2_with fail
    go_ret
    refine ⟨ret_b ?_, rfl⟩
    rw [HD.out]; simp [h]
  · have h' : decide (945 ≤ r) = false := by simpa using h
    go_enter Tryz.func65, Tryz.ntmps65
    go_wp2_with fail
    go_ret
    refine ⟨ret_b ?_, rfl⟩
    rw [HD.out, h']; rfl
end Go.Proofs.YtodabmkcihafhaaGreatDoor

/- Plain laws: the one form of a list of nodes, and how long it is. -/
namespace Go.Proofs.YtodabmkcihafhaaGreatDoor

def isBin (op : Int) : Bool := op == 43 || op == 8722 || op == 215 || op == 247
def isUn (op : Int) : Bool := op == 110 || op == 178 || op == 8242
def rankP (op : Int) : Nat := if op = 43 ∨ op = 8722 then 0 else if op = 215 ∨ op = 247 then 1 else if op = 110 then 2 else 3
def opAt (L : List Nd) (k : Nat) : Int := match L[k]? with | some n => n.op | none => 0
/-- In brackets, if the rank is below what is asked. -/
def brk (r least : Nat) (t : ByteArray) : ByteArray := if r < least then ⟨#[40]⟩ ++ t ++ ⟨#[41]⟩ else t

def formF : Nat → List Nd → Nat → ByteArray
  | 0, _, _ => ByteArray.empty
  | f + 1, L, k =>
    match L[k]? with
    | none => ByteArray.empty
    | some n =>
      if n.op = 43 ∨ n.op = 8722 then brk (rankP (opAt L n.a)) 0 (formF f L n.a) ++ Utf8.encode n.op ++ brk (rankP (opAt L n.b)) 1 (formF f L n.b)
      else if n.op = 215 ∨ n.op = 247 then brk (rankP (opAt L n.a)) 1 (formF f L n.a) ++ Utf8.encode n.op ++ brk (rankP (opAt L n.b)) 2 (formF f L n.b)
      else if n.op = 110 then Utf8.encode 8722 ++ brk (rankP (opAt L n.a)) 2 (formF f L n.a)
      else if n.op = 178 ∨ n.op = 8242 then brk (rankP (opAt L n.a)) 3 (formF f L n.a) ++ Utf8.encode n.op
      else if n.op = 48 then n.text
      else Utf8.encode n.op

/-- What a node stands on lies ahead of it. -/
def WfN (k : Nat) (n : Nd) : Prop := 0 ≤ n.op ∧ n.op < 55296 ∧ (isBin n.op = true → n.a < k ∧ n.b < k) ∧ (isUn n.op = true → n.a < k)
def WfL (L : List Nd) : Prop := ∀ k n, L[k]? = some n → WfN k n

theorem WfL.snoc {L : List Nd} (h : WfL L) {n : Nd} (hn : WfN L.length n) : WfL (L ++ [n]) := by
  intro k m hm
  rw [List.getElem?_append] at hm
  split at hm
  · exact h k m hm
  · rename_i hk
    rcases Nat.lt_or_ge (k - L.length) 1 with h1 | h1
    · have : k = L.length := by omega
      subst this
      simp at hm
      subst hm
      exact hn
    · rw [List.getElem?_eq_none (by simpa using h1)] at hm; cases hm
theorem wf_bin {op : Int} {k a b : Nat} {num den : Int} {t : ByteArray} {pl : Nat} (h0 : 0 ≤ op) (h1 : op < 55296) (ha : a < k) (hb : b < k) : WfN k ⟨op, a, b, num, den, t, pl⟩ := ⟨h0, h1, fun _ => ⟨ha, hb⟩, fun _ => ha⟩
theorem wf_un {op : Int} {k a b : Nat} {num den : Int} {t : ByteArray} {pl : Nat} (h0 : 0 ≤ op) (h1 : op < 55296) (hnb : isBin op = false) (ha : a < k) : WfN k ⟨op, a, b, num, den, t, pl⟩ := ⟨h0, h1, fun h => (by rw [show isBin op = true from h] at hnb; cases hnb), fun _ => ha⟩
theorem wf_leaf {op : Int} {k a b : Nat} {num den : Int} {t : ByteArray} {pl : Nat} (h0 : 0 ≤ op) (h1 : op < 55296) (hnb : isBin op = false) (hnu : isUn op = false) : WfN k ⟨op, a, b, num, den, t, pl⟩ := ⟨h0, h1, fun h => (by rw [show isBin op = true from h] at hnb; cases hnb), fun h => (by rw [show isUn op = true from h] at hnu; cases hnu)⟩

/-- One step of the form, the sub-forms under names. -/
def nodeF (n : Nd) (ra rb : Nat) (fa fb : ByteArray) : ByteArray :=
  if n.op = 43 ∨ n.op = 8722 then brk ra 0 fa ++ Utf8.encode n.op ++ brk rb 1 fb
  else if n.op = 215 ∨ n.op = 247 then brk ra 1 fa ++ Utf8.encode n.op ++ brk rb 2 fb
  else if n.op = 110 then Utf8.encode 8722 ++ brk ra 2 fa
  else if n.op = 178 ∨ n.op = 8242 then brk ra 3 fa ++ Utf8.encode n.op
  else if n.op = 48 then n.text
  else Utf8.encode n.op
theorem formF_succ (f : Nat) (L : List Nd) (k : Nat) (n : Nd) (h : L[k]? = some n) : formF (f + 1) L k = nodeF n (rankP (opAt L n.a)) (rankP (opAt L n.b)) (formF f L n.a) (formF f L n.b) := by
  simp only [formF, h]
  rfl
theorem nodeF_congr (n : Nd) {k ra rb ra' rb' : Nat} {fa fb fa' fb' : ByteArray} (hw : WfN k n) (ha : n.a < k → ra = ra' ∧ fa = fa') (hb : n.b < k → rb = rb' ∧ fb = fb') : nodeF n ra rb fa fb = nodeF n ra' rb' fa' fb' := by
  obtain ⟨_, _, h1, h2⟩ := hw
  unfold nodeF
  by_cases c1 : n.op = 43 ∨ n.op = 8722
  · have hb1 : isBin n.op = true := by unfold isBin; rcases c1 with e | e <;> simp [e]
    obtain ⟨q1, q2⟩ := h1 hb1
    obtain ⟨rfl, rfl⟩ := ha q1
    obtain ⟨rfl, rfl⟩ := hb q2
    rfl
  · rw [if_neg c1, if_neg c1]
    by_cases c2 : n.op = 215 ∨ n.op = 247
    · have hb1 : isBin n.op = true := by unfold isBin; rcases c2 with e | e <;> simp [e]
      obtain ⟨q1, q2⟩ := h1 hb1
      obtain ⟨rfl, rfl⟩ := ha q1
      obtain ⟨rfl, rfl⟩ := hb q2
      rfl
    · rw [if_neg c2, if_neg c2]
      by_cases c3 : n.op = 110
      · have hu : isUn n.op = true := by unfold isUn; simp [c3]
        obtain ⟨rfl, rfl⟩ := ha (h2 hu)
        rfl
      · rw [if_neg c3, if_neg c3]
        by_cases c4 : n.op = 178 ∨ n.op = 8242
        · have hu : isUn n.op = true := by unfold isUn; rcases c4 with e | e <;> simp [e]
          obtain ⟨rfl, rfl⟩ := ha (h2 hu)
          rfl
        · rw [if_neg c4, if_neg c4]

theorem opAt_append (L M : List Nd) (k : Nat) (h : k < L.length) : opAt (L ++ M) k = opAt L k := by
  unfold opAt
  rw [List.getElem?_append_left h]
theorem formF_append : ∀ (f : Nat) (L M : List Nd) (k : Nat), WfL L → k < L.length → formF f (L ++ M) k = formF f L k := by
  intro f
  induction f with
  | zero => intro L M k _ _; rfl
  | succ f ih =>
    intro L M k hw hk
    obtain ⟨n, hn⟩ : ∃ n, L[k]? = some n := ⟨L[k], List.getElem?_eq_getElem hk⟩
    have hn2 : (L ++ M)[k]? = some n := by rw [List.getElem?_append_left hk]; exact hn
    rw [formF_succ f L k n hn, formF_succ f (L ++ M) k n hn2]
    refine nodeF_congr n (hw k n hn) (fun h => ⟨by rw [opAt_append L M _ (by omega)], ih L M _ hw (by omega)⟩) (fun h => ⟨by rw [opAt_append L M _ (by omega)], ih L M _ hw (by omega)⟩)
theorem formF_fuel : ∀ (f : Nat) (L : List Nd) (k : Nat), WfL L → k < L.length → k < f → formF (f + 1) L k = formF f L k := by
  intro f
  induction f with
  | zero => intro L k _ _ h; omega
  | succ f ih =>
    intro L k hw hk hf
    obtain ⟨n, hn⟩ : ∃ n, L[k]? = some n := ⟨L[k], List.getElem?_eq_getElem hk⟩
    rw [formF_succ (f + 1) L k n hn, formF_succ f L k n hn]
    exact nodeF_congr n (hw k n hn) (fun h => ⟨rfl, ih L _ hw (by omega) (by omega)⟩) (fun h => ⟨rfl, ih L _ hw (by omega) (by omega)⟩)
/-- The form of node k. -/
def fm (L : List Nd) (k : Nat) : ByteArray := formF (k + 1) L k
theorem formF_fm : ∀ (d : Nat) (L : List Nd) (k : Nat), WfL L → k < L.length → formF (k + 1 + d) L k = fm L k := by
  intro d
  induction d with
  | zero => intro L k _ _; rfl
  | succ d ih =>
    intro L k hw hk
    rw [← Nat.add_assoc, formF_fuel (k + 1 + d) L k hw hk (by omega)]
    exact ih L k hw hk
theorem fm_eq (L : List Nd) (k : Nat) (n : Nd) (hw : WfL L) (h : L[k]? = some n) : fm L k = nodeF n (rankP (opAt L n.a)) (rankP (opAt L n.b)) (fm L n.a) (fm L n.b) := by
  have hk : k < L.length := (List.getElem?_eq_some_iff.1 h).1
  unfold fm
  rw [formF_succ k L k n h]
  refine nodeF_congr n (hw k n h) (fun ha => ⟨rfl, ?_⟩) (fun hb => ⟨rfl, ?_⟩)
  · rw [show k = n.a + 1 + (k - n.a - 1) by omega]; exact formF_fm _ L n.a hw (by omega)
  · rw [show k = n.b + 1 + (k - n.b - 1) by omega]; exact formF_fm _ L n.b hw (by omega)
theorem fm_append (L M : List Nd) (k : Nat) (hw : WfL L) (hk : k < L.length) : fm (L ++ M) k = fm L k := formF_append _ L M k hw hk
theorem fm_last (L : List Nd) (n : Nd) (hw : WfL L) (hn : WfN L.length n) : fm (L ++ [n]) L.length = nodeF n (rankP (opAt L n.a)) (rankP (opAt L n.b)) (fm L n.a) (fm L n.b) := by
  have hg : (L ++ [n])[L.length]? = some n := by simp
  rw [fm_eq (L ++ [n]) L.length n (hw.snoc hn) hg]
  exact nodeF_congr n hn (fun ha => ⟨by rw [opAt_append _ _ _ ha], fm_append _ _ _ hw ha⟩) (fun hb => ⟨by rw [opAt_append _ _ _ hb], fm_append _ _ _ hw hb⟩)

/-! ### How long it is -/
theorem enc_size (c : Int) : (Utf8.encode c).size ≤ 4 := by
  unfold Utf8.encode
  simp only
  repeat' split
  all_goals simp [ByteArray.size]
theorem brk_size (r least : Nat) (t : ByteArray) : (brk r least t).size ≤ t.size + 2 := by
  unfold brk
  split
  · simp [ByteArray.size_append]
    have : (ByteArray.mk #[40]).size = 1 := rfl
    have : (ByteArray.mk #[41]).size = 1 := rfl
    omega
  · omega
theorem nodeF_bin (n : Nd) (ra rb : Nat) (fa fb : ByteArray) (h : isBin n.op = true) : (nodeF n ra rb fa fb).size ≤ fa.size + fb.size + 8 := by
  have e := enc_size n.op
  unfold nodeF
  unfold isBin at h
  simp at h
  split
  · have := brk_size ra 0 fa; have := brk_size rb 1 fb
    simp only [ByteArray.size_append]; omega
  · split
    · have := brk_size ra 1 fa; have := brk_size rb 2 fb
      simp only [ByteArray.size_append]; omega
    · omega
theorem nodeF_un (n : Nd) (ra rb : Nat) (fa fb : ByteArray) (h : isUn n.op = true) : (nodeF n ra rb fa fb).size ≤ fa.size + 6 := by
  have e := enc_size n.op
  have e' := enc_size 8722
  unfold isUn at h
  simp at h
  unfold nodeF
  rw [if_neg (by omega), if_neg (by omega)]
  split
  · have := brk_size ra 2 fa
    simp only [ByteArray.size_append]; omega
  · rw [if_pos (by omega)]
    have := brk_size ra 3 fa
    simp only [ByteArray.size_append]; omega
theorem nodeF_leaf (n : Nd) (ra rb : Nat) (fa fb : ByteArray) (h1 : isBin n.op = false) (h2 : isUn n.op = false) : nodeF n ra rb fa fb = if n.op = 48 then n.text else Utf8.encode n.op := by
  unfold isBin at h1
  unfold isUn at h2
  simp at h1 h2
  unfold nodeF
  rw [if_neg (by omega), if_neg (by omega), if_neg (by omega), if_neg (by omega)]

theorem encAll_size (l : List Int) : (encAll l).size ≤ 4 * l.length := by
  unfold encAll
  suffices ∀ (l : List Int) (a : ByteArray), (l.foldl (fun acc c => acc ++ Utf8.encode c) a).size ≤ a.size + 4 * l.length by
    have := this l ByteArray.empty
    simpa using this
  intro l
  induction l with
  | nil => intro a; simp
  | cons c r ih =>
    intro a
    have := ih (a ++ Utf8.encode c)
    have e := enc_size c
    simp only [List.foldl_cons, List.length_cons, ByteArray.size_append] at this ⊢
    omega
theorem digs_count : ∀ (n : Nat) (ts : List Tok), (digs n ts).1.length + (digs n ts).2.length ≤ ts.length := by
  intro n
  induction n with
  | zero => intro ts; simp [digs]
  | succ n ih =>
    intro ts
    simp only [digs]
    split
    · rename_i hd
      have h1 : 1 ≤ ts.length := by
        cases ts with
        | nil => revert hd; simp [jn, isDig]
        | cons t r => simp
      have := ih ts.tail
      simp at this ⊢
      omega
    · simp
theorem fracT_count (ts : List Tok) : (fracT ts).1.length + (fracT ts).2.length ≤ ts.length := by
  unfold fracT
  split
  · rename_i hd
    have h1 : 1 ≤ ts.length := by
      cases ts with
      | nil => revert hd; simp [jn, isFrac]
      | cons t r => simp
    simp; omega
  · simp
theorem numT_count (ts : List Tok) (h : hd ts ≠ -1) : (numT ts).1.length + (numT ts).2.length ≤ ts.length ∧ 1 ≤ (numT ts).1.length := by
  have h1 := ne_of_hd h
  unfold numT
  split
  · simp; omega
  · split
    · have := fracT_count ts.tail
      simp at this ⊢; omega
    · have := fracT_count (digs 2 ts.tail).2
      have h2 := digs_count 2 ts.tail
      simp at this h2 ⊢; omega

/-- What a reading that went well says of the nodes: they are well made, and the form of the root is short. -/
structure PSize (tag k : Nat) (ts : List Tok) (L : List Nd) (R : Res) : Prop where
  wf : WfL R.L
  sz : tag < 4 → (fm R.L R.k).size + 2 + 6 * R.ts.length ≤ 6 * ts.length
  szl : 4 ≤ tag → k < L.length → (fm R.L R.k).size + 6 * R.ts.length ≤ (fm L k).size + 6 * ts.length

theorem pp_size : ∀ (f tag k : Nat) (ts : List Tok) (L : List Nd), WfL L → (4 ≤ tag → k < L.length) → (pp f tag k ts L).ok = true → PSize tag k ts L (pp f tag k ts L) := by
  intro f
  induction f with
  | zero => intro tag k ts L _ _ h; simp [pp] at h
  | succ f ih =>
    intro tag k ts L hw hk
    have stop : ∀ tg, 4 ≤ tg → PSize tg k ts L ⟨true, k, L, ts⟩ := fun tg h4 => ⟨hw, fun h => by omega, fun _ _ => Nat.le_refl _⟩
    match tag with
    | 0 =>
      simp only [pp]
      split
      · rename_i ho
        intro h
        have i1 := ih 1 0 ts L hw (by omega) ho
        have v1 := pp_inv f 1 0 ts L
        have kk := v1.kk ho (Or.inl (by decide))
        have i2 := ih 4 _ _ _ i1.wf (fun _ => kk) h
        have a1 := i1.sz (by decide)
        have a2 := i2.szl (by decide) kk
        exact ⟨i2.wf, fun _ => by omega, fun h => by omega⟩
      · rename_i ho; intro h; exact absurd h ho
    | 1 =>
      simp only [pp]
      split
      · rename_i ho
        intro h
        have i1 := ih 2 0 ts L hw (by omega) ho
        have v1 := pp_inv f 2 0 ts L
        have kk := v1.kk ho (Or.inl (by decide))
        have i2 := ih 5 _ _ _ i1.wf (fun _ => kk) h
        have a1 := i1.sz (by decide)
        have a2 := i2.szl (by decide) kk
        exact ⟨i2.wf, fun _ => by omega, fun h => by omega⟩
      · rename_i ho; intro h; exact absurd h ho
    | 2 =>
      simp only [pp]
      split
      · rename_i hm
        have hn : 1 ≤ ts.length := ne_of_hd (by rw [hm]; decide)
        split
        · rename_i ho
          intro h
          have i1 := ih 2 0 ts.tail L hw (by omega) ho
          have v1 := pp_inv f 2 0 ts.tail L
          have kk := v1.kk ho (Or.inl (by decide))
          have a1 := i1.sz (by decide)
          have wn : WfN (pp f 2 0 ts.tail L).L.length (opNd 110 (pp f 2 0 ts.tail L).k 0 (hp ts)) := wf_un (by decide) (by decide) rfl kk
          refine ⟨i1.wf.snoc wn, fun _ => ?_, fun h => by omega⟩
          have b1 := fm_last _ _ i1.wf wn
          have b2 := nodeF_un (opNd 110 (pp f 2 0 ts.tail L).k 0 (hp ts)) (rankP (opAt (pp f 2 0 ts.tail L).L (pp f 2 0 ts.tail L).k)) (rankP (opAt (pp f 2 0 ts.tail L).L 0)) (fm (pp f 2 0 ts.tail L).L (pp f 2 0 ts.tail L).k) (fm (pp f 2 0 ts.tail L).L 0) rfl
          simp only [List.length_tail] at a1
          show (fm _ _).size + 2 + 6 * _ ≤ _
          simp only [b1]
          unfold opNd at b2 ⊢
          simp only at b2 ⊢
          omega
        · rename_i ho; intro h; exact absurd h ho
      · split
        · rename_i ho
          intro h
          have i1 := ih 3 0 ts L hw (by omega) ho
          have v1 := pp_inv f 3 0 ts L
          have kk := v1.kk ho (Or.inl (by decide))
          have i2 := ih 6 _ _ _ i1.wf (fun _ => kk) h
          have a1 := i1.sz (by decide)
          have a2 := i2.szl (by decide) kk
          exact ⟨i2.wf, fun _ => by omega, fun h => by omega⟩
        · rename_i ho; intro h; exact absurd h ho
    | 3 =>
      simp only [pp]
      split
      · rename_i hd1
        intro _
        have hn : hd ts ≠ -1 := by intro h; rw [h] at hd1; revert hd1; decide
        have cnt := numT_count ts hn
        have wn : WfN L.length (numNd ts) := wf_leaf (by decide) (by decide) rfl rfl
        refine ⟨hw.snoc wn, fun _ => ?_, fun h => by omega⟩
        have b1 := fm_last _ _ hw wn
        rw [nodeF_leaf _ _ _ _ _ rfl rfl] at b1
        have es := encAll_size (numT ts).1
        show (fm _ _).size + 2 + 6 * _ ≤ _
        simp only [b1]
        unfold numNd
        simp only [if_true]
        omega
      · split
        · rename_i hd1
          intro _
          have hr : (hd ts = 105 ∨ (945 ≤ hd ts ∧ hd ts ≤ 969)) := by
            rcases hd1 with h | h
            · exact Or.inl h
            · right; unfold isNm at h; simpa using h
          have hn : 1 ≤ ts.length := ne_of_hd (by omega)
          have hbn : isBin (hd ts) = false := by unfold isBin; simp; omega
          have hun : isUn (hd ts) = false := by unfold isUn; simp; omega
          have wn : WfN L.length (opNd (hd ts) 0 0 (hp ts)) := wf_leaf (by omega) (by omega) hbn hun
          refine ⟨hw.snoc wn, fun _ => ?_, fun h => by omega⟩
          have b1 := fm_last _ _ hw wn
          rw [nodeF_leaf _ _ _ _ _ hbn hun] at b1
          have es := enc_size (hd ts)
          show (fm _ _).size + 2 + 6 * _ ≤ _
          simp only [b1]
          unfold opNd
          simp only [List.length_tail]
          rw [if_neg (by omega)]
          omega
        · split
          · rename_i hd1
            have hn : 1 ≤ ts.length := ne_of_hd (by rw [hd1]; decide)
            split
            · rename_i ho
              have i1 := ih 0 0 ts.tail L hw (by omega) ho
              have a1 := i1.sz (by decide)
              simp only [List.length_tail] at a1
              split
              · intro _
                refine ⟨i1.wf, fun _ => ?_, fun h => by omega⟩
                simp only [List.length_tail]
                omega
              · intro h; cases h
            · rename_i ho; intro h; exact absurd h ho
          · intro h; cases h
    | 4 =>
      simp only [pp]
      split
      · rename_i hm
        have hr : hd ts = 43 ∨ hd ts = 8722 := by simpa [inRow] using hm
        have hn : 1 ≤ ts.length := ne_of_hd (by omega)
        split
        · rename_i ho
          intro h
          have i1 := ih 1 0 ts.tail L hw (by omega) ho
          have v1 := pp_inv f 1 0 ts.tail L
          have kk := v1.kk ho (Or.inl (by decide))
          obtain ⟨M, hM⟩ := v1.pre
          have a1 := i1.sz (by decide)
          have hb : isBin (hd ts) = true := by unfold isBin; rcases hr with e | e <;> simp [e]
          have hk' := hk (by decide)
          have hk2 : k < (pp f 1 0 ts.tail L).L.length := by rw [hM]; simp; omega
          have wn : WfN (pp f 1 0 ts.tail L).L.length (opNd (hd ts) k (pp f 1 0 ts.tail L).k (hp ts)) := wf_bin (by omega) (by omega) hk2 kk
          have i2 := ih 4 _ _ _ (i1.wf.snoc wn) (fun _ => by simp) h
          have a2 := i2.szl (by decide) (by simp)
          have b1 := fm_last _ _ i1.wf wn
          have b2 := nodeF_bin (opNd (hd ts) k (pp f 1 0 ts.tail L).k (hp ts)) (rankP (opAt (pp f 1 0 ts.tail L).L k)) (rankP (opAt (pp f 1 0 ts.tail L).L (pp f 1 0 ts.tail L).k)) (fm (pp f 1 0 ts.tail L).L k) (fm (pp f 1 0 ts.tail L).L (pp f 1 0 ts.tail L).k) hb
          have b3 : fm (pp f 1 0 ts.tail L).L k = fm L k := by rw [hM]; exact fm_append L M k hw hk'
          refine ⟨i2.wf, fun h => by omega, fun _ _ => ?_⟩
          rw [b1] at a2
          simp only [List.length_tail] at a1 a2 ⊢
          unfold opNd at b2 a2 ⊢
          simp only at b2 a2 ⊢
          rw [b3] at b2 a2
          omega
        · rename_i ho; intro h; exact absurd h ho
      · intro _; exact stop _ (by decide)
    | 5 =>
      simp only [pp]
      split
      · rename_i hm
        have hr : hd ts = 215 ∨ hd ts = 247 := by simpa [inRow] using hm
        have hn : 1 ≤ ts.length := ne_of_hd (by omega)
        split
        · rename_i ho
          intro h
          have i1 := ih 2 0 ts.tail L hw (by omega) ho
          have v1 := pp_inv f 2 0 ts.tail L
          have kk := v1.kk ho (Or.inl (by decide))
          obtain ⟨M, hM⟩ := v1.pre
          have a1 := i1.sz (by decide)
          have hb : isBin (hd ts) = true := by unfold isBin; rcases hr with e | e <;> simp [e]
          have hk' := hk (by decide)
          have hk2 : k < (pp f 2 0 ts.tail L).L.length := by rw [hM]; simp; omega
          have wn : WfN (pp f 2 0 ts.tail L).L.length (opNd (hd ts) k (pp f 2 0 ts.tail L).k (hp ts)) := wf_bin (by omega) (by omega) hk2 kk
          have i2 := ih 5 _ _ _ (i1.wf.snoc wn) (fun _ => by simp) h
          have a2 := i2.szl (by decide) (by simp)
          have b1 := fm_last _ _ i1.wf wn
          have b2 := nodeF_bin (opNd (hd ts) k (pp f 2 0 ts.tail L).k (hp ts)) (rankP (opAt (pp f 2 0 ts.tail L).L k)) (rankP (opAt (pp f 2 0 ts.tail L).L (pp f 2 0 ts.tail L).k)) (fm (pp f 2 0 ts.tail L).L k) (fm (pp f 2 0 ts.tail L).L (pp f 2 0 ts.tail L).k) hb
          have b3 : fm (pp f 2 0 ts.tail L).L k = fm L k := by rw [hM]; exact fm_append L M k hw hk'
          refine ⟨i2.wf, fun h => by omega, fun _ _ => ?_⟩
          rw [b1] at a2
          simp only [List.length_tail] at a1 a2 ⊢
          unfold opNd at b2 a2 ⊢
          simp only at b2 a2 ⊢
          rw [b3] at b2 a2
          omega
        · rename_i ho; intro h; exact absurd h ho
      · intro _; exact stop _ (by decide)
    | n + 6 =>
      simp only [pp]
      split
      · rename_i hm
        have hr : hd ts = 178 ∨ hd ts = 8242 := by simpa [isMk] using hm
        have hn : 1 ≤ ts.length := ne_of_hd (by omega)
        intro h
        have hk' := hk (by omega)
        have hu : isUn (hd ts) = true := by unfold isUn; rcases hr with e | e <;> simp [e]
        have hnb : isBin (hd ts) = false := by unfold isBin; rcases hr with e | e <;> simp [e]
        have wn : WfN L.length (opNd (hd ts) k 0 (hp ts)) := wf_un (by omega) (by omega) hnb hk'
        have i2 := ih 6 _ _ _ (hw.snoc wn) (fun _ => by simp) h
        have a2 := i2.szl (by decide) (by simp)
        have b1 := fm_last _ _ hw wn
        have b2 := nodeF_un (opNd (hd ts) k 0 (hp ts)) (rankP (opAt L k)) (rankP (opAt L 0)) (fm L k) (fm L 0) hu
        refine ⟨i2.wf, fun h => by omega, fun _ _ => ?_⟩
        rw [b1] at a2
        simp only [List.length_tail] at a2 ⊢
        unfold opNd at b2 a2 ⊢
        simp only at b2 a2 ⊢
        omega
      · intro _; exact stop _ (by omega)
end Go.Proofs.YtodabmkcihafhaaGreatDoor

/- Plain: the reading of a text as a tree; the list of nodes is the tree's, those ahead on which one is made. -/
namespace Go.Proofs.YtodabmkcihafhaaGreatDoor

/-- An expression: a numeral (its runes), i or a name, one with a sign ahead or behind, two with a sign between; each with its place. -/
inductive Ex where
  | num (l : List Int) (p : Nat)
  | leaf (c : Int) (p : Nat)
  | un (c : Int) (p : Nat) (e : Ex)
  | bin (c : Int) (p : Nat) (l r : Ex)

def Ex.size : Ex → Nat
  | .num _ _ => 1
  | .leaf _ _ => 1
  | .un _ _ e => e.size + 1
  | .bin _ _ l r => l.size + r.size + 1
theorem Ex.size_pos : ∀ e : Ex, 1 ≤ e.size := by
  intro e
  cases e <;> simp [Ex.size]

def nNd (l : List Int) (p : Nat) : Nd := { op := 48, a := 0, b := 0, num := (numVal l).1, den := (numVal l).2, text := encAll l, pl := p }
/-- The nodes of a tree, the first at number o. -/
def Ex.flat (o : Nat) : Ex → List Nd
  | .num l p => [nNd l p]
  | .leaf c p => [opNd c 0 0 p]
  | .un c p e => e.flat o ++ [opNd c (o + e.size - 1) 0 p]
  | .bin c p l r => l.flat o ++ r.flat (o + l.size) ++ [opNd c (o + l.size - 1) (o + l.size + r.size - 1) p]
theorem Ex.flat_length : ∀ (e : Ex) (o : Nat), (e.flat o).length = e.size := by
  intro e
  induction e with
  | num l p => intro o; rfl
  | leaf c p => intro o; rfl
  | un c p e ih => intro o; simp [Ex.flat, Ex.size, ih]
  | bin c p l r ihl ihr => intro o; simp [Ex.flat, Ex.size, ihl, ihr]; omega

/-- What a reading comes to, as a tree. -/
structure RT where
  ok : Bool
  e : Ex
  ts : List Tok

/-- The reading, as a tree: pp's tags. -/
def pt : Nat → Nat → Ex → List Tok → RT
  | 0, _, e, ts => ⟨false, e, ts⟩
  | f + 1, tag, e, ts =>
    match tag with
    | 0 => if (pt f 1 e ts).ok then pt f 4 (pt f 1 e ts).e (pt f 1 e ts).ts else pt f 1 e ts
    | 1 => if (pt f 2 e ts).ok then pt f 5 (pt f 2 e ts).e (pt f 2 e ts).ts else pt f 2 e ts
    | 2 =>
      if hd ts = 8722 then
        (if (pt f 2 e ts.tail).ok then ⟨true, .un 110 (hp ts) (pt f 2 e ts.tail).e, (pt f 2 e ts.tail).ts⟩
         else pt f 2 e ts.tail)
      else if (pt f 3 e ts).ok then pt f 6 (pt f 3 e ts).e (pt f 3 e ts).ts else pt f 3 e ts
    | 3 =>
      if isDig (hd ts) || isFrac (hd ts) then ⟨true, .num (numT ts).1 (hp ts), (numT ts).2⟩
      else if hd ts = 105 ∨ isNm (hd ts) then ⟨true, .leaf (hd ts) (hp ts), ts.tail⟩
      else if hd ts = 40 then
        (if (pt f 0 e ts.tail).ok then
          (if hd (pt f 0 e ts.tail).ts = 41 then ⟨true, (pt f 0 e ts.tail).e, (pt f 0 e ts.tail).ts.tail⟩
           else ⟨false, e, (pt f 0 e ts.tail).ts⟩)
         else pt f 0 e ts.tail)
      else ⟨false, e, ts⟩
    | 4 =>
      if inRow 0 (hd ts) then
        (if (pt f 1 e ts.tail).ok then pt f 4 (.bin (hd ts) (hp ts) e (pt f 1 e ts.tail).e) (pt f 1 e ts.tail).ts
         else pt f 1 e ts.tail)
      else ⟨true, e, ts⟩
    | 5 =>
      if inRow 1 (hd ts) then
        (if (pt f 2 e ts.tail).ok then pt f 5 (.bin (hd ts) (hp ts) e (pt f 2 e ts.tail).e) (pt f 2 e ts.tail).ts
         else pt f 2 e ts.tail)
      else ⟨true, e, ts⟩
    | _ =>
      if isMk (hd ts) then pt f 6 (.un (hd ts) (hp ts) e) ts.tail else ⟨true, e, ts⟩

/-- A list of nodes that a tree gave. -/
def Built (L0 : List Nd) (e : Ex) (L : List Nd) (k : Nat) : Prop := L = L0 ++ e.flat L0.length ∧ k + 1 = L0.length + e.size

theorem Built.un {L0 : List Nd} {e : Ex} {L : List Nd} {k : Nat} (h : Built L0 e L k) (c : Int) (p : Nat) : Built L0 (.un c p e) (L ++ [opNd c k 0 p]) L.length := by
  obtain ⟨rfl, hk⟩ := h
  have : L0.length + e.size - 1 = k := by omega
  refine ⟨?_, ?_⟩
  · simp [Ex.flat, this]
  · simp [Ex.size, Ex.flat_length]; omega
theorem Built.bin {L0 : List Nd} {e1 e2 : Ex} {L L2 : List Nd} {k k2 : Nat} (h : Built L0 e1 L k) (h2 : Built L e2 L2 k2) (c : Int) (p : Nat) : Built L0 (.bin c p e1 e2) (L2 ++ [opNd c k k2 p]) L2.length := by
  obtain ⟨rfl, hk⟩ := h
  obtain ⟨rfl, hk2⟩ := h2
  simp only [List.length_append, Ex.flat_length] at hk2 ⊢
  have q1 : L0.length + e1.size - 1 = k := by omega
  have q2 : L0.length + e1.size + e2.size - 1 = k2 := by omega
  refine ⟨?_, ?_⟩
  · simp [Ex.flat, q1, q2]
  · simp [Ex.size]; omega
theorem Built.leafN (L0 : List Nd) (c : Int) (p : Nat) : Built L0 (.leaf c p) (L0 ++ [opNd c 0 0 p]) L0.length := ⟨rfl, rfl⟩
theorem Built.numN (L0 : List Nd) (ts : List Tok) : Built L0 (.num (numT ts).1 (hp ts)) (L0 ++ [numNd ts]) L0.length := ⟨rfl, rfl⟩

def Agree (L0 : List Nd) (R : Res) (T : RT) : Prop := R.ok = T.ok ∧ R.ts = T.ts ∧ (R.ok = true → Built L0 T.e R.L R.k)

theorem pp_pt : ∀ (f tag k : Nat) (ts : List Tok) (L L0 : List Nd) (e : Ex), (tag < 4 ∧ L0 = L ∨ Built L0 e L k) → (4 ≤ tag → Built L0 e L k) → (tag < 4 → L0 = L) → Agree L0 (pp f tag k ts L) (pt f tag e ts) := by
  intro f
  induction f with
  | zero => intro tag k ts L L0 e _ _ _; exact ⟨rfl, rfl, fun h => by cases h⟩
  | succ f ih =>
    have lo : ∀ (tag : Nat) (ts : List Tok) (L : List Nd) (e : Ex), tag < 4 → Agree L (pp f tag 0 ts L) (pt f tag e ts) := fun tag ts L e h => ih tag 0 ts L L e (Or.inl ⟨h, rfl⟩) (fun h' => by omega) (fun _ => rfl)
    have hi : ∀ (tag k : Nat) (ts : List Tok) (L L0 : List Nd) (e : Ex), 4 ≤ tag → Built L0 e L k → Agree L0 (pp f tag k ts L) (pt f tag e ts) := fun tag k ts L L0 e h hb => ih tag k ts L L0 e (Or.inr hb) (fun _ => hb) (fun h' => by omega)
    intro tag k ts L L0 e _ hB hL
    match tag with
    | 0 =>
      obtain rfl := hL (by decide)
      obtain ⟨a1, a2, a3⟩ := lo 1 ts L0 e (by decide)
      simp only [pp, pt]
      rw [← a1]
      by_cases h : (pp f 1 0 ts L0).ok = true
      · rw [if_pos h, if_pos h, ← a2]
        exact hi 4 _ _ _ _ _ (by decide) (a3 h)
      · rw [if_neg h, if_neg h]
        exact ⟨a1, a2, a3⟩
    | 1 =>
      obtain rfl := hL (by decide)
      obtain ⟨a1, a2, a3⟩ := lo 2 ts L0 e (by decide)
      simp only [pp, pt]
      rw [← a1]
      by_cases h : (pp f 2 0 ts L0).ok = true
      · rw [if_pos h, if_pos h, ← a2]
        exact hi 5 _ _ _ _ _ (by decide) (a3 h)
      · rw [if_neg h, if_neg h]
        exact ⟨a1, a2, a3⟩
    | 2 =>
      obtain rfl := hL (by decide)
      simp only [pp, pt]
      by_cases h0 : hd ts = 8722
      · rw [if_pos h0, if_pos h0]
        obtain ⟨a1, a2, a3⟩ := lo 2 ts.tail L0 e (by decide)
        rw [← a1]
        by_cases h : (pp f 2 0 ts.tail L0).ok = true
        · rw [if_pos h, if_pos h]
          exact ⟨rfl, a2, fun _ => (a3 h).un 110 (hp ts)⟩
        · rw [if_neg h, if_neg h]
          exact ⟨a1, a2, a3⟩
      · rw [if_neg h0, if_neg h0]
        obtain ⟨a1, a2, a3⟩ := lo 3 ts L0 e (by decide)
        rw [← a1]
        by_cases h : (pp f 3 0 ts L0).ok = true
        · rw [if_pos h, if_pos h, ← a2]
          exact hi 6 _ _ _ _ _ (by decide) (a3 h)
        · rw [if_neg h, if_neg h]
          exact ⟨a1, a2, a3⟩
    | 3 =>
      obtain rfl := hL (by decide)
      simp only [pp, pt]
      by_cases h1 : (isDig (hd ts) || isFrac (hd ts)) = true
      · rw [if_pos h1, if_pos h1]
        exact ⟨rfl, rfl, fun _ => Built.numN L0 ts⟩
      · rw [if_neg h1, if_neg h1]
        by_cases h2 : hd ts = 105 ∨ isNm (hd ts) = true
        · rw [if_pos h2, if_pos h2]
          exact ⟨rfl, rfl, fun _ => Built.leafN L0 _ _⟩
        · rw [if_neg h2, if_neg h2]
          by_cases h3 : hd ts = 40
          · rw [if_pos h3, if_pos h3]
            obtain ⟨a1, a2, a3⟩ := lo 0 ts.tail L0 e (by decide)
            rw [← a1, ← a2]
            by_cases h : (pp f 0 0 ts.tail L0).ok = true
            · rw [if_pos h, if_pos h]
              by_cases h4 : hd (pp f 0 0 ts.tail L0).ts = 41
              · rw [if_pos h4, if_pos h4]
                exact ⟨rfl, rfl, fun _ => a3 h⟩
              · rw [if_neg h4, if_neg h4]
                exact ⟨rfl, rfl, fun h => by cases h⟩
            · rw [if_neg h, if_neg h]
              exact ⟨a1, a2, a3⟩
          · rw [if_neg h3, if_neg h3]
            exact ⟨rfl, rfl, fun h => by cases h⟩
    | 4 =>
      have hb := hB (by decide)
      simp only [pp, pt]
      by_cases h0 : inRow 0 (hd ts) = true
      · rw [if_pos h0, if_pos h0]
        obtain ⟨a1, a2, a3⟩ := lo 1 ts.tail L e (by decide)
        rw [← a1]
        by_cases h : (pp f 1 0 ts.tail L).ok = true
        · rw [if_pos h, if_pos h, ← a2]
          exact hi 4 _ _ _ _ _ (by decide) (hb.bin (a3 h) (hd ts) (hp ts))
        · rw [if_neg h, if_neg h]
          exact ⟨a1, a2, fun h' => absurd h' h⟩
      · rw [if_neg h0, if_neg h0]
        exact ⟨rfl, rfl, fun _ => hb⟩
    | 5 =>
      have hb := hB (by decide)
      simp only [pp, pt]
      by_cases h0 : inRow 1 (hd ts) = true
      · rw [if_pos h0, if_pos h0]
        obtain ⟨a1, a2, a3⟩ := lo 2 ts.tail L e (by decide)
        rw [← a1]
        by_cases h : (pp f 2 0 ts.tail L).ok = true
        · rw [if_pos h, if_pos h, ← a2]
          exact hi 5 _ _ _ _ _ (by decide) (hb.bin (a3 h) (hd ts) (hp ts))
        · rw [if_neg h, if_neg h]
          exact ⟨a1, a2, fun h' => absurd h' h⟩
      · rw [if_neg h0, if_neg h0]
        exact ⟨rfl, rfl, fun _ => hb⟩
    | n + 6 =>
      have hb := hB (by omega)
      simp only [pp, pt]
      by_cases h0 : isMk (hd ts) = true
      · rw [if_pos h0, if_pos h0]
        exact hi 6 _ _ _ _ _ (by decide) (hb.un (hd ts) (hp ts))
      · rw [if_neg h0, if_neg h0]
        exact ⟨rfl, rfl, fun _ => hb⟩
end Go.Proofs.YtodabmkcihafhaaGreatDoor
