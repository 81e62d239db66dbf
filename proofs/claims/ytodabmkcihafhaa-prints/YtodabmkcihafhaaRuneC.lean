/- strings.ContainsRune at every rune, in four texts of the program. -/
import Derived.Test.YtodabmkcihafhaaRuneI
namespace Go.Proofs.Ytodabmkcihafhaa
open Go.RowKit
set_option linter.unusedVariables false

set_option maxHeartbeats 2000000 in
set_option maxRecDepth 1000000 in
theorem index_none (s : ByteArray) (r : Int) (w : World) (h1 : r < 0 ∨ 128 ≤ r) (hr2 : r ≠ 65533) (hv : Lib.validRune r = false) :
    Calls Try.prog 44 #[.string s, .int .i32 r] w fun e w' => e = .returned (.int .i64 (-1)) ∧ w' = w := by
  have q3 : (r == 65533) = false := beq_false_of_ne hr2
  by_cases h : 0 ≤ r
  · have q2 : decide (r < 128) = false := by simp; omega
    go_enter Try.func44, Try.ntmps44
    go_wp2_with fail
    refine (validRune_any r _).mono ?_
    rintro e w1 ⟨rfl, hw1⟩
    have hw1 := hw1.symm
    subst hw1
    rw [hv]
    clear hv
    go_wp2_with fail
    go_ret
    exact ⟨rfl, rfl⟩
  · have q2 : decide (0 ≤ r) = false := by simp; omega
    go_enter Try.func44, Try.ntmps44
    go_wp2_with fail
    refine (validRune_any r _).mono ?_
    rintro e w1 ⟨rfl, hw1⟩
    have hw1 := hw1.symm
    subst hw1
    rw [hv]
    clear hv
    go_wp2_with fail
    go_ret
    exact ⟨rfl, rfl⟩

set_option maxHeartbeats 2000000 in
set_option maxRecDepth 1000000 in
theorem index_error (s : ByteArray) (w : World) (L : List Nat) (h0 : 0 ∈ L) (hL : ∀ p ∈ L, p < s.size → (Utf8.decode s p).1 ≠ 65533 ∧ p + (Utf8.decode s p).2 ∈ L) :
    Calls Try.prog 44 #[.string s, .int .i32 65533] w fun e w' => e = .returned (.int .i64 (-1)) ∧ Below w.heap.size w w' := by
  have HL : Hid (∀ p ∈ L, p < s.size → (Utf8.decode s p).1 ≠ 65533 ∧ p + (Utf8.decode s p).2 ∈ L) := hL
  have H0 : Hid (0 ∈ L) := h0
  clear hL h0
  go_enter Try.func44, Try.ntmps44
  go_wp2_with fail
  go_loopw [] (fun wr => ∃ (pos : Nat), Hid (pos ∈ L) ∧ wr.heap[w.heap.size]? = some (.stringIter s pos) ∧ Below w.heap.size w wr) (fun wr => s.size - wr.iterPos w.heap.size)
  case atStart =>
    refine ⟨0, H0, ?_, ?_⟩
    · exact World.iter_heap w s 0
    · exact (Below.refl _ w).alloc (Nat.le_refl _) _
  case round =>
    obtain ⟨pos, HP, hit, hbw⟩ := hrel
    by_cases hp : pos < s.size
    · have hnx : ∀ ty, (Instr.next (.pointer (some ⟨w.heap.size, 0, none⟩)) true ty).run Try.prog wr = _ := fun ty => Lib.run_next_any_at wr w.heap.size s pos ty hit hp
      have hwd := dec_pos s pos hp
      have hit2 := Lib.iterAt_heap wr w.heap.size s pos (pos + (Utf8.decode s pos).2) hit
      have hbw2 := Lib.below_iterAt hbw (k := w.heap.size) (by omega) s (pos + (Utf8.decode s pos).2)
      have hc := HL.out pos HP.out hp
      have b1 : (((Utf8.decode s pos).1 : Int) == 65533) = false := by simp; have := hc.1; omega
      have HC : Hid (pos + (Utf8.decode s pos).2 ∈ L) := hc.2
      have HI0 : Hid (wr.heap[w.heap.size]? = some (.stringIter s pos)) := hit
      clear hit hbw hc
      generalize wr.iterAt w.heap.size s (pos + (Utf8.decode s pos).2) = W1 at *
      have HI2 : Hid (W1.heap[w.heap.size]? = some (.stringIter s (pos + (Utf8.decode s pos).2))) := hit2
      clear hit2
      go_wp2_with fail
      refine ⟨⟨pos + (Utf8.decode s pos).2, HC, HI2.out, hbw2⟩, ?_⟩
      simp only [World.iterPos, HI2.out, HI0.out]
      omega
    · have hnx : ∀ ty, (Instr.next (.pointer (some ⟨w.heap.size, 0, none⟩)) true ty).run Try.prog wr = _ := fun ty => Lib.run_next_end_at wr w.heap.size s pos ty hit hp
      clear hit
      go_wp2_with fail
      go_ret
      exact ⟨rfl, hbw⟩

set_option maxHeartbeats 400000 in
theorem contains_of (s : ByteArray) (r : Int) (w : World) (b : Bool) (h : Calls Try.prog 44 #[.string s, .int .i32 r] w fun e w' => (∃ v : Int, e = .returned (.int .i64 v) ∧ decide (0 ≤ v) = b) ∧ Below w.heap.size w w') :
    Calls Try.prog 37 #[.string s, .int .i32 r] w fun e w' => e = .returned (.bool b) ∧ Below w.heap.size w w' := by
  go_enter Try.func37, Try.ntmps37
  go_wp2_with fail
  refine h.mono ?_
  rintro e w' ⟨⟨v, rfl, hv⟩, hb⟩
  go_wp2_with fail
  go_ret
  exact ⟨by rw [← hv]; rfl, hb⟩

theorem rn_u8 (n : Nat) (h : n < 256) : (UInt8.ofNat n).toNat = n := by simp; omega
theorem rn_enc2 (n : Nat) (h0 : 128 ≤ n) (h1 : n < 2048) : Utf8.encode (n : Int) = ⟨#[UInt8.ofNat (192 + n / 64), UInt8.ofNat (128 + n % 64)]⟩ := by
  have hv : Utf8.valid (n : Int) = true := by rw [validRune_eq, validRune, decide_eq_true]; left; omega
  have g1 : ¬ n < 128 := by omega
  unfold Utf8.encode
  simp only [hv, if_true, Int.toNat_natCast, g1, h1, if_false]
theorem rn_enc3 (n : Nat) (h0 : 2048 ≤ n) (h1 : n < 65536) (hv : Utf8.valid (n : Int) = true) : Utf8.encode (n : Int) = ⟨#[UInt8.ofNat (224 + n / 4096), UInt8.ofNat (128 + n / 64 % 64), UInt8.ofNat (128 + n % 64)]⟩ := by
  have g1 : ¬ n < 128 := by omega
  have g2 : ¬ n < 2048 := by omega
  unfold Utf8.encode
  simp only [hv, if_true, Int.toNat_natCast, g1, g2, h1, if_false]
theorem rn_enc4 (n : Nat) (h0 : 65536 ≤ n) (hv : Utf8.valid (n : Int) = true) : Utf8.encode (n : Int) = ⟨#[UInt8.ofNat (240 + n / 262144), UInt8.ofNat (128 + n / 4096 % 64), UInt8.ofNat (128 + n / 64 % 64), UInt8.ofNat (128 + n % 64)]⟩ := by
  have g1 : ¬ n < 128 := by omega
  have g2 : ¬ n < 2048 := by omega
  have g3 : ¬ n < 65536 := by omega
  unfold Utf8.encode
  simp only [hv, if_true, Int.toNat_natCast, g1, g2, g3, if_false]

/-- What is to be looked up in a short text, byte by byte. -/
structure Looks (s : ByteArray) (f : Int → Bool) (L : List Nat) : Prop where
  size : s.size ≤ 8
  asc : ∀ n, n < 128 → decide (0 ≤ Lib.indexByte s.data.toList (UInt8.ofNat n)) = f n
  two : ∀ p, p < s.size → p + 2 ≤ s.size → 192 ≤ bt s p → 128 ≤ bt s (p + 1) → (bt s p - 192) * 64 + (bt s (p + 1) - 128) < 2048 → f (((bt s p - 192) * 64 + (bt s (p + 1) - 128) : Nat) : Int) = true
  three : ∀ p, p < s.size → p + 3 ≤ s.size → 224 ≤ bt s p → 128 ≤ bt s (p + 1) → 128 ≤ bt s (p + 2) → f (((bt s p - 224) * 4096 + (bt s (p + 1) - 128) * 64 + (bt s (p + 2) - 128) : Nat) : Int) = true
  four : ∀ p, p < s.size → bt s p < 240
  back : ∀ r, 128 ≤ r → f r = true → Occ s (Utf8.encode r)
  bad : ∀ r, f r = true → r ≠ 65533 ∧ Lib.validRune r = true
  no3 : ∀ c, c < s.size → ∀ b, b < c → ∀ a, a < b → ¬ (bt s a = bt s b ∧ bt s b = bt s c ∧ bt s a < 192)
  in0 : 0 ∈ L
  inL : ∀ p ∈ L, p < s.size → (Utf8.decode s p).1 ≠ 65533 ∧ p + (Utf8.decode s p).2 ∈ L

theorem Looks.occ {s : ByteArray} {f : Int → Bool} {L : List Nat} (h : Looks s f L) (n : Nat) (h0 : 128 ≤ n) (hv : Utf8.valid (n : Int) = true) (hn : n < 1114112) : Occ s (Utf8.encode (n : Int)) ↔ f (n : Int) = true := by
  constructor
  · rintro ⟨p, hp, hall⟩
    by_cases h2 : n < 2048
    · rw [rn_enc2 n h0 h2] at hp hall
      have hp : p + 2 ≤ s.size := hp
      have e0 : bt s (p + 0) = 192 + n / 64 := (hall 0 (by show 0 < 2; decide)).trans (rn_u8 _ (by omega))
      have e1 : bt s (p + 1) = 128 + n % 64 := (hall 1 (by show 1 < 2; decide)).trans (rn_u8 _ (by omega))
      rw [Nat.add_zero] at e0
      have e : (bt s p - 192) * 64 + (bt s (p + 1) - 128) = n := by omega
      have := h.two p (by omega) hp (by omega) (by omega) (by omega)
      rw [e] at this; exact this
    · by_cases h3 : n < 65536
      · rw [rn_enc3 n (by omega) h3 hv] at hp hall
        have hp : p + 3 ≤ s.size := hp
        have e0 : bt s (p + 0) = 224 + n / 4096 := (hall 0 (by show 0 < 3; decide)).trans (rn_u8 _ (by omega))
        have e1 : bt s (p + 1) = 128 + n / 64 % 64 := (hall 1 (by show 1 < 3; decide)).trans (rn_u8 _ (by omega))
        have e2 : bt s (p + 2) = 128 + n % 64 := (hall 2 (by show 2 < 3; decide)).trans (rn_u8 _ (by omega))
        rw [Nat.add_zero] at e0
        have e : (bt s p - 224) * 4096 + (bt s (p + 1) - 128) * 64 + (bt s (p + 2) - 128) = n := by omega
        have := h.three p (by omega) hp (by omega) (by omega) (by omega)
        rw [e] at this; exact this
      · rw [rn_enc4 n (by omega) hv] at hp hall
        have hp : p + 4 ≤ s.size := hp
        have e0 : bt s (p + 0) = 240 + n / 262144 := (hall 0 (by show 0 < 4; decide)).trans (rn_u8 _ (by omega))
        have := h.four p (by omega)
        rw [Nat.add_zero] at e0
        omega
  · exact h.back n (by omega)

theorem rn_last (n : Nat) (h0 : 128 ≤ n) (hn : n < 1114112) (hv : Utf8.valid (n : Int) = true) : ∃ m, 1 ≤ m ∧ m ≤ 3 ∧ (Utf8.encode (n : Int)).size = m + 1 ∧ bt (Utf8.encode (n : Int)) m < 192 := by
  by_cases h2 : n < 2048
  · rw [rn_enc2 n h0 h2]
    refine ⟨1, by omega, by omega, rfl, ?_⟩
    have : bt ⟨#[UInt8.ofNat (192 + n / 64), UInt8.ofNat (128 + n % 64)]⟩ 1 = 128 + n % 64 := rn_u8 _ (by omega)
    omega
  · by_cases h3 : n < 65536
    · rw [rn_enc3 n (by omega) h3 hv]
      refine ⟨2, by omega, by omega, rfl, ?_⟩
      have : bt ⟨#[UInt8.ofNat (224 + n / 4096), UInt8.ofNat (128 + n / 64 % 64), UInt8.ofNat (128 + n % 64)]⟩ 2 = 128 + n % 64 := rn_u8 _ (by omega)
      omega
    · rw [rn_enc4 n (by omega) hv]
      refine ⟨3, by omega, by omega, rfl, ?_⟩
      have : bt ⟨#[UInt8.ofNat (240 + n / 262144), UInt8.ofNat (128 + n / 4096 % 64), UInt8.ofNat (128 + n / 64 % 64), UInt8.ofNat (128 + n % 64)]⟩ 3 = 128 + n % 64 := rn_u8 _ (by omega)
      omega

theorem Looks.contains {s : ByteArray} {f : Int → Bool} {L : List Nat} (h : Looks s f L) (r : Int) (w : World) (h0 : -1 ≤ r) (h1 : r ≤ 1114111) :
    Calls Try.prog 37 #[.string s, .int .i32 r] w fun e w' => e = .returned (.bool (f r)) ∧ Below w.heap.size w w' := by
  by_cases ha : 0 ≤ r ∧ r < 128
  · obtain ⟨n, rfl⟩ : ∃ n : Nat, r = n := ⟨r.toNat, by omega⟩
    refine (contains_ascii s n w (by omega) (by omega)).mono ?_
    rintro e w' ⟨rfl, rfl⟩
    refine ⟨?_, Below.refl _ _⟩
    rw [arg_u8, h.asc n (by omega)]
  · apply contains_of
    by_cases he : r = 65533
    · subst he
      have hf : f 65533 = false := by
        cases hb : f 65533 with
        | false => rfl
        | true => exact absurd rfl (h.bad _ hb).1
      refine (index_error s w L h.in0 h.inL).mono ?_
      rintro e w' ⟨rfl, hb⟩
      exact ⟨⟨-1, rfl, by rw [hf]; rfl⟩, hb⟩
    · cases hv : Lib.validRune r with
      | false =>
        have hf : f r = false := by
          cases hb : f r with
          | false => rfl
          | true => exact absurd (h.bad _ hb).2 (by rw [hv]; decide)
        refine (index_none s r w (by omega) he hv).mono ?_
        rintro e w' ⟨rfl, rfl⟩
        exact ⟨⟨-1, rfl, by rw [hf]; rfl⟩, Below.refl _ _⟩
      | true =>
        have hr : 128 ≤ r := by
          have := hv
          unfold Lib.validRune at this
          rw [decide_eq_true_eq] at this
          omega
        obtain ⟨n, rfl⟩ : ∃ n : Nat, r = n := ⟨r.toNat, by omega⟩
        have hv' : Utf8.valid (n : Int) = true := by rw [validRune_eq]; exact hv
        obtain ⟨m, m1, m2, m3, m4⟩ := rn_last n (by omega) (by omega) hv'
        refine (index_rune s _ n w m h.size rfl m1 m2 m3 hr he hv ?_).mono ?_
        · intro a b c hab hbc hcs q1 q2 q3
          exact h.no3 c hcs b hbc a hab ⟨by omega, by omega, by omega⟩
        · rintro e w' ⟨⟨v, rfl, hiff⟩, k, rfl⟩
          refine ⟨⟨v, rfl, ?_⟩, ⟨rfl, rfl, rfl, Nat.le_refl _, fun _ _ => rfl⟩⟩
          rw [Bool.eq_iff_iff, decide_eq_true_iff, hiff]
          exact h.occ n (by omega) hv' (by omega)

theorem looks_frac : Looks ⟨#[194, 189, 194, 188, 194, 190]⟩ isFrac [0, 2, 4, 6] where
  size := by decide
  asc := by decide +kernel
  two := by decide +kernel
  three := by decide +kernel
  four := by decide +kernel
  back := by
    intro r h0 hf
    have : r = 189 ∨ r = 188 ∨ r = 190 := by simpa [isFrac, or_assoc] using hf
    rcases this with rfl | rfl | rfl
    · exact ⟨0, by decide +kernel, by decide +kernel⟩
    · exact ⟨2, by decide +kernel, by decide +kernel⟩
    · exact ⟨4, by decide +kernel, by decide +kernel⟩
  bad := by
    intro r hf
    have : r = 189 ∨ r = 188 ∨ r = 190 := by simpa [isFrac, or_assoc] using hf
    rcases this with rfl | rfl | rfl <;> decide
  no3 := by decide +kernel
  in0 := by decide
  inL := by decide +kernel
theorem looks_mark : Looks ⟨#[194, 178, 226, 128, 178]⟩ isMk [0, 2, 5] where
  size := by decide
  asc := by decide +kernel
  two := by decide +kernel
  three := by decide +kernel
  four := by decide +kernel
  back := by
    intro r h0 hf
    have : r = 178 ∨ r = 8242 := by simpa [isMk] using hf
    rcases this with rfl | rfl
    · exact ⟨0, by decide +kernel, by decide +kernel⟩
    · exact ⟨2, by decide +kernel, by decide +kernel⟩
  bad := by
    intro r hf
    have : r = 178 ∨ r = 8242 := by simpa [isMk] using hf
    rcases this with rfl | rfl <;> decide
  no3 := by decide +kernel
  in0 := by decide
  inL := by decide +kernel
theorem looks_sum : Looks ⟨#[43, 226, 136, 146]⟩ (inRow 0) [0, 1, 4] where
  size := by decide
  asc := by decide +kernel
  two := by decide +kernel
  three := by decide +kernel
  four := by decide +kernel
  back := by
    intro r h0 hf
    have : r = 43 ∨ r = 8722 := by simpa [inRow] using hf
    rcases this with rfl | rfl
    · omega
    · exact ⟨1, by decide +kernel, by decide +kernel⟩
  bad := by
    intro r hf
    have : r = 43 ∨ r = 8722 := by simpa [inRow] using hf
    rcases this with rfl | rfl <;> decide
  no3 := by decide +kernel
  in0 := by decide
  inL := by decide +kernel
theorem looks_prod : Looks ⟨#[195, 151, 195, 183]⟩ (inRow 1) [0, 2, 4] where
  size := by decide
  asc := by decide +kernel
  two := by decide +kernel
  three := by decide +kernel
  four := by decide +kernel
  back := by
    intro r h0 hf
    have : r = 215 ∨ r = 247 := by simpa [inRow] using hf
    rcases this with rfl | rfl
    · exact ⟨0, by decide +kernel, by decide +kernel⟩
    · exact ⟨2, by decide +kernel, by decide +kernel⟩
  bad := by
    intro r hf
    have : r = 215 ∨ r = 247 := by simpa [inRow] using hf
    rcases this with rfl | rfl <;> decide
  no3 := by decide +kernel
  in0 := by decide
  inL := by decide +kernel
end Go.Proofs.Ytodabmkcihafhaa
