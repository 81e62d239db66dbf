import Derived.Test.YtodabmkcihafhaaGreatDoorK1
import Derived.Test.YtodabmkcihafhaaGreatDoorK0

/- strings.ContainsRune at every rune, in four texts of the program. -/
namespace Go.Proofs.YtodabmkcihafhaaGreatDoor
open Go.RowKit
set_option linter.unusedVariables false

set_option maxHeartbeats 2000000 in
set_option maxRecDepth 1000000 in
theorem index_none (s : ByteArray) (r : Int) (w : World) (h1 : r < 0 ∨ 128 ≤ r) (hr2 : r ≠ 65533) (hv : Lib.validRune r = false) :
    Calls Tryz.prog 152 #[.string s, .int .i32 r] w fun e w' => e = .returned (.int .i64 (-1)) ∧ w' = w := by
  have q3 : (r == 65533) = false := beq_false_of_ne hr2
  by_cases h : 0 ≤ r
  · have q2 : decide (r < 128) = false := by simp; omega
    go_enter Tryz.func152, Tryz.ntmps152
    go_wp2_with fail
    refine (validRune_any r _).mono ?_
    rintro e w1 ⟨rfl, hw1⟩
    have hw1 := hw1.symm
    subst hw1
    rw [hv]
    clear hv
    go_wp2_with fail
    go_ret
    exact ⟨rfl, rfl⟩
  · have q2 : decide (0 ≤ r) = false := by simp; omega
    go_enter Tryz.func152, Tryz.ntmps152
    go_wp2_with fail
    refine (validRune_any r _).mono ?_
    rintro e w1 ⟨rfl, hw1⟩
    have hw1 := hw1.symm
    subst hw1
    rw [hv]
    clear hv
    go_wp2_with fail
    go_ret
    exact ⟨rfl, rfl⟩

set_option maxHeartbeats 2000000 in
set_option maxRecDepth 1000000 in
theorem index_error (s : ByteArray) (w : World) (L : List Nat) (h0 : 0 ∈ L) (hL : ∀ p ∈ L, p < s.size → (Utf8.decode s p).1 ≠ 65533 ∧ p + (Utf8.decode s p).2 ∈ L) :
    Calls Tryz.prog 152 #[.string s, .int .i32 65533] w fun e w' => e = .returned (.int .i64 (-1)) ∧ Below w.heap.size w w' := by
  have HL : Hid (∀ p ∈ L, p < s.size → (Utf8.decode s p).1 ≠ 65533 ∧ p + (Utf8.decode s p).2 ∈ L) := hL
  have H0 : Hid (0 ∈ L) := h0
  clear hL h0
  go_enter Tryz.func152, Tryz.ntmps152
  go_wp2_with fail
  go_loopw [] (fun wr => ∃ (pos : Nat), Hid (pos ∈ L) ∧ wr.heap[w.heap.size]? = some (.stringIter s pos) ∧ Below w.heap.size w wr) (fun wr => s.size - wr.iterPos w.heap.size)
  case atStart =>
    refine ⟨0, H0, ?_, ?_⟩
    · exact World.iter_heap w s 0
    · exact (Below.refl _ w).alloc (Nat.le_refl _) _
  case round =>
    obtain ⟨pos, HP, hit, hbw⟩ := hrel
    by_cases hp : pos < s.size
    · have hnx : ∀ ty, (Instr.next (.pointer (some ⟨w.heap.size, 0, none⟩)) true ty).run Tryz.prog wr = _ := fun ty => Lib.run_next_any_at wr w.heap.size s pos ty hit hp
      have hwd := dec_pos s pos hp
      have hit2 := Lib.iterAt_heap wr w.heap.size s pos (pos + (Utf8.decode s pos).2) hit
      have hbw2 := Lib.below_iterAt hbw (k := w.heap.size) (by omega) s (pos + (Utf8.decode s pos).2)
      have hc := HL.out pos HP.out hp
      have b1 : (((Utf8.decode s pos).1 : Int) == 65533) = false := by simp; have := hc.1; omega
      have HC : Hid (pos + (Utf8.decode s pos).2 ∈ L) := hc.2
      have HI0 : Hid (wr.heap[w.heap.size]? = some (.stringIter s pos)) := hit
      clear hit hbw hc
      generalize wr.iterAt w.heap.size s (pos + (Utf8.decode s pos).2) = W1 at *
      have HI2 : Hid (W1.heap[w.heap.size]? = some (.stringIter s (pos + (Utf8.decode s pos).2))) := hit2
      clear hit2
      go_wp2_with fail
      refine ⟨⟨pos + (Utf8.decode s pos).2, HC, HI2.out, hbw2⟩, ?_⟩
      simp only [World.iterPos, HI2.out, HI0.out]
      omega
    · have hnx : ∀ ty, (Instr.next (.pointer (some ⟨w.heap.size, 0, none⟩)) true ty).run Tryz.prog wr = _ := fun ty => Lib.run_next_end_at wr w.heap.size s pos ty hit hp
      clear hit
      go_wp2_with fail
      go_ret
      exact ⟨rfl, hbw⟩

set_option maxHeartbeats 400000 in
theorem contains_of (s : ByteArray) (r : Int) (w : World) (b : Bool) (h : Calls Tryz.prog 152 #[.string s, .int .i32 r] w fun e w' => (∃ v : Int, e = .returned (.int .i64 v) ∧ decide (0 ≤ v) = b) ∧ Below w.heap.size w w') :
    Calls Tryz.prog 141 #[.string s, .int .i32 r] w fun e w' => e = .returned (.bool b) ∧ Below w.heap.size w w' := by
  go_enter Tryz.func141, Tryz.ntmps141
  go_wp2_with fail
  refine h.mono ?_
  rintro e w' ⟨⟨v, rfl, hv⟩, hb⟩
  go_wp2_with fail
  go_ret
  exact ⟨by rw [← hv]; rfl, hb⟩

theorem rn_u8 (n : Nat) (h : n < 256) : (UInt8.ofNat n).toNat = n := by simp; omega
theorem rn_enc2 (n : Nat) (h0 : 128 ≤ n) (h1 : n < 2048) : Utf8.encode (n : Int) = ⟨#[UInt8.ofNat (192 + n / 64), UInt8.ofNat (128 + n % 64)]⟩ := by
  have hv : Utf8.valid (n : Int) = true := by rw [validRune_eq, validRune, decide_eq_true]; left; omega
  have g1 : ¬ n < 128 := by omega
  unfold Utf8.encode
  simp only [hv, if_true, Int.toNat_natCast, g1, h1, if_false]
theorem rn_enc3 (n : Nat) (h0 : 2048 ≤ n) (h1 : n < 65536) (hv : Utf8.valid (n : Int) = true) : Utf8.encode (n : Int) = ⟨#[UInt8.ofNat (224 + n / 4096), UInt8.ofNat (128 + n / 64 % 64), UInt8.ofNat (128 + n % 64)]⟩ := by
  have g1 : ¬ n < 128 := by omega
  have g2 : ¬ n < 2048 := by omega
  unfold Utf8.encode
  simp only [hv, if_true, Int.toNat_natCast, g1, g2, h1, if_false]
theorem rn_enc4 (n : Nat) (h0 : 65536 ≤ n) (hv : Utf8.valid (n : Int) = true) : Utf8.encode (n : Int) = ⟨#[UInt8.ofNat (240 + n / 262144), UInt8.ofNat (128 + n / 4096 % 64), UInt8.ofNat (128 + n / 64 % 64), UInt8.ofNat (128 + n % 64)]⟩ := by
  have g1 : ¬ n < 128 := by omega
  have g2 : ¬ n < 2048 := by omega
  have g3 : ¬ n < 65536 := by omega
  unfold Utf8.encode
  simp only [hv, if_true, Int.toNat_natCast, g1, g2, g3, if_false]

/-- What is to be looked up in a short text, byte by byte. -/
structure Looks (s : ByteArray) (f : Int → Bool) (L : List Nat) : Prop where
  size : s.size ≤ 8
  asc : ∀ n, n < 128 → decide (0 ≤ Lib.indexByte s.data.toList (UInt8.ofNat n)) = f n
  two : ∀ p, p < s.size → p + 2 ≤ s.size → 192 ≤ bt s p → 128 ≤ bt s (p + 1) → (bt s p - 192) * 64 + (bt s (p + 1) - 128) < 2048 → f (((bt s p - 192) * 64 + (bt s (p + 1) - 128) : Nat) : Int) = true
  three : ∀ p, p < s.size → p + 3 ≤ s.size → 224 ≤ bt s p → 128 ≤ bt s (p + 1) → 128 ≤ bt s (p + 2) → f (((bt s p - 224) * 4096 + (bt s (p + 1) - 128) * 64 + (bt s (p + 2) - 128) : Nat) : Int) = true
  four : ∀ p, p < s.size → bt s p < 240
  back : ∀ r, 128 ≤ r → f r = true → Occ s (Utf8.encode r)
  bad : ∀ r, f r = true → r ≠ 65533 ∧ Lib.validRune r = true
  no3 : ∀ c, c < s.size → ∀ b, b < c → ∀ a, a < b → ¬ (bt s a = bt s b ∧ bt s b = bt s c ∧ bt s a < 192)
  in0 : 0 ∈ L
  inL : ∀ p ∈ L, p < s.size → (Utf8.decode s p).1 ≠ 65533 ∧ p + (Utf8.decode s p).2 ∈ L

theorem Looks.occ {s : ByteArray} {f : Int → Bool} {L : List Nat} (h : Looks s f L) (n : Nat) (h0 : 128 ≤ n) (hv : Utf8.valid (n : Int) = true) (hn : n < 1114112) : Occ s (Utf8.encode (n : Int)) ↔ f (n : Int) = true := by
  constructor
  · rintro ⟨p, hp, hall⟩
    by_cases h2 : n < 2048
    · rw [rn_enc2 n h0 h2] at hp hall
      have hp : p + 2 ≤ s.size := hp
      have e0 : bt s (p + 0) = 192 + n / 64 := (hall 0 (by show 0 < 2; decide)).trans (rn_u8 _ (by omega))
      have e1 : bt s (p + 1) = 128 + n % 64 := (hall 1 (by show 1 < 2; decide)).trans (rn_u8 _ (by omega))
      rw [Nat.add_zero] at e0
      have e : (bt s p - 192) * 64 + (bt s (p + 1) - 128) = n := by omega
      have := h.two p (by omega) hp (by omega) (by omega) (by omega)
      rw [e] at this; exact this
    · by_cases h3 : n < 65536
      · rw [rn_enc3 n (by omega) h3 hv] at hp hall
        have hp : p + 3 ≤ s.size := hp
        have e0 : bt s (p + 0) = 224 + n / 4096 := (hall 0 (by show 0 < 3; decide)).trans (rn_u8 _ (by omega))
        have e1 : bt s (p + 1) = 128 + n / 64 % 64 := (hall 1 (by show 1 < 3; decide)).trans (rn_u8 _ (by omega))
        have e2 : bt s (p + 2) = 128 + n % 64 := (hall 2 (by show 2 < 3; decide)).trans (rn_u8 _ (by omega))
        rw [Nat.add_zero] at e0
        have e : (bt s p - 224) * 4096 + (bt s (p + 1) - 128) * 64 + (bt s (p + 2) - 128) = n := by omega
        have := h.three p (by omega) hp (by omega) (by omega) (by omega)
        rw [e] at this; exact this
      · rw [rn_enc4 n (by omega) hv] at hp hall
        have hp : p + 4 ≤ s.size := hp
        have e0 : bt s (p + 0) = 240 + n / 262144 := (hall 0 (by show 0 < 4; decide)).trans (rn_u8 _ (by omega))
        have := h.four p (by omega)
        rw [Nat.add_zero] at e0
        omega
  · exact h.back n (by omega)

theorem rn_last (n : Nat) (h0 : 128 ≤ n) (hn : n < 1114112) (hv : Utf8.valid (n : Int) = true) : ∃ m, 1 ≤ m ∧ m ≤ 3 ∧ (Utf8.encode (n : Int)).size = m + 1 ∧ bt (Utf8.encode (n : Int)) m < 192 := by
  by_cases h2 : n < 2048
  · rw [rn_enc2 n h0 h2]
    refine ⟨1, by omega, by omega, rfl, ?_⟩
    have : bt ⟨#[UInt8.ofNat (192 + n / 64), UInt8.ofNat (128 + n % 64)]⟩ 1 = 128 + n % 64 := rn_u8 _ (by omega)
    omega
  · by_cases h3 : n < 65536
    · rw [rn_enc3 n (by omega) h3 hv]
      refine ⟨2, by omega, by omega, rfl, ?_⟩
      have : bt ⟨#[UInt8.ofNat (224 + n / 4096), UInt8.ofNat (128 + n / 64 % 64), UInt8.ofNat (128 + n % 64)]⟩ 2 = 128 + n % 64 := rn_u8 _ (by omega)
      omega
    · rw [rn_enc4 n (by omega) hv]
      refine ⟨3, by omega, by omega, rfl, ?_⟩
      have : bt ⟨#[UInt8.ofNat (240 + n / 262144), UInt8.ofNat (128 + n / 4096 % 64), UInt8.ofNat (128 + n / 64 % 64), UInt8.ofNat (128 + n % 64)]⟩ 3 = 128 + n % 64 := rn_u8 _ (by omega)
      omega

theorem Looks.contains {s : ByteArray} {f : Int → Bool} {L : List Nat} (h : Looks s f L) (r : Int) (w : World) (h0 : -1 ≤ r) (h1 : r ≤ 1114111) :
    Calls Tryz.prog 141 #[.string s, .int .i32 r] w fun e w' => e = .returned (.bool (f r)) ∧ Below w.heap.size w w' := by
  by_cases ha : 0 ≤ r ∧ r < 128
  · obtain ⟨n, rfl⟩ : ∃ n : Nat, r = n := ⟨r.toNat, by omega⟩
    refine (contains_ascii s n w (by omega) (by omega)).mono ?_
    rintro e w' ⟨rfl, rfl⟩
    refine ⟨?_, Below.refl _ _⟩
    rw [arg_u8, h.asc n (by omega)]
  · apply contains_of
    by_cases he : r = 65533
    · subst he
      have hf : f 65533 = false := by
        cases hb : f 65533 with
        | false => rfl
        | true => exact absurd rfl (h.bad _ hb).1
      refine (index_error s w L h.in0 h.inL).mono ?_
      rintro e w' ⟨rfl, hb⟩
      exact ⟨⟨-1, rfl, by rw [hf]; rfl⟩, hb⟩
    · cases hv : Lib.validRune r with
      | false =>
        have hf : f r = false := by
          cases hb : f r with
          | false => rfl
          | true => exact absurd (h.bad _ hb).2 (by rw [hv]; decide)
        refine (index_none s r w (by omega) he hv).mono ?_
        rintro e w' ⟨rfl, rfl⟩
        exact ⟨⟨-1, rfl, by rw [hf]; rfl⟩, Below.refl _ _⟩
      | true =>
        have hr : 128 ≤ r := by
          have := hv
          unfold Lib.validRune at this
          rw [decide_eq_true_eq] at this
          omega
        obtain ⟨n, rfl⟩ : ∃ n : Nat, r = n := ⟨r.toNat, by omega⟩
        have hv' : Utf8.valid (n : Int) = true := by rw [validRune_eq]; exact hv
        obtain ⟨m, m1, m2, m3, m4⟩ := rn_last n (by omega) (by omega) hv'
        refine (index_rune s _ n w m h.size rfl m1 m2 m3 hr he hv ?_).mono ?_
        · intro a b c hab hbc hcs q1 q2 q3
          exact h.no3 c hcs b hbc a hab ⟨by omega, by omega, by omega⟩
        · rintro e w' ⟨⟨v, rfl, hiff⟩, k, rfl⟩
          refine ⟨⟨v, rfl, ?_⟩, ⟨rfl, rfl, rfl, Nat.le_refl _, fun _ _ => rfl⟩⟩
          rw [Bool.eq_iff_iff, decide_eq_true_iff, hiff]
          exact h.occ n (by omega) hv' (by omega)

theorem looks_frac : Looks ⟨#[194, 189, 194, 188, 194, 190]⟩ isFrac [0, 2, 4, 6] where
  size := by decide
  asc := by decide +kernel
  two := by decide +kernel
  three := by decide +kernel
  four := by decide +kernel
  back := by
    intro r h0 hf
    have : r = 189 ∨ r = 188 ∨ r = 190 := by simpa [isFrac, or_assoc] using hf
    rcases this with rfl | rfl | rfl
    · exact ⟨0, by decide +kernel, by decide +kernel⟩
    · exact ⟨2, by decide +kernel, by decide +kernel⟩
    · exact ⟨4, by decide +kernel, by decide +kernel⟩
  bad := by
    intro r hf
    have : r = 189 ∨ r = 188 ∨ r = 190 := by simpa [isFrac, or_assoc] using hf
    rcases this with rfl | rfl | rfl <;> decide
  no3 := by decide +kernel
  in0 := by decide
  inL := by decide +kernel
theorem looks_mark : Looks ⟨#[194, 178, 226, 128, 178]⟩ isMk [0, 2, 5] where
  size := by decide
  asc := by decide +kernel
  two := by decide +kernel
  three := by decide +kernel
  four := by decide +kernel
  back := by
    intro r h0 hf
    have : r = 178 ∨ r = 8242 := by simpa [isMk] using hf
    rcases this with rfl | rfl
    · exact ⟨0, by decide +kernel, by decide +kernel⟩
    · exact ⟨2, by decide +kernel, by decide +kernel⟩
  bad := by
    intro r hf
    have : r = 178 ∨ r = 8242 := by simpa [isMk] using hf
    rcases this with rfl | rfl <;> decide
  no3 := by decide +kernel
  in0 := by decide
  inL := by decide +kernel
theorem looks_sum : Looks ⟨#[43, 226, 136, 146]⟩ (inRow 0) [0, 1, 4] where
  size := by decide
  asc := by decide +kernel
  two := by decide +kernel
  three := by decide +kernel
  four := by decide +kernel
  back := by
    intro r h0 hf
    have : r = 43 ∨ r = 8722 := by simpa [inRow] using hf
    rcases this with rfl | rfl
    · omega
    · exact ⟨1, by decide +kernel, by decide +kernel⟩
  bad := by
    intro r hf
    have : r = 43 ∨ r = 8722 := by simpa [inRow] using hf
    rcases this with rfl | rfl <;> decide
  no3 := by decide +kernel
  in0 := by decide
  inL := by decide +kernel
theorem looks_prod : Looks ⟨#[195, 151, 195, 183]⟩ (inRow 1) [0, 2, 4] where
  size := by decide
  asc := by decide +kernel
  two := by decide +kernel
  three := by decide +kernel
  four := by decide +kernel
  back := by
    intro r h0 hf
    have : r = 215 ∨ r = 247 := by simpa [inRow] using hf
    rcases this with rfl | rfl
    · exact ⟨0, by decide +kernel, by decide +kernel⟩
    · exact ⟨2, by decide +kernel, by decide +kernel⟩
  bad := by
    intro r hf
    have : r = 215 ∨ r = 247 := by simpa [inRow] using hf
    rcases this with rfl | rfl <;> decide
  no3 := by decide +kernel
  in0 := by decide
  inL := by decide +kernel
end Go.Proofs.YtodabmkcihafhaaGreatDoor

/- Plain: signs written, and read again. -/
namespace Go.Proofs.YtodabmkcihafhaaGreatDoor

theorem bt_list (s : ByteArray) (i : Nat) (h : i < s.size) : bt s i = (s.data.toList[i]'(by simpa using h)).toNat := by
  rw [← bt_get s i h]
  rfl
theorem bt_right (a b : ByteArray) (i : Nat) (h : i < b.size) : bt (a ++ b) (a.size + i) = bt b i := by
  have h1 : a.size + i < (a ++ b).size := by rw [ByteArray.size_append]; omega
  rw [bt_list _ _ h1, bt_list _ _ h]
  congr 1
  have : (a ++ b).data.toList = a.data.toList ++ b.data.toList := by simp
  have h2 : a.data.toList.length = a.size := by simp
  simp [h2]
theorem bt_left (a b : ByteArray) (i : Nat) (h : i < a.size) : bt (a ++ b) i = bt a i := by
  have h1 : i < (a ++ b).size := by rw [ByteArray.size_append]; omega
  rw [bt_list _ _ h1, bt_list _ _ h]
  congr 1
  have : (a ++ b).data.toList = a.data.toList ++ b.data.toList := by simp
  have h2 : a.data.toList.length = a.size := by simp
  simp [h2, h]
theorem enc_one (n : Nat) (h : n < 128) : Utf8.encode (n : Int) = ⟨#[UInt8.ofNat n]⟩ := by
  have hv : Utf8.valid (n : Int) = true := by rw [validRune_eq, validRune, decide_eq_true]; left; omega
  unfold Utf8.encode
  simp only [hv, if_true, Int.toNat_natCast, h]
theorem dec_enc (pre post : ByteArray) (n : Nat) (hk : known n = true) : Utf8.decode (pre ++ Utf8.encode (n : Int) ++ post) pre.size = (n, (Utf8.encode (n : Int)).size) ∧ 1 ≤ (Utf8.encode (n : Int)).size := by
  have key : ∀ k, 1 ≤ k → pre.size < (pre ++ Utf8.encode (n : Int) ++ post).size → atP (pre ++ Utf8.encode (n : Int) ++ post) pre.size = (n, k) → Utf8.decode (pre ++ Utf8.encode (n : Int) ++ post) pre.size = (n, k) := by
    intro k hk1 hlt ha
    have := at_dec _ _ hlt
    rw [ha] at this
    split at this
    · exact this.symm
    · injection this with _ h2; omega
  have hb : ∀ i, i < (Utf8.encode (n : Int)).size → bt (pre ++ Utf8.encode (n : Int) ++ post) (pre.size + i) = bt (Utf8.encode (n : Int)) i := by
    intro i hi
    rw [bt_left _ _ _ (by rw [ByteArray.size_append]; omega), bt_right _ _ _ hi]
  have hsz : (pre ++ Utf8.encode (n : Int) ++ post).size = pre.size + (Utf8.encode (n : Int)).size + post.size := by
    rw [ByteArray.size_append, ByteArray.size_append]
  unfold known at hk
  simp only [Bool.or_eq_true, Bool.and_eq_true, decide_eq_true_eq] at hk
  by_cases h1 : n < 128
  · have e := enc_one n h1
    have es : (Utf8.encode (n : Int)).size = 1 := by rw [e]; rfl
    have b0 := hb 0 (by omega)
    rw [show bt (Utf8.encode (n : Int)) 0 = n by rw [e]; exact rn_u8 n (by omega), Nat.add_zero] at b0
    rw [es]
    refine ⟨key 1 (Nat.le_refl _) (by omega) ?_, Nat.le_refl _⟩
    unfold atP
    rw [if_neg (by omega), if_pos (by omega), b0]
  by_cases h2 : n < 2048
  · have e := rn_enc2 n (by omega) h2
    have es : (Utf8.encode (n : Int)).size = 2 := by rw [e]; rfl
    have b0 := hb 0 (by omega)
    have b1 := hb 1 (by omega)
    rw [show bt (Utf8.encode (n : Int)) 0 = 192 + n / 64 by rw [e]; exact rn_u8 _ (by omega), Nat.add_zero] at b0
    rw [show bt (Utf8.encode (n : Int)) 1 = 128 + n % 64 by rw [e]; exact rn_u8 _ (by omega)] at b1
    rw [es]
    refine ⟨key 2 (by decide) (by omega) ?_, by decide⟩
    unfold atP
    rw [if_neg (by omega), if_neg (by omega), if_pos (by omega), b0, b1]
    refine Prod.ext ?_ rfl
    show (192 + n / 64) % 32 * 64 + (128 + n % 64) % 64 = n
    omega
  · have hv : Utf8.valid (n : Int) = true := by rw [validRune_eq, validRune, decide_eq_true]; left; omega
    have e := rn_enc3 n (by omega) (by omega) hv
    have es : (Utf8.encode (n : Int)).size = 3 := by rw [e]; rfl
    have b0 := hb 0 (by omega)
    have b1 := hb 1 (by omega)
    have b2 := hb 2 (by omega)
    rw [show bt (Utf8.encode (n : Int)) 0 = 224 + n / 4096 by rw [e]; exact rn_u8 _ (by omega), Nat.add_zero] at b0
    rw [show bt (Utf8.encode (n : Int)) 1 = 128 + n / 64 % 64 by rw [e]; exact rn_u8 _ (by omega)] at b1
    rw [show bt (Utf8.encode (n : Int)) 2 = 128 + n % 64 by rw [e]; exact rn_u8 _ (by omega)] at b2
    rw [es]
    refine ⟨key 3 (by decide) (by omega) ?_, by decide⟩
    unfold atP
    rw [if_neg (by omega), if_neg (by omega), if_neg (by omega), if_pos (by omega), b1, b2]
    refine Prod.ext ?_ rfl
    show 8192 + (128 + n / 64 % 64) % 64 * 64 + (128 + n % 64) % 64 = n
    omega
theorem enc_wid (n : Nat) (hk : known n = true) : (Utf8.encode (n : Int)).size = if n < 128 then 1 else if n < 2048 then 2 else 3 := by
  unfold known at hk
  simp only [Bool.or_eq_true, Bool.and_eq_true, decide_eq_true_eq] at hk
  by_cases h1 : n < 128
  · rw [if_pos h1, enc_one n h1]; rfl
  · rw [if_neg h1]
    by_cases h2 : n < 2048
    · rw [if_pos h2, rn_enc2 n (by omega) h2]; rfl
    · have hv : Utf8.valid (n : Int) = true := by rw [validRune_eq, validRune, decide_eq_true]; left; omega
      rw [if_neg h2, rn_enc3 n (by omega) (by omega) hv]; rfl
theorem encAll_cons (c : Int) (l : List Int) : encAll (c :: l) = Utf8.encode c ++ encAll l := by
  have : ∀ (l : List Int) (a : ByteArray), l.foldl (fun acc c => acc ++ Utf8.encode c) a = a ++ encAll l := by
    intro l
    induction l with
    | nil => intro a; simp [encAll]
    | cons d r ih =>
      intro a
      rw [List.foldl_cons, ih]
      unfold encAll
      rw [List.foldl_cons, ih (ByteArray.empty ++ Utf8.encode d)]
      simp [ByteArray.append_assoc, encAll]
  show List.foldl _ _ (c :: l) = _
  rw [List.foldl_cons, this]
  simp
theorem encAll_append (l m : List Int) : encAll (l ++ m) = encAll l ++ encAll m := by
  induction l with
  | nil => simp [encAll]
  | cons c r ih => rw [List.cons_append, encAll_cons, encAll_cons, ih, ByteArray.append_assoc]
end Go.Proofs.YtodabmkcihafhaaGreatDoor

/- Plain: a text within a text: its signs, and how they are read there. -/
namespace Go.Proofs.YtodabmkcihafhaaGreatDoor
set_option linter.unusedVariables false

/-! ### Bytes -/
theorem mid_size (pre a post : ByteArray) : (pre ++ a ++ post).size = pre.size + a.size + post.size := by
  rw [ByteArray.size_append, ByteArray.size_append]
theorem bt_mid (pre a post : ByteArray) (i : Nat) (h : i < a.size) : bt (pre ++ a ++ post) (pre.size + i) = bt a i := by
  rw [bt_left _ _ _ (by rw [ByteArray.size_append]; omega), bt_right _ _ _ h]
theorem bt_post (pre a post : ByteArray) (h : 0 < post.size) : bt (pre ++ a ++ post) (pre.size + a.size) = bt post 0 := by
  have := bt_right (pre ++ a) post 0 h
  rw [ByteArray.size_append, Nat.add_zero] at this
  exact this
theorem dec_mid (pre a post : ByteArray) (hp : post.size = 0 ∨ bt post 0 < 128) (i : Nat) (h : i < a.size) : Utf8.decode (pre ++ a ++ post) (pre.size + i) = Utf8.decode a i := by
  have hs := mid_size pre a post
  have B : ∀ k, i + k < a.size → bt (pre ++ a ++ post) (pre.size + i + k) = bt a (i + k) := fun k hk => by
    rw [Nat.add_assoc]
    exact bt_mid pre a post _ hk
  have P : ∀ k, i + k = a.size → ((decide (pre.size + i + k < (pre ++ a ++ post).size)) && (bt (pre ++ a ++ post) (pre.size + i + k) / 64 == 2)) = false := fun k hk => by
    rw [Bool.eq_false_iff]
    intro hc
    simp only [Bool.and_eq_true, decide_eq_true_eq, beq_iff_eq] at hc
    have e : pre.size + i + k = pre.size + a.size := by omega
    rw [e] at hc
    rcases hp with hp | hp
    · omega
    · by_cases h0 : 0 < post.size
      · rw [bt_post pre a post h0] at hc
        omega
      · omega
  have Z : ∀ k, i + k = a.size → ((decide (i + k < a.size)) && (bt a (i + k) / 64 == 2)) = false := fun k hk => by
    rw [Bool.eq_false_iff]
    intro hc
    simp only [Bool.and_eq_true, decide_eq_true_eq] at hc
    omega
  have C : ∀ k, i + k < a.size → ((decide (pre.size + i + k < (pre ++ a ++ post).size)) && (bt (pre ++ a ++ post) (pre.size + i + k) / 64 == 2)) = ((decide (i + k < a.size)) && (bt a (i + k) / 64 == 2)) := fun k hk => by
    rw [B k hk, decide_eq_true (show pre.size + i + k < (pre ++ a ++ post).size by omega), decide_eq_true hk]
  have b0 : bt (pre ++ a ++ post) (pre.size + i + 0) = bt a (i + 0) := B 0 h
  have u : ∀ (s : ByteArray) (j : Nat), Utf8.decode s j = (
      if bt s (j + 0) < 0x80 then (bt s (j + 0), 1)
      else if bt s (j + 0) / 32 == 6 && (decide (j + 1 < s.size) && bt s (j + 1) / 64 == 2) then
        (if (bt s (j + 0) % 32) * 64 + bt s (j + 1) % 64 ≥ 0x80 then ((bt s (j + 0) % 32) * 64 + bt s (j + 1) % 64, 2) else (Utf8.runeError, 1))
      else if bt s (j + 0) / 16 == 14 && (decide (j + 1 < s.size) && bt s (j + 1) / 64 == 2) && (decide (j + 2 < s.size) && bt s (j + 2) / 64 == 2) then
        (if (bt s (j + 0) % 16) * 4096 + (bt s (j + 1) % 64) * 64 + bt s (j + 2) % 64 ≥ 0x800 && Utf8.valid ((bt s (j + 0) % 16) * 4096 + (bt s (j + 1) % 64) * 64 + bt s (j + 2) % 64 : Nat) then ((bt s (j + 0) % 16) * 4096 + (bt s (j + 1) % 64) * 64 + bt s (j + 2) % 64, 3) else (Utf8.runeError, 1))
      else if bt s (j + 0) / 8 == 30 && (decide (j + 1 < s.size) && bt s (j + 1) / 64 == 2) && (decide (j + 2 < s.size) && bt s (j + 2) / 64 == 2) && (decide (j + 3 < s.size) && bt s (j + 3) / 64 == 2) then
        (if (bt s (j + 0) % 8) * 262144 + (bt s (j + 1) % 64) * 4096 + (bt s (j + 2) % 64) * 64 + bt s (j + 3) % 64 ≥ 0x10000 && Utf8.valid ((bt s (j + 0) % 8) * 262144 + (bt s (j + 1) % 64) * 4096 + (bt s (j + 2) % 64) * 64 + bt s (j + 3) % 64 : Nat) then ((bt s (j + 0) % 8) * 262144 + (bt s (j + 1) % 64) * 4096 + (bt s (j + 2) % 64) * 64 + bt s (j + 3) % 64, 4) else (Utf8.runeError, 1))
      else (Utf8.runeError, 1)) := fun s j => rfl
  rw [u, u, b0]
  rcases Nat.lt_or_ge (i + 1) a.size with h1 | h1
  · rw [C 1 h1, B 1 h1]
    rcases Nat.lt_or_ge (i + 2) a.size with h2 | h2
    · rw [C 2 h2, B 2 h2]
      rcases Nat.lt_or_ge (i + 3) a.size with h3 | h3
      · rw [C 3 h3, B 3 h3]
      · rw [P 3 (by omega), Z 3 (by omega)]
        simp only [Bool.and_false, Bool.false_eq_true, if_false]
    · rw [P 2 (by omega), Z 2 (by omega)]
      simp only [Bool.and_false, Bool.false_and, Bool.false_eq_true, if_false]
  · rw [P 1 (by omega), Z 1 (by omega)]
    simp only [Bool.and_false, Bool.false_and, Bool.false_eq_true, if_false]

/-! ### Signs -/
/-- The signs of a text, within another: those behind it are 'more'. -/
inductive Sim (k : Nat) (more : List Tok) : List Tok → List Tok → Prop
  | stop (e : Tok) (h : e.c = -1) : Sim k more [e] more
  | cons (t : Tok) (h : 0 ≤ t.c) (r r' : List Tok) : Sim k more r r' → Sim k more (t :: r) (⟨t.c, t.p + k, t.a⟩ :: r')
/-- Whether a blank stands ahead of a text's end. -/
def endA (s : ByteArray) : Bool := match (toks s 0 false).getLast? with | some t => t.a | none => false
theorem dec_step (a : ByteArray) (i : Nat) (h : i < a.size) : i + (Utf8.decode a i).2 ≤ a.size := by
  have u : ∀ (s : ByteArray) (j : Nat), Utf8.decode s j = (
      if bt s (j + 0) < 0x80 then (bt s (j + 0), 1)
      else if bt s (j + 0) / 32 == 6 && (decide (j + 1 < s.size) && bt s (j + 1) / 64 == 2) then
        (if (bt s (j + 0) % 32) * 64 + bt s (j + 1) % 64 ≥ 0x80 then ((bt s (j + 0) % 32) * 64 + bt s (j + 1) % 64, 2) else (Utf8.runeError, 1))
      else if bt s (j + 0) / 16 == 14 && (decide (j + 1 < s.size) && bt s (j + 1) / 64 == 2) && (decide (j + 2 < s.size) && bt s (j + 2) / 64 == 2) then
        (if (bt s (j + 0) % 16) * 4096 + (bt s (j + 1) % 64) * 64 + bt s (j + 2) % 64 ≥ 0x800 && Utf8.valid ((bt s (j + 0) % 16) * 4096 + (bt s (j + 1) % 64) * 64 + bt s (j + 2) % 64 : Nat) then ((bt s (j + 0) % 16) * 4096 + (bt s (j + 1) % 64) * 64 + bt s (j + 2) % 64, 3) else (Utf8.runeError, 1))
      else if bt s (j + 0) / 8 == 30 && (decide (j + 1 < s.size) && bt s (j + 1) / 64 == 2) && (decide (j + 2 < s.size) && bt s (j + 2) / 64 == 2) && (decide (j + 3 < s.size) && bt s (j + 3) / 64 == 2) then
        (if (bt s (j + 0) % 8) * 262144 + (bt s (j + 1) % 64) * 4096 + (bt s (j + 2) % 64) * 64 + bt s (j + 3) % 64 ≥ 0x10000 && Utf8.valid ((bt s (j + 0) % 8) * 262144 + (bt s (j + 1) % 64) * 4096 + (bt s (j + 2) % 64) * 64 + bt s (j + 3) % 64 : Nat) then ((bt s (j + 0) % 8) * 262144 + (bt s (j + 1) % 64) * 4096 + (bt s (j + 2) % 64) * 64 + bt s (j + 3) % 64, 4) else (Utf8.runeError, 1))
      else (Utf8.runeError, 1)) := fun s j => rfl
  rw [u]
  split
  · show i + 1 ≤ a.size; omega
  · split
    · rename_i h1
      simp only [Bool.and_eq_true, decide_eq_true_eq] at h1
      split
      · show i + 2 ≤ a.size; omega
      · show i + 1 ≤ a.size; omega
    · split
      · rename_i h1
        simp only [Bool.and_eq_true, decide_eq_true_eq] at h1
        split
        · show i + 3 ≤ a.size; omega
        · show i + 1 ≤ a.size; omega
      · split
        · rename_i h1
          simp only [Bool.and_eq_true, decide_eq_true_eq] at h1
          split
          · show i + 4 ≤ a.size; omega
          · show i + 1 ≤ a.size; omega
        · show i + 1 ≤ a.size; omega
theorem toks_ne (s : ByteArray) (i : Nat) (ap : Bool) : toks s i ap ≠ [] := by
  unfold toks
  generalize s.size - i = f
  induction f generalizing i ap with
  | zero => simp [toksF]
  | succ f ih =>
    simp only [toksF]
    split
    · split
      · exact ih _ _
      · simp
    · simp
theorem toks_mid (pre a post : ByteArray) (hp : 0 < post.size ∧ bt post 0 < 128) : ∀ (d i : Nat) (ap : Bool), a.size ≤ i + d → i ≤ a.size →
    ∃ b, ((toks a i ap).getLast?.map Tok.a = some b) ∧ Sim pre.size (toks (pre ++ a ++ post) (pre.size + a.size) b) (toks a i ap) (toks (pre ++ a ++ post) (pre.size + i) ap) := by
  intro d
  induction d with
  | zero =>
    intro i ap h1 h2
    have : i = a.size := by omega
    subst this
    rw [toks_end a a.size ap (Nat.le_refl _)]
    exact ⟨ap, rfl, Sim.stop _ rfl⟩
  | succ d ih =>
    intro i ap h1 h2
    by_cases h : i < a.size
    · have hsz := mid_size pre a post
      have hd := dec_mid pre a post (Or.inr hp.2) i h
      have st := dec_step a i h
      have ps := dec_pos a i h
      rw [toks_step a i ap h, toks_step (pre ++ a ++ post) (pre.size + i) ap (by omega), hd]
      by_cases hb : (Utf8.decode a i).1 = 32
      · rw [if_pos hb, if_pos hb, Nat.add_assoc]
        exact ih _ true (by omega) st
      · rw [if_neg hb, if_neg hb, Nat.add_assoc]
        obtain ⟨b, q1, q2⟩ := ih (i + (Utf8.decode a i).2) false (by omega) st
        refine ⟨b, ?_, ?_⟩
        · rw [List.getLast?_cons_of_ne_nil (toks_ne _ _ _)]
          exact q1
        · have := Sim.cons ⟨((Utf8.decode a i).1 : Int), i, ap⟩ (Int.natCast_nonneg _) _ _ q2
          rw [Nat.add_comm pre.size i]
          exact this
    · have : i = a.size := by omega
      subst this
      rw [toks_end a a.size ap (Nat.le_refl _)]
      exact ⟨ap, rfl, Sim.stop _ rfl⟩
end Go.Proofs.YtodabmkcihafhaaGreatDoor

/- Plain: the reading of signs within others; how much fuel it wants. -/
namespace Go.Proofs.YtodabmkcihafhaaGreatDoor
set_option linter.unusedVariables false

def Ex.shift (k : Nat) : Ex → Ex
  | .num l p => .num l (p + k)
  | .leaf c p => .leaf c (p + k)
  | .un c p e => .un c (p + k) (e.shift k)
  | .bin c p l r => .bin c (p + k) (l.shift k) (r.shift k)

/-- What ends an expression: nothing, or a bracket. -/
def Ends (more : List Tok) : Prop := hd more = 41 ∨ hd more = -1
theorem jn_cases (ts : List Tok) : jn ts = hd ts ∨ jn ts = -1 := by
  cases ts with
  | nil => exact Or.inl rfl
  | cons t r =>
    show (if t.a = true then -1 else t.c) = t.c ∨ (if t.a = true then -1 else t.c) = -1
    cases t.a with
    | true => exact Or.inr rfl
    | false => exact Or.inl rfl
/-! ### The reading's steps -/
theorem pt_0 (f : Nat) (e : Ex) (ts : List Tok) : pt (f + 1) 0 e ts = if (pt f 1 e ts).ok then pt f 4 (pt f 1 e ts).e (pt f 1 e ts).ts else pt f 1 e ts := rfl
theorem pt_1 (f : Nat) (e : Ex) (ts : List Tok) : pt (f + 1) 1 e ts = if (pt f 2 e ts).ok then pt f 5 (pt f 2 e ts).e (pt f 2 e ts).ts else pt f 2 e ts := rfl
theorem pt_2 (f : Nat) (e : Ex) (t : Tok) (r : List Tok) : pt (f + 1) 2 e (t :: r) = if t.c = 8722 then (if (pt f 2 e r).ok then ⟨true, .un 110 t.p (pt f 2 e r).e, (pt f 2 e r).ts⟩ else pt f 2 e r)
    else if (pt f 3 e (t :: r)).ok then pt f 6 (pt f 3 e (t :: r)).e (pt f 3 e (t :: r)).ts else pt f 3 e (t :: r) := rfl
theorem pt_3 (f : Nat) (e : Ex) (t : Tok) (r : List Tok) : pt (f + 1) 3 e (t :: r) = if (isDig t.c || isFrac t.c) = true then ⟨true, .num (numT (t :: r)).1 t.p, (numT (t :: r)).2⟩
    else if t.c = 105 ∨ isNm t.c = true then ⟨true, .leaf t.c t.p, r⟩
    else if t.c = 40 then (if (pt f 0 e r).ok then (if hd (pt f 0 e r).ts = 41 then ⟨true, (pt f 0 e r).e, (pt f 0 e r).ts.tail⟩ else ⟨false, e, (pt f 0 e r).ts⟩) else pt f 0 e r)
    else ⟨false, e, t :: r⟩ := rfl
theorem pt_4 (f : Nat) (e : Ex) (t : Tok) (r : List Tok) : pt (f + 1) 4 e (t :: r) = if inRow 0 t.c = true then (if (pt f 1 e r).ok then pt f 4 (.bin t.c t.p e (pt f 1 e r).e) (pt f 1 e r).ts else pt f 1 e r) else ⟨true, e, t :: r⟩ := rfl
theorem pt_5 (f : Nat) (e : Ex) (t : Tok) (r : List Tok) : pt (f + 1) 5 e (t :: r) = if inRow 1 t.c = true then (if (pt f 2 e r).ok then pt f 5 (.bin t.c t.p e (pt f 2 e r).e) (pt f 2 e r).ts else pt f 2 e r) else ⟨true, e, t :: r⟩ := rfl
theorem pt_6 (f n : Nat) (e : Ex) (t : Tok) (r : List Tok) : pt (f + 1) (n + 6) e (t :: r) = if isMk t.c = true then pt f 6 (.un t.c t.p e) r else ⟨true, e, t :: r⟩ := rfl

theorem Sim.digs {k : Nat} {more : List Tok} (hm : Ends more) : ∀ (n : Nat) (ts ts' : List Tok), Sim k more ts ts' → (digs n ts').1 = (digs n ts).1 ∧ Sim k more (digs n ts).2 (digs n ts').2 := by
  intro n
  induction n with
  | zero => intro ts ts' h; exact ⟨rfl, h⟩
  | succ n ih =>
    intro ts ts' h
    cases h with
    | stop e he =>
      have h1 : isDig (jn [e]) = false := by
        rcases jn_cases [e] with q | q <;> rw [q]
        · show isDig e.c = false; rw [he]; rfl
        · rfl
      have h2 : isDig (jn more) = false := by
        rcases jn_cases more with q | q <;> rw [q]
        · rcases hm with q | q <;> rw [q] <;> rfl
        · rfl
      simp only [Go.Proofs.YtodabmkcihafhaaGreatDoor.digs, h1, h2]
      exact ⟨rfl, Sim.stop e he⟩
    | cons t ht r r' hr =>
      have e1 : jn (⟨t.c, t.p + k, t.a⟩ :: r') = jn (t :: r) := rfl
      simp only [Go.Proofs.YtodabmkcihafhaaGreatDoor.digs, e1]
      cases isDig (jn (t :: r)) with
      | false => exact ⟨rfl, Sim.cons t ht r r' hr⟩
      | true =>
        obtain ⟨i1, i2⟩ := ih r r' hr
        refine ⟨?_, i2⟩
        show jn (t :: r) :: (Go.Proofs.YtodabmkcihafhaaGreatDoor.digs n r').1 = jn (t :: r) :: (Go.Proofs.YtodabmkcihafhaaGreatDoor.digs n r).1
        rw [i1]
theorem Sim.frac {k : Nat} {more : List Tok} (hm : Ends more) {ts ts' : List Tok} (h : Sim k more ts ts') : (fracT ts').1 = (fracT ts).1 ∧ Sim k more (fracT ts).2 (fracT ts').2 := by
  cases h with
  | stop e he =>
    have h1 : isFrac (jn [e]) = false := by
      rcases jn_cases [e] with q | q <;> rw [q]
      · show isFrac e.c = false; rw [he]; rfl
      · rfl
    have h2 : isFrac (jn more) = false := by
      rcases jn_cases more with q | q <;> rw [q]
      · rcases hm with q | q <;> rw [q] <;> rfl
      · rfl
    simp only [fracT, h1, h2]
    exact ⟨rfl, Sim.stop e he⟩
  | cons t ht r r' hr =>
    have e1 : jn (⟨t.c, t.p + k, t.a⟩ :: r') = jn (t :: r) := rfl
    simp only [fracT, e1]
    cases isFrac (jn (t :: r)) with
    | false => exact ⟨rfl, Sim.cons t ht r r' hr⟩
    | true => exact ⟨rfl, hr⟩
theorem Sim.numT {k : Nat} {more : List Tok} (hm : Ends more) (t : Tok) (ht : 0 ≤ t.c) (r r' : List Tok) (hr : Sim k more r r') :
    (numT (⟨t.c, t.p + k, t.a⟩ :: r')).1 = (numT (t :: r)).1 ∧ Sim k more (numT (t :: r)).2 (numT (⟨t.c, t.p + k, t.a⟩ :: r')).2 := by
  have e1 : hd (⟨t.c, t.p + k, t.a⟩ :: r') = t.c := rfl
  have e2 : hd (t :: r) = t.c := rfl
  unfold Go.Proofs.YtodabmkcihafhaaGreatDoor.numT
  rw [e1, e2]
  by_cases hf : isFrac t.c = true
  · rw [if_pos hf, if_pos hf]
    exact ⟨rfl, hr⟩
  · rw [if_neg hf, if_neg hf]
    by_cases h0 : t.c = 48
    · simp only [h0, if_true]
      obtain ⟨i1, i2⟩ := Sim.frac hm hr
      refine ⟨?_, i2⟩
      show (48 :: []) ++ (fracT r').1 = (48 :: []) ++ (fracT r).1
      rw [i1]
    · simp only [h0, if_false]
      obtain ⟨d1, d2⟩ := Sim.digs hm 2 r r' hr
      obtain ⟨i1, i2⟩ := Sim.frac hm d2
      refine ⟨?_, i2⟩
      show (t.c :: (Go.Proofs.YtodabmkcihafhaaGreatDoor.digs 2 r').1) ++ (fracT (Go.Proofs.YtodabmkcihafhaaGreatDoor.digs 2 r').2).1 = (t.c :: (Go.Proofs.YtodabmkcihafhaaGreatDoor.digs 2 r).1) ++ (fracT (Go.Proofs.YtodabmkcihafhaaGreatDoor.digs 2 r).2).1
      rw [i1, d1]

structure SimR (k : Nat) (more : List Tok) (A B : RT) : Prop where
  ok : B.ok = true
  e : B.e = A.e.shift k
  ts : Sim k more A.ts B.ts
theorem pt_sim (k : Nat) (more : List Tok) (hm : Ends more) : ∀ (f tag : Nat) (e e' : Ex) (ts ts' : List Tok), Sim k more ts ts' → (4 ≤ tag → e' = e.shift k) → (pt f tag e ts).ok = true → SimR k more (pt f tag e ts) (pt f tag e' ts') := by
  have m1 : ∀ l, inRow l (hd more) = false := fun l => by
    unfold inRow
    rcases hm with q | q <;> rw [q] <;> split <;> rfl
  have m2 : isMk (hd more) = false := by rcases hm with q | q <;> rw [q] <;> rfl
  intro f
  induction f with
  | zero => intro tag e e' ts ts' _ _ h; simp [pt] at h
  | succ f ih =>
    intro tag e e' ts ts' hs he h
    match tag, he, h with
    | 0, he, h =>
      simp only [pt] at h ⊢
      by_cases ha : (pt f 1 e ts).ok = true
      · rw [if_pos ha] at h ⊢
        have i := ih 1 e e' ts ts' hs (fun h => by omega) ha
        rw [if_pos i.ok]
        exact ih 4 _ _ _ _ i.ts (fun _ => i.e) h
      · rw [if_neg ha] at h; exact absurd h ha
    | 1, he, h =>
      simp only [pt] at h ⊢
      by_cases ha : (pt f 2 e ts).ok = true
      · rw [if_pos ha] at h ⊢
        have i := ih 2 e e' ts ts' hs (fun h => by omega) ha
        rw [if_pos i.ok]
        exact ih 5 _ _ _ _ i.ts (fun _ => i.e) h
      · rw [if_neg ha] at h; exact absurd h ha
    | 2, he, h =>
      cases hs with
      | stop t ht =>
        simp only [pt] at h
        have e1 : hd [t] = -1 := ht
        rw [if_neg (by rw [e1]; decide)] at h
        by_cases ha : (pt f 3 e [t]).ok = true
        · exfalso
          cases f with
          | zero => simp [pt] at ha
          | succ f => simp [pt, e1, isDig, isFrac, isNm] at ha
        · rw [if_neg ha] at h; exact absurd h ha
      | cons t ht r r' hr =>
        rw [pt_2] at h
        rw [pt_2, pt_2]
        by_cases hc : t.c = 8722
        · rw [if_pos hc] at h
          rw [if_pos hc, if_pos hc]
          by_cases ha : (pt f 2 e r).ok = true
          · have i := ih 2 e e' r r' hr (fun h => by omega) ha
            rw [if_pos ha, if_pos i.ok]
            refine ⟨rfl, ?_, i.ts⟩
            show Ex.un 110 (t.p + k) _ = Ex.un 110 (t.p + k) _
            rw [i.e]
          · rw [if_neg ha] at h; exact absurd h ha
        · rw [if_neg hc] at h
          rw [if_neg hc, if_neg hc]
          by_cases ha : (pt f 3 e (t :: r)).ok = true
          · have i := ih 3 e e' _ _ (Sim.cons t ht r r' hr) (fun h => by omega) ha
            rw [if_pos ha] at h
            rw [if_pos ha, if_pos i.ok]
            exact ih 6 _ _ _ _ i.ts (fun _ => i.e) h
          · rw [if_neg ha] at h; exact absurd h ha
    | 3, he, h =>
      cases hs with
      | stop t ht =>
        have e1 : hd [t] = -1 := ht
        simp [pt, e1, isDig, isFrac, isNm] at h
      | cons t ht r r' hr =>
        rw [pt_3] at h
        rw [pt_3, pt_3]
        by_cases hn : (isDig t.c || isFrac t.c) = true
        · rw [if_pos hn, if_pos hn]
          obtain ⟨n1, n2⟩ := Sim.numT hm t ht r r' hr
          refine ⟨rfl, ?_, n2⟩
          show Ex.num _ (t.p + k) = Ex.num _ (t.p + k)
          rw [n1]
        · rw [if_neg hn] at h
          rw [if_neg hn, if_neg hn]
          by_cases hl : t.c = 105 ∨ isNm t.c = true
          · rw [if_pos hl, if_pos hl]
            exact ⟨rfl, rfl, hr⟩
          · rw [if_neg hl] at h
            rw [if_neg hl, if_neg hl]
            by_cases hp : t.c = 40
            · rw [if_pos hp] at h
              rw [if_pos hp, if_pos hp]
              by_cases ha : (pt f 0 e r).ok = true
              · have i := ih 0 e e' r r' hr (fun h => by omega) ha
                rw [if_pos ha] at h
                rw [if_pos ha, if_pos i.ok]
                by_cases hq : hd (pt f 0 e r).ts = 41
                · rw [if_pos hq]
                  have it := i.ts
                  generalize (pt f 0 e r).ts = us at *
                  generalize (pt f 0 e' r').ts = us' at *
                  cases it with
                  | stop t2 ht2 =>
                    exfalso
                    have : t2.c = 41 := hq
                    omega
                  | cons t2 ht2 r2 r2' hr2 =>
                    have : hd (⟨t2.c, t2.p + k, t2.a⟩ :: r2') = 41 := hq
                    rw [if_pos this]
                    exact ⟨rfl, i.e, hr2⟩
                · rw [if_neg hq] at h; simp at h
              · rw [if_neg ha] at h; exact absurd h ha
            · rw [if_neg hp] at h; simp at h
    | 4, he, h =>
      have he' := he (by omega)
      subst he'
      cases hs with
      | stop t ht =>
        have e1 : hd [t] = -1 := ht
        simp only [pt, e1, m1]
        exact ⟨rfl, rfl, Sim.stop t ht⟩
      | cons t ht r r' hr =>
        rw [pt_4] at h
        rw [pt_4, pt_4]
        by_cases hi : inRow 0 t.c = true
        · rw [if_pos hi] at h
          rw [if_pos hi, if_pos hi]
          by_cases ha : (pt f 1 e r).ok = true
          · have i := ih 1 e (e.shift k) r r' hr (fun h => by omega) ha
            rw [if_pos ha] at h
            rw [if_pos ha, if_pos i.ok]
            refine ih 4 _ _ _ _ i.ts (fun _ => ?_) h
            show Ex.bin _ (t.p + k) _ _ = Ex.bin _ (t.p + k) _ _
            rw [i.e]
          · rw [if_neg ha] at h; exact absurd h ha
        · rw [if_neg hi, if_neg hi]
          exact ⟨rfl, rfl, Sim.cons t ht r r' hr⟩
    | 5, he, h =>
      have he' := he (by omega)
      subst he'
      cases hs with
      | stop t ht =>
        have e1 : hd [t] = -1 := ht
        simp only [pt, e1, m1]
        exact ⟨rfl, rfl, Sim.stop t ht⟩
      | cons t ht r r' hr =>
        rw [pt_5] at h
        rw [pt_5, pt_5]
        by_cases hi : inRow 1 t.c = true
        · rw [if_pos hi] at h
          rw [if_pos hi, if_pos hi]
          by_cases ha : (pt f 2 e r).ok = true
          · have i := ih 2 e (e.shift k) r r' hr (fun h => by omega) ha
            rw [if_pos ha] at h
            rw [if_pos ha, if_pos i.ok]
            refine ih 5 _ _ _ _ i.ts (fun _ => ?_) h
            show Ex.bin _ (t.p + k) _ _ = Ex.bin _ (t.p + k) _ _
            rw [i.e]
          · rw [if_neg ha] at h; exact absurd h ha
        · rw [if_neg hi, if_neg hi]
          exact ⟨rfl, rfl, Sim.cons t ht r r' hr⟩
    | (n + 6), he, h =>
      have he' := he (by omega)
      subst he'
      cases hs with
      | stop t ht =>
        have e1 : hd [t] = -1 := ht
        simp only [pt, e1, m2]
        exact ⟨rfl, rfl, Sim.stop t ht⟩
      | cons t ht r r' hr =>
        rw [pt_6] at h
        rw [pt_6, pt_6]
        by_cases hi : isMk t.c = true
        · rw [if_pos hi] at h
          rw [if_pos hi, if_pos hi]
          exact ih 6 _ _ _ _ hr (fun _ => rfl) h
        · rw [if_neg hi, if_neg hi]
          exact ⟨rfl, rfl, Sim.cons t ht r r' hr⟩
end Go.Proofs.YtodabmkcihafhaaGreatDoor

/- Plain: how much fuel a reading wants; the reading without fuel. -/
namespace Go.Proofs.YtodabmkcihafhaaGreatDoor
set_option linter.unusedVariables false

theorem digs_le : ∀ (n : Nat) (ts : List Tok), (digs n ts).2.length ≤ ts.length := by
  intro n
  induction n with
  | zero => intro ts; exact Nat.le_refl _
  | succ n ih =>
    intro ts
    simp only [digs]
    split
    · have := ih ts.tail
      have h2 : ts.tail.length ≤ ts.length := by simp
      exact Nat.le_trans this h2
    · exact Nat.le_refl _
theorem frac_le (ts : List Tok) : (fracT ts).2.length ≤ ts.length := by
  unfold fracT
  split
  · simp
  · exact Nat.le_refl _
theorem numT_le (t : Tok) (r : List Tok) : (numT (t :: r)).2.length ≤ r.length := by
  unfold numT
  split
  · exact Nat.le_refl _
  · have e : ∀ x : List Int × List Tok, x.2.length ≤ r.length → ((fracT x.2).2).length ≤ r.length := fun x hx => Nat.le_trans (frac_le _) hx
    refine e _ ?_
    split
    · exact Nat.le_refl _
    · exact digs_le 2 r
theorem pt_len : ∀ (f tag : Nat) (e : Ex) (ts : List Tok), (pt f tag e ts).ok = true → (pt f tag e ts).ts.length + (if tag < 4 then 1 else 0) ≤ ts.length := by
  intro f
  induction f with
  | zero => intro tag e ts h; simp [pt] at h
  | succ f ih =>
    intro tag e ts h
    match tag, h with
    | 0, h =>
      rw [pt_0] at h ⊢
      by_cases ha : (pt f 1 e ts).ok = true
      · rw [if_pos ha] at h ⊢
        have i1 := ih 1 e ts ha
        have i2 := ih 4 _ _ h
        simp at i1 i2 ⊢
        omega
      · rw [if_neg ha] at h; exact absurd h ha
    | 1, h =>
      rw [pt_1] at h ⊢
      by_cases ha : (pt f 2 e ts).ok = true
      · rw [if_pos ha] at h ⊢
        have i1 := ih 2 e ts ha
        have i2 := ih 5 _ _ h
        simp at i1 i2 ⊢
        omega
      · rw [if_neg ha] at h; exact absurd h ha
    | 2, h =>
      cases ts with
      | nil =>
        exfalso
        cases f with
        | zero => simp [pt, hd] at h
        | succ f => simp [pt, hd, isDig, isFrac, isNm] at h
      | cons t r =>
        rw [pt_2] at h ⊢
        by_cases hc : t.c = 8722
        · rw [if_pos hc] at h ⊢
          by_cases ha : (pt f 2 e r).ok = true
          · rw [if_pos ha]
            have i1 := ih 2 e r ha
            simp at i1 ⊢
            omega
          · rw [if_neg ha] at h; exact absurd h ha
        · rw [if_neg hc] at h ⊢
          by_cases ha : (pt f 3 e (t :: r)).ok = true
          · rw [if_pos ha] at h ⊢
            have i1 := ih 3 e (t :: r) ha
            have i2 := ih 6 _ _ h
            simp at i1 i2 ⊢
            omega
          · rw [if_neg ha] at h; exact absurd h ha
    | 3, h =>
      cases ts with
      | nil => simp [pt, hd, isDig, isFrac, isNm] at h
      | cons t r =>
        rw [pt_3] at h ⊢
        by_cases hn : (isDig t.c || isFrac t.c) = true
        · rw [if_pos hn]
          have := numT_le t r
          simp
          omega
        · rw [if_neg hn] at h ⊢
          by_cases hl : t.c = 105 ∨ isNm t.c = true
          · rw [if_pos hl]
            simp
          · rw [if_neg hl] at h ⊢
            by_cases hp : t.c = 40
            · rw [if_pos hp] at h ⊢
              by_cases ha : (pt f 0 e r).ok = true
              · rw [if_pos ha] at h ⊢
                have i1 := ih 0 e r ha
                by_cases hq : hd (pt f 0 e r).ts = 41
                · rw [if_pos hq]
                  simp at i1 ⊢
                  omega
                · rw [if_neg hq] at h; simp at h
              · rw [if_neg ha] at h; exact absurd h ha
            · rw [if_neg hp] at h; simp at h
    | 4, h =>
      cases ts with
      | nil =>
        have : pt (f + 1) 4 e [] = ⟨true, e, []⟩ := rfl
        rw [this]
        simp
      | cons t r =>
        rw [pt_4] at h ⊢
        by_cases hi : inRow 0 t.c = true
        · rw [if_pos hi] at h ⊢
          by_cases ha : (pt f 1 e r).ok = true
          · rw [if_pos ha] at h ⊢
            have i1 := ih 1 e r ha
            have i2 := ih 4 _ _ h
            simp at i1 i2 ⊢
            omega
          · rw [if_neg ha] at h; exact absurd h ha
        · rw [if_neg hi]
          simp
    | 5, h =>
      cases ts with
      | nil =>
        have : pt (f + 1) 5 e [] = ⟨true, e, []⟩ := rfl
        rw [this]
        simp
      | cons t r =>
        rw [pt_5] at h ⊢
        by_cases hi : inRow 1 t.c = true
        · rw [if_pos hi] at h ⊢
          by_cases ha : (pt f 2 e r).ok = true
          · rw [if_pos ha] at h ⊢
            have i1 := ih 2 e r ha
            have i2 := ih 5 _ _ h
            simp at i1 i2 ⊢
            omega
          · rw [if_neg ha] at h; exact absurd h ha
        · rw [if_neg hi]
          simp
    | (n + 6), h =>
      have hz : ¬ (n + 6 < 4) := by omega
      rw [if_neg hz]
      cases ts with
      | nil =>
        have : pt (f + 1) (n + 6) e [] = ⟨true, e, []⟩ := rfl
        rw [this]
        simp
      | cons t r =>
        rw [pt_6] at h ⊢
        by_cases hi : isMk t.c = true
        · rw [if_pos hi] at h ⊢
          have i2 := ih 6 _ _ h
          simp at i2 ⊢
          omega
        · rw [if_neg hi]
          simp

def need (tag : Nat) (ts : List Tok) : Nat := 6 * ts.length + (if tag = 0 then 4 else if tag = 1 then 3 else if tag = 2 then 2 else 1)
theorem pt_stable : ∀ (f g tag : Nat) (e : Ex) (ts : List Tok), need tag ts ≤ f → need tag ts ≤ g → pt f tag e ts = pt g tag e ts := by
  intro f
  induction f with
  | zero => intro g tag e ts h; unfold need at h; exfalso; revert h; split <;> (try split) <;> (try split) <;> omega
  | succ f ih =>
    intro g tag e ts hf hg
    cases g with
    | zero => exfalso; unfold need at hg; revert hg; split <;> (try split) <;> (try split) <;> omega
    | succ g =>
      match tag, hf, hg with
      | 0, hf, hg =>
        simp [need] at hf hg
        rw [pt_0, pt_0, ih g 1 e ts (by simp [need]; omega) (by simp [need]; omega)]
        by_cases ha : (pt g 1 e ts).ok = true
        · rw [if_pos ha, if_pos ha]
          have := pt_len g 1 e ts ha
          simp at this
          exact ih g 4 _ _ (by simp [need]; omega) (by simp [need]; omega)
        · rw [if_neg ha, if_neg ha]
      | 1, hf, hg =>
        simp [need] at hf hg
        rw [pt_1, pt_1, ih g 2 e ts (by simp [need]; omega) (by simp [need]; omega)]
        by_cases ha : (pt g 2 e ts).ok = true
        · rw [if_pos ha, if_pos ha]
          have := pt_len g 2 e ts ha
          simp at this
          exact ih g 5 _ _ (by simp [need]; omega) (by simp [need]; omega)
        · rw [if_neg ha, if_neg ha]
      | 2, hf, hg =>
        simp [need] at hf hg
        cases ts with
        | nil =>
          have e3 := ih g 3 e [] (by simp [need] at *; omega) (by simp [need] at *; omega)
          have u : ∀ h, pt (h + 1) 2 e [] = if (pt h 3 e []).ok then pt h 6 (pt h 3 e []).e (pt h 3 e []).ts else pt h 3 e [] := fun h => rfl
          rw [u, u, e3]
          by_cases ha : (pt g 3 e []).ok = true
          · have := pt_len g 3 e [] ha
            simp at this
          · rw [if_neg ha, if_neg ha]
        | cons t r =>
          simp at hf hg
          rw [pt_2, pt_2, ih g 2 e r (by simp [need]; omega) (by simp [need]; omega), ih g 3 e (t :: r) (by simp [need]; omega) (by simp [need]; omega)]
          by_cases hc : t.c = 8722
          · rw [if_pos hc, if_pos hc]
          · rw [if_neg hc, if_neg hc]
            by_cases ha : (pt g 3 e (t :: r)).ok = true
            · rw [if_pos ha, if_pos ha]
              have := pt_len g 3 e (t :: r) ha
              simp at this
              exact ih g 6 _ _ (by simp [need]; omega) (by simp [need]; omega)
            · rw [if_neg ha, if_neg ha]
      | 3, hf, hg =>
        simp [need] at hf hg
        cases ts with
        | nil => rfl
        | cons t r =>
          simp at hf hg
          rw [pt_3, pt_3, ih g 0 e r (by simp [need]; omega) (by simp [need]; omega)]
      | 4, hf, hg =>
        simp [need] at hf hg
        cases ts with
        | nil => rfl
        | cons t r =>
          simp at hf hg
          rw [pt_4, pt_4, ih g 1 e r (by simp [need]; omega) (by simp [need]; omega)]
          by_cases hi : inRow 0 t.c = true
          · rw [if_pos hi, if_pos hi]
            by_cases ha : (pt g 1 e r).ok = true
            · rw [if_pos ha, if_pos ha]
              have := pt_len g 1 e r ha
              simp at this
              exact ih g 4 _ _ (by simp [need]; omega) (by simp [need]; omega)
            · rw [if_neg ha, if_neg ha]
          · rw [if_neg hi, if_neg hi]
      | 5, hf, hg =>
        simp [need] at hf hg
        cases ts with
        | nil => rfl
        | cons t r =>
          simp at hf hg
          rw [pt_5, pt_5, ih g 2 e r (by simp [need]; omega) (by simp [need]; omega)]
          by_cases hi : inRow 1 t.c = true
          · rw [if_pos hi, if_pos hi]
            by_cases ha : (pt g 2 e r).ok = true
            · rw [if_pos ha, if_pos ha]
              have := pt_len g 2 e r ha
              simp at this
              exact ih g 5 _ _ (by simp [need]; omega) (by simp [need]; omega)
            · rw [if_neg ha, if_neg ha]
          · rw [if_neg hi, if_neg hi]
      | (n + 6), hf, hg =>
        simp [need] at hf hg
        cases ts with
        | nil => rfl
        | cons t r =>
          simp at hf hg
          rw [pt_6, pt_6]
          by_cases hi : isMk t.c = true
          · rw [if_pos hi, if_pos hi]
            exact ih g 6 _ _ (by simp [need]; omega) (by simp [need]; omega)
          · rw [if_neg hi, if_neg hi]

/-- The reading. -/
def PT (tag : Nat) (e : Ex) (ts : List Tok) : RT := pt (need tag ts) tag e ts
theorem pt_PT {f tag : Nat} {ts : List Tok} (e : Ex) (h : need tag ts ≤ f) : pt f tag e ts = PT tag e ts := pt_stable _ _ _ _ _ h (Nat.le_refl _)
theorem PT_0 (e : Ex) (ts : List Tok) : PT 0 e ts = if (PT 1 e ts).ok then PT 4 (PT 1 e ts).e (PT 1 e ts).ts else PT 1 e ts := by
  have h : need 0 ts ≤ 6 * ts.length + 10 := by simp [need]
  rw [← pt_PT e h, pt_0, pt_PT (f := 6 * ts.length + 9) (tag := 1) e (by simp [need])]
  by_cases ha : (PT 1 e ts).ok = true
  · rw [if_pos ha, if_pos ha]
    have := pt_len _ 1 e ts ha
    exact pt_PT _ (by simp [need] at *; unfold PT; simp [need]; omega)
  · rw [if_neg ha, if_neg ha]
theorem PT_1 (e : Ex) (ts : List Tok) : PT 1 e ts = if (PT 2 e ts).ok then PT 5 (PT 2 e ts).e (PT 2 e ts).ts else PT 2 e ts := by
  have h : need 1 ts ≤ 6 * ts.length + 10 := by simp [need]
  rw [← pt_PT e h, pt_1, pt_PT (f := 6 * ts.length + 9) (tag := 2) e (by simp [need])]
  by_cases ha : (PT 2 e ts).ok = true
  · rw [if_pos ha, if_pos ha]
    have := pt_len _ 2 e ts ha
    exact pt_PT _ (by simp [need] at *; unfold PT; simp [need]; omega)
  · rw [if_neg ha, if_neg ha]
theorem PT_2 (e : Ex) (t : Tok) (r : List Tok) : PT 2 e (t :: r) = if t.c = 8722 then (if (PT 2 e r).ok then ⟨true, .un 110 t.p (PT 2 e r).e, (PT 2 e r).ts⟩ else PT 2 e r)
    else if (PT 3 e (t :: r)).ok then PT 6 (PT 3 e (t :: r)).e (PT 3 e (t :: r)).ts else PT 3 e (t :: r) := by
  have h : need 2 (t :: r) ≤ 6 * (t :: r).length + 10 := by simp [need]
  rw [← pt_PT e h, pt_2, pt_PT (f := 6 * (t :: r).length + 9) (tag := 2) (ts := r) e (by simp [need]; omega), pt_PT (f := 6 * (t :: r).length + 9) (tag := 3) (ts := t :: r) e (by simp [need])]
  by_cases hc : t.c = 8722
  · rw [if_pos hc, if_pos hc]
  · rw [if_neg hc, if_neg hc]
    by_cases ha : (PT 3 e (t :: r)).ok = true
    · rw [if_pos ha, if_pos ha]
      have := pt_len _ 3 e (t :: r) ha
      exact pt_PT _ (by simp [need] at *; unfold PT; simp [need]; omega)
    · rw [if_neg ha, if_neg ha]
theorem PT_3 (e : Ex) (t : Tok) (r : List Tok) : PT 3 e (t :: r) = if (isDig t.c || isFrac t.c) = true then ⟨true, .num (numT (t :: r)).1 t.p, (numT (t :: r)).2⟩
    else if t.c = 105 ∨ isNm t.c = true then ⟨true, .leaf t.c t.p, r⟩
    else if t.c = 40 then (if (PT 0 e r).ok then (if hd (PT 0 e r).ts = 41 then ⟨true, (PT 0 e r).e, (PT 0 e r).ts.tail⟩ else ⟨false, e, (PT 0 e r).ts⟩) else PT 0 e r)
    else ⟨false, e, t :: r⟩ := by
  have h : need 3 (t :: r) ≤ 6 * (t :: r).length + 10 := by simp [need]
  rw [← pt_PT e h, pt_3, pt_PT (f := 6 * (t :: r).length + 9) (tag := 0) (ts := r) e (by simp [need]; omega)]
theorem PT_4 (e : Ex) (t : Tok) (r : List Tok) : PT 4 e (t :: r) = if inRow 0 t.c = true then (if (PT 1 e r).ok then PT 4 (.bin t.c t.p e (PT 1 e r).e) (PT 1 e r).ts else PT 1 e r) else ⟨true, e, t :: r⟩ := by
  have h : need 4 (t :: r) ≤ 6 * (t :: r).length + 10 := by simp [need]
  rw [← pt_PT e h, pt_4, pt_PT (f := 6 * (t :: r).length + 9) (tag := 1) (ts := r) e (by simp [need]; omega)]
  by_cases hi : inRow 0 t.c = true
  · rw [if_pos hi, if_pos hi]
    by_cases ha : (PT 1 e r).ok = true
    · rw [if_pos ha, if_pos ha]
      have := pt_len _ 1 e r ha
      exact pt_PT _ (by simp [need] at *; unfold PT; simp [need]; omega)
    · rw [if_neg ha, if_neg ha]
  · rw [if_neg hi, if_neg hi]
theorem PT_5 (e : Ex) (t : Tok) (r : List Tok) : PT 5 e (t :: r) = if inRow 1 t.c = true then (if (PT 2 e r).ok then PT 5 (.bin t.c t.p e (PT 2 e r).e) (PT 2 e r).ts else PT 2 e r) else ⟨true, e, t :: r⟩ := by
  have h : need 5 (t :: r) ≤ 6 * (t :: r).length + 10 := by simp [need]
  rw [← pt_PT e h, pt_5, pt_PT (f := 6 * (t :: r).length + 9) (tag := 2) (ts := r) e (by simp [need]; omega)]
  by_cases hi : inRow 1 t.c = true
  · rw [if_pos hi, if_pos hi]
    by_cases ha : (PT 2 e r).ok = true
    · rw [if_pos ha, if_pos ha]
      have := pt_len _ 2 e r ha
      exact pt_PT _ (by simp [need] at *; unfold PT; simp [need]; omega)
    · rw [if_neg ha, if_neg ha]
  · rw [if_neg hi, if_neg hi]
theorem PT_6 (e : Ex) (t : Tok) (r : List Tok) : PT 6 e (t :: r) = if isMk t.c = true then PT 6 (.un t.c t.p e) r else ⟨true, e, t :: r⟩ := by
  have h : need 6 (t :: r) ≤ 6 * (t :: r).length + 10 := by simp [need]
  rw [← pt_PT e h]
  have := pt_6 (6 * (t :: r).length + 9) 0 e t r
  rw [Nat.zero_add] at this
  rw [this]
  by_cases hi : isMk t.c = true
  · rw [if_pos hi, if_pos hi]
    exact pt_PT _ (by simp [need]; omega)
  · rw [if_neg hi, if_neg hi]
theorem PT_len {tag : Nat} {e : Ex} {ts : List Tok} (h : (PT tag e ts).ok = true) : (PT tag e ts).ts.length + (if tag < 4 then 1 else 0) ≤ ts.length := pt_len _ tag e ts h
theorem PT_sim {k : Nat} {more : List Tok} (hm : Ends more) {tag : Nat} {e e' : Ex} {ts ts' : List Tok} (hs : Sim k more ts ts') (he : 4 ≤ tag → e' = e.shift k) (h : (PT tag e ts).ok = true) : SimR k more (PT tag e ts) (PT tag e' ts') := by
  have h1 : need tag ts ≤ need tag ts + need tag ts' := by omega
  have h2 : need tag ts' ≤ need tag ts + need tag ts' := by omega
  have := pt_sim k more hm (need tag ts + need tag ts') tag e e' ts ts' hs he (by rw [pt_PT e h1]; exact h)
  rw [pt_PT e h1, pt_PT e' h2] at this
  exact this
end Go.Proofs.YtodabmkcihafhaaGreatDoor
