import Derived.Shelf.Strings.Builder1
import Derived.Shelf.Strings.BuilderF
import Derived.Shelf.Strings.BuilderK
import Derived.Shelf.Strings.BuilderRune
import Derived.Test.YtodabmkcihafhaaGreatDoorProg
import GoSem.Claim
import Derived.Test.YtodabmkcihafhaaGreatDoorRows
import Derived.WalkKit
import Derived.WalkSpells
import Derived.WalkLawsBesides
import Derived.Lib.UnsafeStr
import Derived.Test.YtodabmkcihafhaaGreatDoorQ4
import Derived.Test.YtodabmkcihafhaaGreatDoorQ9
import Derived.Test.YtodabmkcihafhaaGreatDoorQ1
import Derived.Test.YtodabmkcihafhaaGreatDoorQ2

/- The program's Quarters. -/
namespace Go.Proofs.YtodabmkcihafhaaGreatDoor
open Go.RowKit
set_option linter.unusedVariables false

theorem nume_sign {l : List Int} (h : NumeOk l) : ∀ c ∈ l, isDig c = true ∨ isFrac c = true := by
  intro c hc
  rcases h with ⟨d, rfl, hd⟩ | ⟨d, ds, fr, rfl, hd, _, hds, hdd, hfr⟩
  · simp at hc; subst hc; exact Or.inr hd
  · rcases List.mem_cons.1 hc with rfl | hc
    · exact Or.inl hd
    · rcases List.mem_append.1 hc with hc | hc
      · exact Or.inl (hdd c hc)
      · rcases hfr with rfl | ⟨e, rfl, he⟩
        · cases hc
        · simp at hc; subst hc; exact Or.inr he
/-- One rune of a numeral, at its place. -/
theorem nume_dec {l : List Int} (h : NumeOk l) (pre : List Int) (c : Int) (post : List Int) (e : l = pre ++ c :: post) :
    ∃ n : Nat, c = n ∧ Utf8.decode (encAll l) (encAll pre).size = (n, (encAll (pre ++ [c])).size - (encAll pre).size) ∧ (encAll pre).size < (encAll (pre ++ [c])).size ∧ (encAll (pre ++ [c])).size ≤ (encAll l).size ∧ ((48 ≤ n ∧ n ≤ 57) ∨ n = 189 ∨ n = 188 ∨ n = 190) := by
  have hs := nume_sign h c (by rw [e]; simp)
  have hn : ((48 ≤ c ∧ c ≤ 57) ∨ c = 189 ∨ c = 188 ∨ c = 190) := by
    unfold isDig isFrac at hs
    simp at hs
    omega
  obtain ⟨n, rfl⟩ : ∃ n : Nat, c = n := ⟨c.toNat, by omega⟩
  obtain ⟨d1, d2⟩ := dec_enc (encAll pre) (encAll post) n (by unfold known; simp; omega)
  have e1 : encAll l = encAll pre ++ Utf8.encode (n : Int) ++ encAll post := by rw [e, encAll_append, encAll_cons, ByteArray.append_assoc]
  have e2 : (encAll (pre ++ [(n : Int)])).size = (encAll pre).size + (Utf8.encode (n : Int)).size := by rw [encAll_snoc, ByteArray.size_append]
  have e3 : (encAll l).size = (encAll pre).size + (Utf8.encode (n : Int)).size + (encAll post).size := by rw [e1, ByteArray.size_append, ByteArray.size_append]
  refine ⟨n, rfl, ?_, by omega, by omega, by omega⟩
  rw [e1, d1, e2]
  rw [Nat.add_sub_cancel_left]

set_option maxHeartbeats 4000000 in
set_option maxRecDepth 100000 in
theorem quarters_any (l : List Int) (w : World) (hl : NumeOk l) :
    Calls Tryz.prog 122 #[.agg #[.string (encAll l)]] w fun e w' => e = .returned (.int .i64 (quP l)) ∧ Below w.heap.size w w' := by
  have HL := hidMk hl
  have HE : Hid (∀ (pre post : List Int), l = pre ++ post → 0 ≤ (quF pre).1 ∧ (quF pre).1 ≤ 999 ∧ 0 ≤ (quF pre).2 ∧ (quF pre).2 ≤ 3) := fun pre post e => qu_part hl pre post e
  have HD : Hid (∀ (pre : List Int) (c : Int) (post : List Int), l = pre ++ c :: post → ∃ n : Nat, c = n ∧ Utf8.decode (encAll l) (encAll pre).size = (n, (encAll (pre ++ [c])).size - (encAll pre).size) ∧ (encAll pre).size < (encAll (pre ++ [c])).size ∧ (encAll (pre ++ [c])).size ≤ (encAll l).size ∧ ((48 ≤ n ∧ n ≤ 57) ∨ n = 189 ∨ n = 188 ∨ n = 190)) := fun pre c post e => nume_dec hl pre c post e
  have HP : Hid (quP l = 4 * (quF l).1 + (quF l).2) := rfl
  have hb0 := fr_below w (.cells #[.string (encAll l)] 178)
  generalize hs : encAll l = s at *
  generalize quP l = Q at *
  clear hl
  go_enter Tryz.func122, Tryz.ntmps122
  go_wp2_with fail
  go_loopw [3, 4] (fun s3 s4 wr => ∃ (pre post : List Int), Hid (l = pre ++ post) ∧ s3 = .int .i64 (quF pre).1 ∧ s4 = .int .i64 (quF pre).2 ∧ wr.heap[w.heap.size + 1]? = some (.stringIter s (encAll pre).size) ∧ Below w.heap.size w wr) (fun _ _ wr => s.size - wr.iterPos (w.heap.size + 1))
  case atStart =>
    refine ⟨[], l, rfl, rfl, rfl, ?_, ?_⟩
    · have := World.iter_heap (w.alloc (.cells #[.string s] 178)) s 0
      rw [show (w.alloc (.cells #[.string s] 178)).heap.size = w.heap.size + 1 by simp] at this
      exact this
    · exact hb0.alloc (by simp) _
  case round =>
    obtain ⟨pre, post, HPP, rfl, rfl, hit, hbw⟩ := hrel
    have hsz : w.heap.size + 1 < wr.heap.size := (Array.getElem?_eq_some_iff.1 hit).1
    obtain ⟨p1, p2, p3, p4⟩ := HE.out pre post HPP.out
    cases post with
    | nil =>
      have e : pre = l := by have := HPP.out; simpa using this.symm
      subst e
      rw [hs] at hit
      have hnx : ∀ ty, (Instr.next (.pointer (some ⟨w.heap.size + 1, 0, none⟩)) true ty).run Tryz.prog wr = _ := fun ty => Lib.run_next_end_at wr (w.heap.size + 1) s s.size ty hit (by omega)
      clear hit HE HD HL
      have o1 : wrap64 (4 * (quF pre).1) = 4 * (quF pre).1 := by unfold wrap64; omega
      have o2 : wrap64 (4 * (quF pre).1 + (quF pre).2) = 4 * (quF pre).1 + (quF pre).2 := by unfold wrap64; omega
      generalize (quF pre).1 = a at *
      generalize (quF pre).2 = b at *
      go_wp2_with fail
      go_ret
      exact ⟨by rw [HP.out]; rfl, hbw⟩
    | cons c post =>
      obtain ⟨n, rfl, hd, hd1, hd2, hd3⟩ := HD.out pre c post HPP.out
      have hnx : ∀ ty, (Instr.next (.pointer (some ⟨w.heap.size + 1, 0, none⟩)) true ty).run Tryz.prog wr = _ := fun ty => Lib.run_next_any_at wr (w.heap.size + 1) s (encAll pre).size ty hit (by omega)
      rw [hd] at hnx
      have e0 : (encAll pre).size + ((encAll (pre ++ [(n : Int)])).size - (encAll pre).size) = (encAll (pre ++ [(n : Int)])).size := by omega
      simp only [e0] at hnx
      have hit2 := Lib.iterAt_heap wr (w.heap.size + 1) s (encAll pre).size (encAll (pre ++ [(n : Int)])).size hit
      have hbw2 := Lib.below_iterAt hbw (k := w.heap.size + 1) (by omega) s (encAll (pre ++ [(n : Int)])).size
      have HI0 := hidMk hit
      have HQ : Hid (quF (pre ++ [(n : Int)]) = quS (quF pre) n) := quF_snoc pre n
      have HPP2 : Hid (l = (pre ++ [(n : Int)]) ++ post) := by have := HPP.out; show _ = _; simpa using this
      have HL1 := hidMk hd1
      have HL2 := hidMk hd2
      clear hit hbw hd hd1 hd2 e0
      generalize wr.iterAt (w.heap.size + 1) s (encAll (pre ++ [(n : Int)])).size = W1 at *
      have HI2 := hidMk hit2
      clear hit2
      have hmes : Hid (s.size - W1.iterPos (w.heap.size + 1) < s.size - wr.iterPos (w.heap.size + 1)) := by
        show _ < _
        have := HL1.out
        have := HL2.out
        simp only [World.iterPos, HI2.out, HI0.out]
        omega
      clear HE HD HL HP hs
      rcases hd3 with hd3 | rfl | rfl | rfl
      · have b1 : (((n : Nat) : Int) == 188) = false := by simp; omega
        have b2 : (((n : Nat) : Int) == 189) = false := by simp; omega
        have b3 : (((n : Nat) : Int) == 190) = false := by simp; omega
        have o0 : wrap32 ((n : Int) - 48) = (n : Int) - 48 := by unfold wrap32; omega
        have o1 : wrap64 (10 * (quF pre).1) = 10 * (quF pre).1 := by unfold wrap64; omega
        have o2 : wrap64 (10 * (quF pre).1 + ((n : Int) - 48)) = 10 * (quF pre).1 + ((n : Int) - 48) := by unfold wrap64; omega
        have HQ2 : Hid (quF (pre ++ [(n : Int)]) = (10 * (quF pre).1 + ((n : Int) - 48), (quF pre).2)) := by
          have := HQ.out
          unfold quS at this
          rw [if_neg (by omega), if_neg (by omega), if_neg (by omega)] at this
          exact this
        clear HQ HI0 HL1 HL2
        go_wp2_with fail
        exact ⟨⟨pre ++ [(n : Int)], post, HPP2.out, by rw [HQ2.out], by rw [HQ2.out], HI2.out, hbw2⟩, hmes.out⟩
      · clear HI0 HL1 HL2
        go_wp2_with fail
        exact ⟨⟨pre ++ [((189 : Nat) : Int)], post, HPP2.out, by rw [HQ.out]; rfl, by rw [HQ.out]; rfl, HI2.out, hbw2⟩, hmes.out⟩
      · clear HI0 HL1 HL2
        go_wp2_with fail
        exact ⟨⟨pre ++ [((188 : Nat) : Int)], post, HPP2.out, by rw [HQ.out]; rfl, by rw [HQ.out]; rfl, HI2.out, hbw2⟩, hmes.out⟩
      · clear HI0 HL1 HL2
        go_wp2_with fail
        exact ⟨⟨pre ++ [((190 : Nat) : Int)], post, HPP2.out, by rw [HQ.out]; rfl, by rw [HQ.out]; rfl, HI2.out, hbw2⟩, hmes.out⟩
end Go.Proofs.YtodabmkcihafhaaGreatDoor

/- The library's contracts for strings.Builder, laid over this program. -/
namespace Go.Proofs.YtodabmkcihafhaaGreatDoor
open Go.Shelf Go.RowKit

def ren166 : Go.Shelf.Ren := ⟨fun | 166 => 79 | 240 => 116 | 276 => 145 | n => n, fun | 0 => 0 | 3 => 3 | 4 => 4 | 5 => 5 | 9 => 9 | 20 => 20 | 37 => 95 | 70 => 121 | 72 => 123 | 75 => 180 | 80 => 125 | 164 => 212 | n => n, fun | n => n⟩
theorem lays166 : Go.Proofs.Lays.n166 Tryz.prog ren166 := {
  mixed := by kernel_rfl
  f166 := Tryz.func79.trans (congrArg some (by kernel_rfl))
  f240 := Tryz.func116.trans (congrArg some (by kernel_rfl))
  f276 := Tryz.func145.trans (congrArg some (by kernel_rfl))
  t0 := Tryz.underlying0
  a0 := Tryz.isAgg0
  z0 := Tryz.sizeOf0
  v0 := Tryz.zeroValue0
  t3 := Tryz.underlying3
  a3 := Tryz.isAgg3
  z3 := Tryz.sizeOf3
  v3 := Tryz.zeroValue3
  t4 := Tryz.underlying4
  a4 := Tryz.isAgg4
  z4 := Tryz.sizeOf4
  v4 := Tryz.zeroValue4
  t9 := Tryz.underlying9
  a9 := Tryz.isAgg9
  z9 := Tryz.sizeOf9
  v9 := Tryz.zeroValue9
  t20 := Tryz.underlying20
  a20 := Tryz.isAgg20
  z20 := Tryz.sizeOf20
  v20 := Tryz.zeroValue20
  t37 := Tryz.underlying95
  a37 := Tryz.isAgg95
  z37 := Tryz.sizeOf95
  v37 := Tryz.zeroValue95
  t70 := Tryz.underlying121
  a70 := Tryz.isAgg121
  z70 := Tryz.sizeOf121
  v70 := Tryz.zeroValue121
  t72 := Tryz.underlying123
  a72 := Tryz.isAgg123
  z72 := Tryz.sizeOf123
  v72 := Tryz.zeroValue123
  t75 := Tryz.underlying180
  a75 := Tryz.isAgg180
  z75 := Tryz.sizeOf180
  v75 := Tryz.zeroValue180
  t164 := Tryz.underlying212
  a164 := Tryz.isAgg212
  z164 := Tryz.sizeOf212
  v164 := Tryz.zeroValue212 }
theorem extra166 : Builder.Extra Tryz.prog ren166 := {
  sizeBuilder := by kernel_rfl
  liesBuilder := by kernel_rfl
  t5 := Tryz.underlying5
  a5 := Tryz.isAgg5
  z5 := Tryz.sizeOf5
  v5 := Tryz.zeroValue5
  infoByte := by kernel_rfl
  cellsByte := by kernel_rfl
  sizeByte := by kernel_rfl
  neB5 := by decide }
def ren168 : Go.Shelf.Ren := ⟨fun | 168 => 80 | 240 => 116 | 242 => 117 | 276 => 145 | 278 => 146 | n => n, fun | 0 => 0 | 3 => 3 | 4 => 4 | 5 => 5 | 9 => 9 | 20 => 20 | 21 => 21 | 37 => 95 | 46 => 240 | 51 => 67 | 70 => 121 | 72 => 123 | 75 => 180 | 80 => 125 | 164 => 212 | n => n, fun | n => n⟩
theorem lays168 : Go.Proofs.Lays.n168 Tryz.prog ren168 := {
  mixed := by kernel_rfl
  f168 := Tryz.func80.trans (congrArg some (by kernel_rfl))
  f240 := Tryz.func116.trans (congrArg some (by kernel_rfl))
  f242 := Tryz.func117.trans (congrArg some (by kernel_rfl))
  f276 := Tryz.func145.trans (congrArg some (by kernel_rfl))
  f278 := Tryz.func146.trans (congrArg some (by kernel_rfl))
  t0 := Tryz.underlying0
  a0 := Tryz.isAgg0
  z0 := Tryz.sizeOf0
  v0 := Tryz.zeroValue0
  t3 := Tryz.underlying3
  a3 := Tryz.isAgg3
  z3 := Tryz.sizeOf3
  v3 := Tryz.zeroValue3
  t4 := Tryz.underlying4
  a4 := Tryz.isAgg4
  z4 := Tryz.sizeOf4
  v4 := Tryz.zeroValue4
  t5 := Tryz.underlying5
  a5 := Tryz.isAgg5
  z5 := Tryz.sizeOf5
  v5 := Tryz.zeroValue5
  t9 := Tryz.underlying9
  a9 := Tryz.isAgg9
  z9 := Tryz.sizeOf9
  v9 := Tryz.zeroValue9
  t20 := Tryz.underlying20
  a20 := Tryz.isAgg20
  z20 := Tryz.sizeOf20
  v20 := Tryz.zeroValue20
  t21 := Tryz.underlying21
  a21 := Tryz.isAgg21
  z21 := Tryz.sizeOf21
  v21 := Tryz.zeroValue21
  t37 := Tryz.underlying95
  a37 := Tryz.isAgg95
  z37 := Tryz.sizeOf95
  v37 := Tryz.zeroValue95
  t46 := Tryz.underlying240
  a46 := Tryz.isAgg240
  z46 := Tryz.sizeOf240
  v46 := Tryz.zeroValue240
  t51 := Tryz.underlying67
  a51 := Tryz.isAgg67
  z51 := Tryz.sizeOf67
  v51 := Tryz.zeroValue67
  t70 := Tryz.underlying121
  a70 := Tryz.isAgg121
  z70 := Tryz.sizeOf121
  v70 := Tryz.zeroValue121
  t72 := Tryz.underlying123
  a72 := Tryz.isAgg123
  z72 := Tryz.sizeOf123
  v72 := Tryz.zeroValue123
  t75 := Tryz.underlying180
  a75 := Tryz.isAgg180
  z75 := Tryz.sizeOf180
  v75 := Tryz.zeroValue180
  t164 := Tryz.underlying212
  a164 := Tryz.isAgg212
  z164 := Tryz.sizeOf212
  v164 := Tryz.zeroValue212 }
theorem extra168 : Builder.Extra Tryz.prog ren168 := {
  sizeBuilder := by kernel_rfl
  liesBuilder := by kernel_rfl
  t5 := Tryz.underlying5
  a5 := Tryz.isAgg5
  z5 := Tryz.sizeOf5
  v5 := Tryz.zeroValue5
  infoByte := by kernel_rfl
  cellsByte := by kernel_rfl
  sizeByte := by kernel_rfl
  neB5 := by decide }
def ren169 : Go.Shelf.Ren := ⟨fun | 169 => 54 | n => n, fun | 0 => 0 | 3 => 3 | 5 => 5 | 9 => 9 | 37 => 95 | 70 => 121 | 72 => 123 | 127 => 195 | n => n, fun | n => n⟩
theorem lays169 : Go.Proofs.Lays.n169 Tryz.prog ren169 := {
  mixed := by kernel_rfl
  f169 := Tryz.func54.trans (congrArg some (by kernel_rfl))
  t0 := Tryz.underlying0
  a0 := Tryz.isAgg0
  z0 := Tryz.sizeOf0
  v0 := Tryz.zeroValue0
  t3 := Tryz.underlying3
  a3 := Tryz.isAgg3
  z3 := Tryz.sizeOf3
  v3 := Tryz.zeroValue3
  t9 := Tryz.underlying9
  a9 := Tryz.isAgg9
  z9 := Tryz.sizeOf9
  v9 := Tryz.zeroValue9
  t37 := Tryz.underlying95
  a37 := Tryz.isAgg95
  z37 := Tryz.sizeOf95
  v37 := Tryz.zeroValue95
  t70 := Tryz.underlying121
  a70 := Tryz.isAgg121
  z70 := Tryz.sizeOf121
  v70 := Tryz.zeroValue121
  t72 := Tryz.underlying123
  a72 := Tryz.isAgg123
  z72 := Tryz.sizeOf123
  v72 := Tryz.zeroValue123
  t127 := Tryz.underlying195
  a127 := Tryz.isAgg195
  z127 := Tryz.sizeOf195
  v127 := Tryz.zeroValue195 }
theorem extra169 : Builder.Extra Tryz.prog ren169 := {
  sizeBuilder := by kernel_rfl
  liesBuilder := by kernel_rfl
  t5 := Tryz.underlying5
  a5 := Tryz.isAgg5
  z5 := Tryz.sizeOf5
  v5 := Tryz.zeroValue5
  infoByte := by kernel_rfl
  cellsByte := by kernel_rfl
  sizeByte := by kernel_rfl
  neB5 := by decide }

theorem wstring_any (B b : Nat) (bs : List Value) (s : ByteArray) (w : World) (h : Lib.IsBuilderF 123 5 B b bs w) (hlen : bs.length + s.size ≤ 140737488355328) (hBw : B ≤ w.heap.size) :
    Calls Tryz.prog 79 #[.pointer (some ⟨b, 0, none⟩), .string s] w fun e w' => e = .returned (.tuple #[.int .i64 s.size, .nilIface]) ∧ (Lib.BuilderAtF 123 5 B b (.pointer (some ⟨b, 0, none⟩)) (bs ++ Lib.strCells s) w' ∧ Below B w w' ∧ Lib.OthersKept 5 (some b) w w') := Any.Builder_WriteString_k lays166 extra166 B b bs s w h hlen hBw
theorem wrune_any (B b : Nat) (bs : List Value) (r : Int) (hr0 : -2147483648 ≤ r) (hr1 : r ≤ 2147483647) (w : World) (h : Lib.IsBuilderF 123 5 B b bs w) (hlen : bs.length + 4 ≤ 140737488355328) (hBw : B ≤ w.heap.size) :
    Calls Tryz.prog 80 #[.pointer (some ⟨b, 0, none⟩), .int .i32 r] w fun e w' => e = .returned (.tuple #[.int .i64 (Lib.runeCells r).length, .nilIface]) ∧ (Lib.BuilderAtF 123 5 B b (.pointer (some ⟨b, 0, none⟩)) (bs ++ Lib.runeCells r) w' ∧ Below B w w' ∧ Lib.OthersKept 5 (some b) w w') := Any.Builder_WriteRune_k lays168 extra168 B b bs r hr0 hr1 w h hlen hBw
theorem bstring_any (B b : Nat) (l : List UInt8) (w : World) (h : Lib.IsBuilderF 123 5 B b (Lib.byteCells l) w) (hBw : B ≤ w.heap.size) :
    Calls Tryz.prog 54 #[.pointer (some ⟨b, 0, none⟩)] w fun e w' => e = .returned (.string ⟨l.toArray⟩) ∧ (Lib.IsBuilderF 123 5 B b (Lib.byteCells l) w' ∧ Below B w w' ∧ Lib.OthersKept 5 (some b) w w') := Any.Builder_String_any_k lays169 extra169 B b l w h hBw
end Go.Proofs.YtodabmkcihafhaaGreatDoor

/- The tree that the program builds for a list of nodes. -/
namespace Go.Proofs.YtodabmkcihafhaaGreatDoor

/-- One node of the tree, its parts under names. -/
def nodeD (n : Nd) (a b : Value) : Value :=
  if n.op = 43 ∨ n.op = 8722 then .iface 194 (.agg #[a, .int .i32 n.op, .int .i64 n.pl, b])
  else if n.op = 215 ∨ n.op = 247 then .iface 193 (.agg #[a, .int .i32 n.op, .int .i64 n.pl, b])
  else if n.op = 110 then .iface 191 (.agg #[a])
  else if n.op = 178 ∨ n.op = 8242 then .iface 187 (.agg #[a, .int .i32 n.op, .int .i64 n.pl])
  else if n.op = 48 then .iface 178 (.agg #[.string n.text])
  else if n.op = 105 then .iface 183 (.agg #[])
  else .iface 185 (.agg #[.int .i32 n.op, .int .i64 n.pl])
def denF : Nat → List Nd → Nat → Value
  | 0, _, _ => .nilIface
  | f + 1, L, k =>
    match L[k]? with
    | none => .nilIface
    | some n => nodeD n (denF f L n.a) (denF f L n.b)
def den (L : List Nd) (k : Nat) : Value := denF (k + 1) L k

theorem denF_succ (f : Nat) (L : List Nd) (k : Nat) (n : Nd) (h : L[k]? = some n) : denF (f + 1) L k = nodeD n (denF f L n.a) (denF f L n.b) := by
  simp only [denF, h]
theorem nodeD_congr (n : Nd) {k : Nat} {a b a' b' : Value} (hw : WfN k n) (ha : n.a < k → a = a') (hb : n.b < k → b = b') : nodeD n a b = nodeD n a' b' := by
  obtain ⟨_, _, h1, h2⟩ := hw
  unfold nodeD
  by_cases c1 : n.op = 43 ∨ n.op = 8722
  · have hb1 : isBin n.op = true := by unfold isBin; rcases c1 with e | e <;> simp [e]
    obtain ⟨q1, q2⟩ := h1 hb1
    obtain rfl := ha q1
    obtain rfl := hb q2
    rfl
  · rw [if_neg c1, if_neg c1]
    by_cases c2 : n.op = 215 ∨ n.op = 247
    · have hb1 : isBin n.op = true := by unfold isBin; rcases c2 with e | e <;> simp [e]
      obtain ⟨q1, q2⟩ := h1 hb1
      obtain rfl := ha q1
      obtain rfl := hb q2
      rfl
    · rw [if_neg c2, if_neg c2]
      by_cases c3 : n.op = 110
      · have hu : isUn n.op = true := by unfold isUn; simp [c3]
        obtain rfl := ha (h2 hu)
        rfl
      · rw [if_neg c3, if_neg c3]
        by_cases c4 : n.op = 178 ∨ n.op = 8242
        · have hu : isUn n.op = true := by unfold isUn; rcases c4 with e | e <;> simp [e]
          obtain rfl := ha (h2 hu)
          rfl
        · rw [if_neg c4, if_neg c4]
theorem denF_append : ∀ (f : Nat) (L M : List Nd) (k : Nat), WfL L → k < L.length → denF f (L ++ M) k = denF f L k := by
  intro f
  induction f with
  | zero => intro L M k _ _; rfl
  | succ f ih =>
    intro L M k hw hk
    obtain ⟨n, hn⟩ : ∃ n, L[k]? = some n := ⟨L[k], List.getElem?_eq_getElem hk⟩
    have hn2 : (L ++ M)[k]? = some n := by rw [List.getElem?_append_left hk]; exact hn
    rw [denF_succ f L k n hn, denF_succ f (L ++ M) k n hn2]
    exact nodeD_congr n (hw k n hn) (fun h => ih L M _ hw (by omega)) (fun h => ih L M _ hw (by omega))
theorem denF_fuel : ∀ (f : Nat) (L : List Nd) (k : Nat), WfL L → k < L.length → k < f → denF (f + 1) L k = denF f L k := by
  intro f
  induction f with
  | zero => intro L k _ _ h; omega
  | succ f ih =>
    intro L k hw hk hf
    obtain ⟨n, hn⟩ : ∃ n, L[k]? = some n := ⟨L[k], List.getElem?_eq_getElem hk⟩
    rw [denF_succ (f + 1) L k n hn, denF_succ f L k n hn]
    exact nodeD_congr n (hw k n hn) (fun h => ih L _ hw (by omega) (by omega)) (fun h => ih L _ hw (by omega) (by omega))
theorem denF_den : ∀ (d : Nat) (L : List Nd) (k : Nat), WfL L → k < L.length → denF (k + 1 + d) L k = den L k := by
  intro d
  induction d with
  | zero => intro L k _ _; rfl
  | succ d ih =>
    intro L k hw hk
    rw [← Nat.add_assoc, denF_fuel (k + 1 + d) L k hw hk (by omega)]
    exact ih L k hw hk
theorem den_eq (L : List Nd) (k : Nat) (n : Nd) (hw : WfL L) (h : L[k]? = some n) : den L k = nodeD n (den L n.a) (den L n.b) := by
  have hk : k < L.length := (List.getElem?_eq_some_iff.1 h).1
  unfold den
  rw [denF_succ k L k n h]
  refine nodeD_congr n (hw k n h) (fun ha => ?_) (fun hb => ?_)
  · rw [show k = n.a + 1 + (k - n.a - 1) by omega]; exact denF_den _ L n.a hw (by omega)
  · rw [show k = n.b + 1 + (k - n.b - 1) by omega]; exact denF_den _ L n.b hw (by omega)
theorem den_append (L M : List Nd) (k : Nat) (hw : WfL L) (hk : k < L.length) : den (L ++ M) k = den L k := denF_append _ L M k hw hk
theorem den_last (L : List Nd) (n : Nd) (hw : WfL L) (hn : WfN L.length n) : den (L ++ [n]) L.length = nodeD n (den L n.a) (den L n.b) := by
  have hg : (L ++ [n])[L.length]? = some n := by simp
  rw [den_eq (L ++ [n]) L.length n (hw.snoc hn) hg]
  exact nodeD_congr n hn (fun ha => den_append _ _ _ hw ha) (fun hb => den_append _ _ _ hw hb)

/-- An interface's value. -/
def IsI (v : Value) : Prop := v = .nilIface ∨ ∃ T x, v = .iface T x
theorem nodeD_isI (n : Nd) (a b : Value) : ∃ T x, nodeD n a b = .iface T x := by
  unfold nodeD
  repeat' split
  all_goals exact ⟨_, _, rfl⟩
theorem den_isI (L : List Nd) (k : Nat) (hw : WfL L) (hk : k < L.length) : ∃ T x, den L k = .iface T x := by
  obtain ⟨n, hn⟩ : ∃ n, L[k]? = some n := ⟨L[k], List.getElem?_eq_getElem hk⟩
  rw [den_eq L k n hw hn]
  exact nodeD_isI n _ _
end Go.Proofs.YtodabmkcihafhaaGreatDoor

/- The program's Write: levelOf, write, writeAs. -/
namespace Go.Proofs.YtodabmkcihafhaaGreatDoor
open Go.RowKit
set_option linter.unusedVariables false

/-! ### A builder that holds a text -/
def BSt (B b : Nat) (t : ByteArray) (w : World) : Prop := Lib.IsBuilderF 123 5 B b (Lib.strCells t) w
def WrPost (B b : Nat) (t : ByteArray) (w : World) (e : Ending) (w' : World) : Prop := e = .returned (.tuple #[]) ∧ BSt B b t w' ∧ Below B w w' ∧ Lib.OthersKept 5 (some b) w w'
theorem strCells_append (a b : ByteArray) : Lib.strCells (a ++ b) = Lib.strCells a ++ Lib.strCells b := by
  unfold Lib.strCells
  rw [ByteArray.data_append, Array.toList_append, List.map_append]
theorem rune_cells (c : Nat) (hc : c < 55296) : Lib.runeCells (c : Int) = Lib.strCells (Utf8.encode (c : Int)) := by
  have v : Utf8.valid (c : Int) = true := by simp [Utf8.valid]; omega
  unfold Lib.runeCells
  by_cases h1 : c < 128
  · rw [Lib.encodeRuneZ_one (by omega) (by omega)]
    simp [Utf8.encode, v, h1, Lib.strCells]
    omega
  · by_cases h2 : c < 2048
    · rw [Lib.encodeRuneZ_two (by omega) (by omega)]
      simp [Utf8.encode, v, h1, h2, Lib.strCells]
      omega
    · rw [Lib.encodeRuneZ_three (by omega)]
      simp [Utf8.encode, v, h1, h2, show c < 65536 by omega, Lib.strCells]
      omega

theorem wrune_st (B b c : Nat) (t : ByteArray) (w : World) (hc : c < 55296) (h : BSt B b t w) (hlen : t.size ≤ 100000) (hBw : B ≤ w.heap.size) :
    Calls Tryz.prog 80 #[.pointer (some ⟨b, 0, none⟩), .int .i32 c] w fun e w' => (∃ v, e = .returned v) ∧ BSt B b (t ++ Utf8.encode (c : Int)) w' ∧ Below B w w' ∧ Lib.OthersKept 5 (some b) w w' := by
  refine (wrune_any B b _ (c : Int) (by omega) (by omega) w h (by rw [Lib.strCells_length]; omega) hBw).mono ?_
  rintro e w' ⟨rfl, h1, h2, h3⟩
  refine ⟨⟨_, rfl⟩, ?_, h2, h3⟩
  unfold BSt
  rw [strCells_append, ← rune_cells c hc]
  exact Or.inr h1
theorem wstring_st (B b : Nat) (t s : ByteArray) (w : World) (h : BSt B b t w) (hlen : t.size + s.size ≤ 100000) (hBw : B ≤ w.heap.size) :
    Calls Tryz.prog 79 #[.pointer (some ⟨b, 0, none⟩), .string s] w fun e w' => (∃ v, e = .returned v) ∧ BSt B b (t ++ s) w' ∧ Below B w w' ∧ Lib.OthersKept 5 (some b) w w' := by
  refine (wstring_any B b _ s w h (by rw [Lib.strCells_length]; omega) hBw).mono ?_
  rintro e w' ⟨rfl, h1, h2, h3⟩
  refine ⟨⟨_, rfl⟩, ?_, h2, h3⟩
  unfold BSt
  rw [strCells_append]
  exact Or.inr h1
theorem BSt.alloc {B b : Nat} {t : ByteArray} {w : World} (h : BSt B b t w) (o : Obj) : BSt B b t (w.alloc o) := Lib.IsBuilderF.alloc h o
theorem BSt.lt {B b : Nat} {t : ByteArray} {w : World} (h : BSt B b t w) : b < w.heap.size ∧ B ≤ b := by
  rcases h with h | h
  · exact ⟨h.lt, h.1⟩
  · exact ⟨h.lt, h.1⟩

/-! ### The type switches -/
theorem taNumeralNumeral (x : Value) (w : World) : (Instr.typeAssert (.iface 178 x) 75 178 true).run Tryz.prog w = .ok (.tuple #[x, .bool true]) w := by kernel_rfl
theorem taNumeralUnit (x : Value) (w : World) : (Instr.typeAssert (.iface 178 x) 75 183 true).run Tryz.prog w = .ok (.tuple #[.agg #[], .bool false]) w := by kernel_rfl
theorem taNumeralName (x : Value) (w : World) : (Instr.typeAssert (.iface 178 x) 75 185 true).run Tryz.prog w = .ok (.tuple #[.agg #[.int .i32 0, .int .i64 0], .bool false]) w := by kernel_rfl
theorem taNumeralMarked (x : Value) (w : World) : (Instr.typeAssert (.iface 178 x) 75 187 true).run Tryz.prog w = .ok (.tuple #[.agg #[.nilIface, .int .i32 0, .int .i64 0], .bool false]) w := by kernel_rfl
theorem taNumeralNegated (x : Value) (w : World) : (Instr.typeAssert (.iface 178 x) 75 191 true).run Tryz.prog w = .ok (.tuple #[.agg #[.nilIface], .bool false]) w := by kernel_rfl
theorem taNumeralProduct (x : Value) (w : World) : (Instr.typeAssert (.iface 178 x) 75 193 true).run Tryz.prog w = .ok (.tuple #[.agg #[.nilIface, .int .i32 0, .int .i64 0, .nilIface], .bool false]) w := by kernel_rfl
theorem taNumeralSum (x : Value) (w : World) : (Instr.typeAssert (.iface 178 x) 75 194 true).run Tryz.prog w = .ok (.tuple #[.agg #[.nilIface, .int .i32 0, .int .i64 0, .nilIface], .bool false]) w := by kernel_rfl
theorem taUnitNumeral (x : Value) (w : World) : (Instr.typeAssert (.iface 183 x) 75 178 true).run Tryz.prog w = .ok (.tuple #[.agg #[.string ⟨#[]⟩], .bool false]) w := by kernel_rfl
theorem taUnitUnit (x : Value) (w : World) : (Instr.typeAssert (.iface 183 x) 75 183 true).run Tryz.prog w = .ok (.tuple #[x, .bool true]) w := by kernel_rfl
theorem taUnitName (x : Value) (w : World) : (Instr.typeAssert (.iface 183 x) 75 185 true).run Tryz.prog w = .ok (.tuple #[.agg #[.int .i32 0, .int .i64 0], .bool false]) w := by kernel_rfl
theorem taUnitMarked (x : Value) (w : World) : (Instr.typeAssert (.iface 183 x) 75 187 true).run Tryz.prog w = .ok (.tuple #[.agg #[.nilIface, .int .i32 0, .int .i64 0], .bool false]) w := by kernel_rfl
theorem taUnitNegated (x : Value) (w : World) : (Instr.typeAssert (.iface 183 x) 75 191 true).run Tryz.prog w = .ok (.tuple #[.agg #[.nilIface], .bool false]) w := by kernel_rfl
theorem taUnitProduct (x : Value) (w : World) : (Instr.typeAssert (.iface 183 x) 75 193 true).run Tryz.prog w = .ok (.tuple #[.agg #[.nilIface, .int .i32 0, .int .i64 0, .nilIface], .bool false]) w := by kernel_rfl
theorem taUnitSum (x : Value) (w : World) : (Instr.typeAssert (.iface 183 x) 75 194 true).run Tryz.prog w = .ok (.tuple #[.agg #[.nilIface, .int .i32 0, .int .i64 0, .nilIface], .bool false]) w := by kernel_rfl
theorem taNameNumeral (x : Value) (w : World) : (Instr.typeAssert (.iface 185 x) 75 178 true).run Tryz.prog w = .ok (.tuple #[.agg #[.string ⟨#[]⟩], .bool false]) w := by kernel_rfl
theorem taNameUnit (x : Value) (w : World) : (Instr.typeAssert (.iface 185 x) 75 183 true).run Tryz.prog w = .ok (.tuple #[.agg #[], .bool false]) w := by kernel_rfl
theorem taNameName (x : Value) (w : World) : (Instr.typeAssert (.iface 185 x) 75 185 true).run Tryz.prog w = .ok (.tuple #[x, .bool true]) w := by kernel_rfl
theorem taNameMarked (x : Value) (w : World) : (Instr.typeAssert (.iface 185 x) 75 187 true).run Tryz.prog w = .ok (.tuple #[.agg #[.nilIface, .int .i32 0, .int .i64 0], .bool false]) w := by kernel_rfl
theorem taNameNegated (x : Value) (w : World) : (Instr.typeAssert (.iface 185 x) 75 191 true).run Tryz.prog w = .ok (.tuple #[.agg #[.nilIface], .bool false]) w := by kernel_rfl
theorem taNameProduct (x : Value) (w : World) : (Instr.typeAssert (.iface 185 x) 75 193 true).run Tryz.prog w = .ok (.tuple #[.agg #[.nilIface, .int .i32 0, .int .i64 0, .nilIface], .bool false]) w := by kernel_rfl
theorem taNameSum (x : Value) (w : World) : (Instr.typeAssert (.iface 185 x) 75 194 true).run Tryz.prog w = .ok (.tuple #[.agg #[.nilIface, .int .i32 0, .int .i64 0, .nilIface], .bool false]) w := by kernel_rfl
theorem taMarkedNumeral (x : Value) (w : World) : (Instr.typeAssert (.iface 187 x) 75 178 true).run Tryz.prog w = .ok (.tuple #[.agg #[.string ⟨#[]⟩], .bool false]) w := by kernel_rfl
theorem taMarkedUnit (x : Value) (w : World) : (Instr.typeAssert (.iface 187 x) 75 183 true).run Tryz.prog w = .ok (.tuple #[.agg #[], .bool false]) w := by kernel_rfl
theorem taMarkedName (x : Value) (w : World) : (Instr.typeAssert (.iface 187 x) 75 185 true).run Tryz.prog w = .ok (.tuple #[.agg #[.int .i32 0, .int .i64 0], .bool false]) w := by kernel_rfl
theorem taMarkedMarked (x : Value) (w : World) : (Instr.typeAssert (.iface 187 x) 75 187 true).run Tryz.prog w = .ok (.tuple #[x, .bool true]) w := by kernel_rfl
theorem taMarkedNegated (x : Value) (w : World) : (Instr.typeAssert (.iface 187 x) 75 191 true).run Tryz.prog w = .ok (.tuple #[.agg #[.nilIface], .bool false]) w := by kernel_rfl
theorem taMarkedProduct (x : Value) (w : World) : (Instr.typeAssert (.iface 187 x) 75 193 true).run Tryz.prog w = .ok (.tuple #[.agg #[.nilIface, .int .i32 0, .int .i64 0, .nilIface], .bool false]) w := by kernel_rfl
theorem taMarkedSum (x : Value) (w : World) : (Instr.typeAssert (.iface 187 x) 75 194 true).run Tryz.prog w = .ok (.tuple #[.agg #[.nilIface, .int .i32 0, .int .i64 0, .nilIface], .bool false]) w := by kernel_rfl
theorem taNegatedNumeral (x : Value) (w : World) : (Instr.typeAssert (.iface 191 x) 75 178 true).run Tryz.prog w = .ok (.tuple #[.agg #[.string ⟨#[]⟩], .bool false]) w := by kernel_rfl
theorem taNegatedUnit (x : Value) (w : World) : (Instr.typeAssert (.iface 191 x) 75 183 true).run Tryz.prog w = .ok (.tuple #[.agg #[], .bool false]) w := by kernel_rfl
theorem taNegatedName (x : Value) (w : World) : (Instr.typeAssert (.iface 191 x) 75 185 true).run Tryz.prog w = .ok (.tuple #[.agg #[.int .i32 0, .int .i64 0], .bool false]) w := by kernel_rfl
theorem taNegatedMarked (x : Value) (w : World) : (Instr.typeAssert (.iface 191 x) 75 187 true).run Tryz.prog w = .ok (.tuple #[.agg #[.nilIface, .int .i32 0, .int .i64 0], .bool false]) w := by kernel_rfl
theorem taNegatedNegated (x : Value) (w : World) : (Instr.typeAssert (.iface 191 x) 75 191 true).run Tryz.prog w = .ok (.tuple #[x, .bool true]) w := by kernel_rfl
theorem taNegatedProduct (x : Value) (w : World) : (Instr.typeAssert (.iface 191 x) 75 193 true).run Tryz.prog w = .ok (.tuple #[.agg #[.nilIface, .int .i32 0, .int .i64 0, .nilIface], .bool false]) w := by kernel_rfl
theorem taNegatedSum (x : Value) (w : World) : (Instr.typeAssert (.iface 191 x) 75 194 true).run Tryz.prog w = .ok (.tuple #[.agg #[.nilIface, .int .i32 0, .int .i64 0, .nilIface], .bool false]) w := by kernel_rfl
theorem taProductNumeral (x : Value) (w : World) : (Instr.typeAssert (.iface 193 x) 75 178 true).run Tryz.prog w = .ok (.tuple #[.agg #[.string ⟨#[]⟩], .bool false]) w := by kernel_rfl
theorem taProductUnit (x : Value) (w : World) : (Instr.typeAssert (.iface 193 x) 75 183 true).run Tryz.prog w = .ok (.tuple #[.agg #[], .bool false]) w := by kernel_rfl
theorem taProductName (x : Value) (w : World) : (Instr.typeAssert (.iface 193 x) 75 185 true).run Tryz.prog w = .ok (.tuple #[.agg #[.int .i32 0, .int .i64 0], .bool false]) w := by kernel_rfl
theorem taProductMarked (x : Value) (w : World) : (Instr.typeAssert (.iface 193 x) 75 187 true).run Tryz.prog w = .ok (.tuple #[.agg #[.nilIface, .int .i32 0, .int .i64 0], .bool false]) w := by kernel_rfl
theorem taProductNegated (x : Value) (w : World) : (Instr.typeAssert (.iface 193 x) 75 191 true).run Tryz.prog w = .ok (.tuple #[.agg #[.nilIface], .bool false]) w := by kernel_rfl
theorem taProductProduct (x : Value) (w : World) : (Instr.typeAssert (.iface 193 x) 75 193 true).run Tryz.prog w = .ok (.tuple #[x, .bool true]) w := by kernel_rfl
theorem taProductSum (x : Value) (w : World) : (Instr.typeAssert (.iface 193 x) 75 194 true).run Tryz.prog w = .ok (.tuple #[.agg #[.nilIface, .int .i32 0, .int .i64 0, .nilIface], .bool false]) w := by kernel_rfl
theorem taSumNumeral (x : Value) (w : World) : (Instr.typeAssert (.iface 194 x) 75 178 true).run Tryz.prog w = .ok (.tuple #[.agg #[.string ⟨#[]⟩], .bool false]) w := by kernel_rfl
theorem taSumUnit (x : Value) (w : World) : (Instr.typeAssert (.iface 194 x) 75 183 true).run Tryz.prog w = .ok (.tuple #[.agg #[], .bool false]) w := by kernel_rfl
theorem taSumName (x : Value) (w : World) : (Instr.typeAssert (.iface 194 x) 75 185 true).run Tryz.prog w = .ok (.tuple #[.agg #[.int .i32 0, .int .i64 0], .bool false]) w := by kernel_rfl
theorem taSumMarked (x : Value) (w : World) : (Instr.typeAssert (.iface 194 x) 75 187 true).run Tryz.prog w = .ok (.tuple #[.agg #[.nilIface, .int .i32 0, .int .i64 0], .bool false]) w := by kernel_rfl
theorem taSumNegated (x : Value) (w : World) : (Instr.typeAssert (.iface 194 x) 75 191 true).run Tryz.prog w = .ok (.tuple #[.agg #[.nilIface], .bool false]) w := by kernel_rfl
theorem taSumProduct (x : Value) (w : World) : (Instr.typeAssert (.iface 194 x) 75 193 true).run Tryz.prog w = .ok (.tuple #[.agg #[.nilIface, .int .i32 0, .int .i64 0, .nilIface], .bool false]) w := by kernel_rfl
theorem taSumSum (x : Value) (w : World) : (Instr.typeAssert (.iface 194 x) 75 194 true).run Tryz.prog w = .ok (.tuple #[x, .bool true]) w := by kernel_rfl

/-! ### levelOf -/
set_option maxHeartbeats 1000000 in
set_option maxRecDepth 1000000 in
theorem levelNumeral (x : Value) (w : World) : Calls Tryz.prog 118 #[.iface 178 x] w fun e w' => e = .returned (.int .i64 3) ∧ w' = w := by
  have qSum := taNumeralSum x
  have qProduct := taNumeralProduct x
  have qNegated := taNumeralNegated x
  go_enter Tryz.func118, Tryz.ntmps118
  go_wp2_with fail
  go_ret
  exact ⟨rfl, rfl⟩
set_option maxHeartbeats 1000000 in
set_option maxRecDepth 1000000 in
theorem levelUnit (x : Value) (w : World) : Calls Tryz.prog 118 #[.iface 183 x] w fun e w' => e = .returned (.int .i64 3) ∧ w' = w := by
  have qSum := taUnitSum x
  have qProduct := taUnitProduct x
  have qNegated := taUnitNegated x
  go_enter Tryz.func118, Tryz.ntmps118
  go_wp2_with fail
  go_ret
  exact ⟨rfl, rfl⟩
set_option maxHeartbeats 1000000 in
set_option maxRecDepth 1000000 in
theorem levelName (x : Value) (w : World) : Calls Tryz.prog 118 #[.iface 185 x] w fun e w' => e = .returned (.int .i64 3) ∧ w' = w := by
  have qSum := taNameSum x
  have qProduct := taNameProduct x
  have qNegated := taNameNegated x
  go_enter Tryz.func118, Tryz.ntmps118
  go_wp2_with fail
  go_ret
  exact ⟨rfl, rfl⟩
set_option maxHeartbeats 1000000 in
set_option maxRecDepth 1000000 in
theorem levelMarked (x : Value) (w : World) : Calls Tryz.prog 118 #[.iface 187 x] w fun e w' => e = .returned (.int .i64 3) ∧ w' = w := by
  have qSum := taMarkedSum x
  have qProduct := taMarkedProduct x
  have qNegated := taMarkedNegated x
  go_enter Tryz.func118, Tryz.ntmps118
  go_wp2_with fail
  go_ret
  exact ⟨rfl, rfl⟩
set_option maxHeartbeats 1000000 in
set_option maxRecDepth 1000000 in
theorem levelNegated (x : Value) (w : World) : Calls Tryz.prog 118 #[.iface 191 x] w fun e w' => e = .returned (.int .i64 2) ∧ w' = w := by
  have qSum := taNegatedSum x
  have qProduct := taNegatedProduct x
  have qNegated := taNegatedNegated x
  go_enter Tryz.func118, Tryz.ntmps118
  go_wp2_with fail
  go_ret
  exact ⟨rfl, rfl⟩
set_option maxHeartbeats 1000000 in
set_option maxRecDepth 1000000 in
theorem levelProduct (x : Value) (w : World) : Calls Tryz.prog 118 #[.iface 193 x] w fun e w' => e = .returned (.int .i64 1) ∧ w' = w := by
  have qSum := taProductSum x
  have qProduct := taProductProduct x
  go_enter Tryz.func118, Tryz.ntmps118
  go_wp2_with fail
  go_ret
  exact ⟨rfl, rfl⟩
set_option maxHeartbeats 1000000 in
set_option maxRecDepth 1000000 in
theorem levelSum (x : Value) (w : World) : Calls Tryz.prog 118 #[.iface 194 x] w fun e w' => e = .returned (.int .i64 0) ∧ w' = w := by
  have qSum := taSumSum x
  go_enter Tryz.func118, Tryz.ntmps118
  go_wp2_with fail
  go_ret
  exact ⟨rfl, rfl⟩
theorem levelOf_any (n : Nd) (a b : Value) (w : World) : Calls Tryz.prog 118 #[nodeD n a b] w fun e w' => e = .returned (.int .i64 (rankP n.op)) ∧ w' = w := by
  unfold nodeD rankP
  by_cases c1 : n.op = 43 ∨ n.op = 8722
  · rw [if_pos c1, if_pos c1]; exact levelSum _ w
  · rw [if_neg c1, if_neg c1]
    by_cases c2 : n.op = 215 ∨ n.op = 247
    · rw [if_pos c2, if_pos c2]; exact levelProduct _ w
    · rw [if_neg c2, if_neg c2]
      by_cases c3 : n.op = 110
      · rw [if_pos c3, if_pos c3]; exact levelNegated _ w
      · rw [if_neg c3, if_neg c3]
        by_cases c4 : n.op = 178 ∨ n.op = 8242
        · rw [if_pos c4]; exact levelMarked _ w
        · rw [if_neg c4]
          by_cases c5 : n.op = 48
          · rw [if_pos c5]; exact levelNumeral _ w
          · rw [if_neg c5]
            by_cases c6 : n.op = 105
            · rw [if_pos c6]; exact levelUnit _ w
            · rw [if_neg c6]; exact levelName _ w
end Go.Proofs.YtodabmkcihafhaaGreatDoor

/- The document's fractions: abs, lowest, made, plus, less, times. -/
namespace Go.Proofs.YtodabmkcihafhaaGreatDoor
open Go.RowKit
set_option linter.unusedVariables false

set_option maxHeartbeats 400000 in
theorem rabs_any (n : Int) (w : World) (h1 : -4000000000000 ≤ n) (h2 : n ≤ 4000000000000) : Calls Tryz.prog 88 #[.int .i64 n] w fun e w' => e = .returned (.int .i64 n.natAbs) ∧ w' = w := by
  by_cases h : n < 0
  · have HN : Hid (-n = (n.natAbs : Int)) := by show -n = _; omega
    go_enter Tryz.func88, Tryz.ntmps88
    go_wp2_with fail
    go_ret
    rw [← HN.out]
    exact ⟨rfl, rfl⟩
  · have HN : Hid (n = (n.natAbs : Int)) := by show n = _; omega
    go_enter Tryz.func88, Tryz.ntmps88
    go_wp2_with fail
    go_ret
    refine ⟨?_, rfl⟩
    rw [← HN.out]
    rfl
def rlowV (n d : Int) : Value := .tuple #[.agg #[.int .i64 (lowP n d).n, .int .i64 (lowP n d).d], .bool (!mkB n d)]
theorem big_iff (f : Fr) (hd : 0 < f.d) : (!f.big) = (decide ((f.n.natAbs : Int) ≤ 999999) && decide (f.d ≤ 999999)) := by
  unfold Fr.big
  by_cases h1 : (f.n.natAbs : Int) ≤ 999999
  · by_cases h2 : f.d ≤ 999999
    · have : ¬ (f.n > 999999 ∨ f.n < -999999 ∨ f.d > 999999) := by omega
      simp [h1, h2, this]
    · have : f.n > 999999 ∨ f.n < -999999 ∨ f.d > 999999 := by omega
      simp [h2]
      omega
  · have : f.n > 999999 ∨ f.n < -999999 ∨ f.d > 999999 := by omega
    simp [h1, this]
set_option maxHeartbeats 2000000 in
theorem rlow_any (n d : Int) (w : World) (h1 : -4000000000000 ≤ n) (h2 : n ≤ 4000000000000) (h3 : 0 < d) (h4 : d ≤ 4000000000000) :
    Calls Tryz.prog 61 #[.int .i64 n, .int .i64 d] w fun e w' => e = .returned (rlowV n d) ∧ Below w.heap.size w w' := by
  have hg0 := gcdP_pos (n := n) h3
  have hgl := gcd_le n d h3
  have q1 : n.tdiv (gcdP n d) = (lowP n d).n := Int.tdiv_eq_ediv_of_dvd (gcdP_dvd_n n d)
  have q2 : d.tdiv (gcdP n d) = (lowP n d).d := Int.tdiv_eq_ediv_of_dvd (gcdP_dvd_d n d)
  have hla := low_abs (n := n) h3
  have hld := low_d_pos (n := n) h3
  have hw3 : wrap64 (lowP n d).n = (lowP n d).n := by unfold wrap64; omega
  have hw4 : wrap64 (lowP n d).d = (lowP n d).d := by unfold wrap64; omega
  have HB : Hid ((!mkB n d) = (decide (((lowP n d).n.natAbs : Int) ≤ 999999) && decide ((lowP n d).d ≤ 999999))) := big_iff _ hld
  have HG : Hid (gcdP n d = ((Nat.gcd n.natAbs d.natAbs : Nat) : Int)) := rfl
  have HV : Hid (rlowV n d = .tuple #[.agg #[.int .i64 (lowP n d).n, .int .i64 (lowP n d).d], .bool (!mkB n d)]) := rfl
  have ca := fun W => rabs_any (lowP n d).n W (by omega) (by omega)
  generalize rlowV n d = V at *
  generalize (!mkB n d) = NB at *
  generalize hgg : gcdP n d = g at *
  generalize hll : lowP n d = l at *
  clear hgg hll
  have HQ : Hid (n.tdiv g = l.n ∧ d.tdiv g = l.d ∧ wrap64 l.n = l.n ∧ wrap64 l.d = l.d) := ⟨q1, q2, hw3, hw4⟩
  have HA : Hid (∀ W, Calls Tryz.prog 88 #[.int .i64 l.n] W fun e w' => e = .returned (.int .i64 l.n.natAbs) ∧ w' = W) := ca
  clear q1 q2 hw3 hw4 ca
  have ca1 := rabs_any n (w.alloc (.cells #[.int .i64 0, .int .i64 0] 90)) h1 h2
  have ca2 := rabs_any d (w.alloc (.cells #[.int .i64 0, .int .i64 0] 90)) (by omega) h4
  go_enter Tryz.func61, Tryz.ntmps61
  go_wp2_with fail
  refine ca1.mono ?_
  rintro e w1 ⟨rfl, hw1⟩
  have hw1 := hw1.symm
  subst hw1
  go_wp2_with fail
  refine ca2.mono ?_
  rintro e w1 ⟨rfl, hw1⟩
  have hw1 := hw1.symm
  subst hw1
  clear ca1 ca2
  go_wp2_with fail
  go_loopg [6, 7] d.natAbs (fun g s6 s7 wr => ∃ a b : Nat, s6 = .int .i64 a ∧ s7 = .int .i64 b ∧ Hid (Nat.gcd a b = Nat.gcd n.natAbs d.natAbs) ∧ a ≤ 4000000000000 ∧ b ≤ 4000000000000 ∧ Hid (b = g) ∧ wr = w.alloc (.cells #[.int .i64 0, .int .i64 0] 90))
  case atStart =>
    exact ⟨n.natAbs, d.natAbs, rfl, rfl, rfl, by omega, by omega, rfl, rfl⟩
  case round =>
    obtain ⟨a, b, rfl, rfl, HI, ha, hb, hg, rfl⟩ := hrel
    by_cases hb0 : b = 0
    · subst hb0
      have hag : (a : Int) = g := by rw [HG.out, ← HI.out, Nat.gcd_zero_right]
      have HAG := hidMk hag
      have q3 : ¬ g = 0 := by omega
      have q4 : (g == 0) = false := by simpa using q3
      have q5 : ¬ d < 0 := by omega
      clear hag
      rw [HAG.out]
      obtain ⟨qq1, qq2, qq3, qq4⟩ := HQ.out
      go_wp2_with fail
      go_region
      have hW0 : Hid ((((w.alloc (.cells #[.int .i64 0, .int .i64 0] 90)).alloc (.cells #[.int .i64 l.n, .int .i64 l.d] 90)).drew.drew).heap[w.heap.size]? = some (.cells #[.int .i64 0, .int .i64 0] 90 (0, 0)) ∧ (((w.alloc (.cells #[.int .i64 0, .int .i64 0] 90)).alloc (.cells #[.int .i64 l.n, .int .i64 l.d] 90)).drew.drew).heap[w.heap.size + 1]? = some (.cells #[.int .i64 l.n, .int .i64 l.d] 90 (0, 0)) ∧ Below w.heap.size w (((w.alloc (.cells #[.int .i64 0, .int .i64 0] 90)).alloc (.cells #[.int .i64 l.n, .int .i64 l.d] 90)).drew.drew)) := by
        refine ⟨?_, ?_, ?_⟩
        · show ((w.alloc _).alloc _).heap[_]? = _
          rw [Below.heap_alloc _ _ _ (by simp)]
          exact heap_alloc_new w _
        · have := heap_alloc_new (w.alloc (.cells #[.int .i64 0, .int .i64 0] 90)) (.cells #[.int .i64 l.n, .int .i64 l.d] 90)
          show ((w.alloc _).alloc _).heap[_]? = _
          simpa using this
        · exact ((((Below.refl _ w).alloc (Nat.le_refl _) _).alloc (by simp) _).drew).drew
      go_wp2_with fail
      by_cases hbn : (l.n.natAbs : Int) ≤ 999999
      · have hbd : decide ((l.n.natAbs : Int) ≤ 999999) = true := by simpa using hbn
        refine region_inv (nt := 42)
          (fun s => match s with
            | 0 => .int .i64 n
            | 1 => .int .i64 d
            | 4 => .pointer (some ⟨w.heap.size, 0, none⟩)
            | 5 => .bool false
            | 6 => .int .i64 g
            | 7 => .int .i64 0
            | 8 => u8
            | 9 => .pointer (some ⟨w.heap.size + 1, 0, none⟩)
            | 10 => .int .i64 n
            | 11 => .int .i64 n.natAbs
            | 12 => .int .i64 d
            | 13 => .int .i64 d.natAbs
            | 14 => .int .i64 0
            | 15 => .bool false
            | 16 => u16
            | 17 => u17
            | 18 => u18
            | 19 => u19
            | 20 => u20
            | 21 => .int .i64 d
            | 22 => .bool false
            | 25 => .int .i64 n
            | 26 => .int .i64 g
            | 27 => .int .i64 l.n
            | 28 => .int .i64 d
            | 29 => .int .i64 g
            | 30 => .int .i64 l.d
            | 31 => .agg #[.int .i64 l.n, .int .i64 l.d]
            | _ => undef)
          (fun k v => match k with
            | 0 => v = .agg #[.int .i64 l.n, .int .i64 l.d]
            | 1 => v = .pointer (some ⟨w.heap.size + 1, 0, none⟩)
            | 2 => v = .int .i64 l.n
            | 3 => v = .int .i64 l.n.natAbs
            | 4 => v = .bool true
            | 5 => v = .bool true
            | 6 => v = .pointer (some ⟨w.heap.size + 1, 1, none⟩)
            | 7 => v = .int .i64 l.d
            | 8 => v = .bool (decide (l.d ≤ 999999))
            | 9 => v = .bool (decide (l.d ≤ 999999))
            | 11 => v = .bool (decide (l.d ≤ 999999))
            | _ => True)
          (fun b u w' => Hid (w'.heap[w.heap.size]? = some (.cells (if b 10 = true then #[.int .i64 l.n, .int .i64 l.d] else #[.int .i64 0, .int .i64 0]) 90 (0, 0)) ∧ w'.heap[w.heap.size + 1]? = some (.cells #[.int .i64 l.n, .int .i64 l.d] 90 (0, 0)) ∧ Below w.heap.size w w'))
          rfl (by kernel_rfl) (by kernel_rfl) (by kernel_rfl) hW0 ?_ ?_
        · intro i o b u w' ho hbi hall hU hW K hK
          have hA : actOf 42 u = ⟨#[u 0, u 1, u 2, u 3, u 4, u 5, u 6, u 7, u 8, u 9, u 10, u 11, u 12, u 13, u 14, u 15, u 16, u 17, u 18, u 19, u 20, u 21, u 22, u 23, u 24, u 25, u 26, u 27, u 28, u 29, u 30, u 31, u 32, u 33, u 34, u 35, u 36, u 37, u 38, u 39, u 40, u 41], []⟩ := rfl
          rw [hA] at hK ⊢
          have c4 : u 4 = .pointer (some ⟨w.heap.size, 0, none⟩) := hU.oldB 4 (by kernel_rfl)
          have c9 : u 9 = .pointer (some ⟨w.heap.size + 1, 0, none⟩) := hU.oldB 9 (by kernel_rfl)
          have got := hU.got
          clear hU hA hW0
          obtain ⟨hz, hf, hb⟩ := hW.out
          obtain ⟨y0, y1, _, _⟩ := two_cells hf
          have HKK := hidMk hK
          have HW := hidMk hW.out
          clear hK hf hW
          rcases i with _ | _ | _ | _ | _ | _ | _ | _ | _ | _ | _ | _ | i
          · cases ho
            clear hz
            go_simp
            exact HKK.out _ _ _ (by rw [c4, c9]; rfl) (fun _ => rfl) HW.out
          · cases ho
            clear hz
            go_simp
            exact HKK.out _ _ _ (by rw [c4, c9]; rfl) (fun _ => rfl) HW.out
          · cases ho
            have g33 : u 33 = .pointer (some ⟨w.heap.size + 1, 0, none⟩) := got 1 33 rfl (hall ⟨1, .data⟩ (by simp) rfl)
            clear hz
            go_simp
            exact HKK.out _ _ _ (by rw [c4, c9, g33]; rfl) (fun _ => rfl) HW.out
          · cases ho
            have g34 : u 34 = .int .i64 l.n := got 2 34 rfl (hall ⟨2, .data⟩ (by simp) rfl)
            clear hz
            go_simp
            refine (HA.out _).mono ?_
            rintro e w2 ⟨rfl, rfl⟩
            exact HKK.out _ _ _ (by rw [c4, c9, g34]; rfl) (fun _ => rfl) HW.out
          · cases ho
            have g35 : u 35 = .int .i64 l.n.natAbs := got 3 35 rfl (hall ⟨3, .data⟩ (by simp) rfl)
            clear hz
            go_simp
            exact HKK.out (.bool true) _ _ (by rw [c4, c9, g35]; rfl) (fun _ => rfl) HW.out
          · cases ho
            have g36 : u 36 = .bool true := got 4 36 rfl (hall ⟨4, .data⟩ (by simp) rfl)
            clear hz
            go_simp
            exact HKK.out _ _ _ (by rw [c4, c9, g36]; rfl) (fun _ => rfl) HW.out
          · cases ho
            have g37 : u 37 = .bool true := got 5 37 rfl (hall ⟨5, .guard⟩ (by simp) rfl)
            clear hz
            go_simp
            exact HKK.out _ _ _ (by rw [c4, c9, g37]; rfl) (fun _ => rfl) HW.out
          · cases ho
            have g38 : u 38 = .pointer (some ⟨w.heap.size + 1, 1, none⟩) := got 6 38 rfl (hall ⟨6, .data⟩ (by simp) rfl)
            have g37 : u 37 = .bool true := got 5 37 rfl (hall ⟨5, .guard⟩ (by simp) rfl)
            clear hz
            go_simp
            exact HKK.out _ _ _ (by rw [c4, c9, g38, g37]; rfl) (fun _ => rfl) HW.out
          · cases ho
            have g39 : u 39 = .int .i64 l.d := got 7 39 rfl (hall ⟨7, .data⟩ (by simp) rfl)
            have g37 : u 37 = .bool true := got 5 37 rfl (hall ⟨5, .guard⟩ (by simp) rfl)
            clear hz
            go_simp
            exact HKK.out _ _ _ (by rw [c4, c9, g39, g37]; rfl) (fun _ => rfl) HW.out
          · cases ho
            have g37 : u 37 = .bool true := got 5 37 rfl (hall ⟨5, .data⟩ (by simp) rfl)
            have g40 : u 40 = .bool (decide (l.d ≤ 999999)) := got 8 40 rfl (hall ⟨8, .data⟩ (by simp) rfl)
            clear hz
            go_simp
            exact HKK.out _ _ _ (by rw [c4, c9, g37, g40]; rfl) (fun _ => rfl) HW.out
          · cases ho
            have g32 : u 32 = .agg #[.int .i64 l.n, .int .i64 l.d] := got 0 32 rfl (hall ⟨0, .data⟩ (by simp) rfl)
            rw [if_neg (by rw [hbi]; decide)] at hz
            obtain ⟨z0, z1, fz0, fz1⟩ := two_cells hz
            have HZ := hidMk hz
            clear hz
            go_simp
            refine HKK.out undef _ _ (by rw [c4, c9, g32]; rfl) (fun h => by cases h) ⟨?_, ?_, ?_⟩
            · rw [if_pos (by simp [upB])]; exact two_set HZ.out _ _
            · rw [Below.heap_setCell _ _ _ _ (by simp), Below.heap_setCell _ _ _ _ (by simp)]; exact HW.out.2.1
            · exact (HW.out.2.2.setCell (p := ⟨w.heap.size, 0, none⟩) (Nat.le_refl _) _).setCell (p := ⟨w.heap.size, 1, none⟩) (Nat.le_refl _) _
          · cases ho
            have g41 : u 41 = .bool (decide (l.d ≤ 999999)) := got 9 41 rfl (hall ⟨9, .data⟩ (by simp) rfl)
            clear hz
            go_simp
            exact HKK.out _ _ _ (by rw [c4, c9, g41]; rfl) (fun _ => rfl) HW.out
          · simp at ho
        · intro b1 u1 w1 hb1 hU1 hW1
          obtain ⟨hz, _, hb⟩ := hW1.out
          rw [if_pos (hb1 10 (by decide))] at hz
          obtain ⟨z0, z1, _, _⟩ := two_cells hz
          have k4 : u1 4 = .pointer (some ⟨w.heap.size, 0, none⟩) := hU1.oldB 4 (by kernel_rfl)
          have k5 : u1 5 = .bool (decide (l.d ≤ 999999)) := hU1.got 11 5 rfl (hb1 11 (by decide))
          have hA1 : actOf 42 u1 = ⟨#[u1 0, u1 1, u1 2, u1 3, u1 4, u1 5, u1 6, u1 7, u1 8, u1 9, u1 10, u1 11, u1 12, u1 13, u1 14, u1 15, u1 16, u1 17, u1 18, u1 19, u1 20, u1 21, u1 22, u1 23, u1 24, u1 25, u1 26, u1 27, u1 28, u1 29, u1 30, u1 31, u1 32, u1 33, u1 34, u1 35, u1 36, u1 37, u1 38, u1 39, u1 40, u1 41], []⟩ := rfl
          rw [hA1, k4, k5]
          have HBD := hidMk hbd
          clear hA1 k4 k5 hW1 hU1 hb1 hz HA hW0 hbd hbn
          go_wp2_with fail
          refine bodyPost_ret (v := .tuple #[.agg #[.int .i64 l.n, .int .i64 l.d], .bool (decide (l.d ≤ 999999))]) (by simp [results, Tryz.results61, go_sem, z0, z1]) rfl ?_
          rw [HV.out, HB.out, HBD.out]
          exact ⟨rfl, hb⟩
      · have hbd : decide ((l.n.natAbs : Int) ≤ 999999) = false := by simpa using hbn
        refine region_inv (nt := 42)
          (fun s => match s with
            | 0 => .int .i64 n
            | 1 => .int .i64 d
            | 4 => .pointer (some ⟨w.heap.size, 0, none⟩)
            | 5 => .bool false
            | 6 => .int .i64 g
            | 7 => .int .i64 0
            | 8 => u8
            | 9 => .pointer (some ⟨w.heap.size + 1, 0, none⟩)
            | 10 => .int .i64 n
            | 11 => .int .i64 n.natAbs
            | 12 => .int .i64 d
            | 13 => .int .i64 d.natAbs
            | 14 => .int .i64 0
            | 15 => .bool false
            | 16 => u16
            | 17 => u17
            | 18 => u18
            | 19 => u19
            | 20 => u20
            | 21 => .int .i64 d
            | 22 => .bool false
            | 25 => .int .i64 n
            | 26 => .int .i64 g
            | 27 => .int .i64 l.n
            | 28 => .int .i64 d
            | 29 => .int .i64 g
            | 30 => .int .i64 l.d
            | 31 => .agg #[.int .i64 l.n, .int .i64 l.d]
            | _ => undef)
          (fun k v => match k with
            | 0 => v = .agg #[.int .i64 l.n, .int .i64 l.d]
            | 1 => v = .pointer (some ⟨w.heap.size + 1, 0, none⟩)
            | 2 => v = .int .i64 l.n
            | 3 => v = .int .i64 l.n.natAbs
            | 4 => v = .bool false
            | 5 => v = .bool false
            | 6 => v = undef
            | 7 => v = undef
            | 8 => v = undef
            | 9 => v = .bool false
            | 11 => v = .bool false
            | _ => True)
          (fun b u w' => Hid (w'.heap[w.heap.size]? = some (.cells (if b 10 = true then #[.int .i64 l.n, .int .i64 l.d] else #[.int .i64 0, .int .i64 0]) 90 (0, 0)) ∧ w'.heap[w.heap.size + 1]? = some (.cells #[.int .i64 l.n, .int .i64 l.d] 90 (0, 0)) ∧ Below w.heap.size w w'))
          rfl (by kernel_rfl) (by kernel_rfl) (by kernel_rfl) hW0 ?_ ?_
        · intro i o b u w' ho hbi hall hU hW K hK
          have hA : actOf 42 u = ⟨#[u 0, u 1, u 2, u 3, u 4, u 5, u 6, u 7, u 8, u 9, u 10, u 11, u 12, u 13, u 14, u 15, u 16, u 17, u 18, u 19, u 20, u 21, u 22, u 23, u 24, u 25, u 26, u 27, u 28, u 29, u 30, u 31, u 32, u 33, u 34, u 35, u 36, u 37, u 38, u 39, u 40, u 41], []⟩ := rfl
          rw [hA] at hK ⊢
          have c4 : u 4 = .pointer (some ⟨w.heap.size, 0, none⟩) := hU.oldB 4 (by kernel_rfl)
          have c9 : u 9 = .pointer (some ⟨w.heap.size + 1, 0, none⟩) := hU.oldB 9 (by kernel_rfl)
          have got := hU.got
          clear hU hA hW0
          obtain ⟨hz, hf, hb⟩ := hW.out
          obtain ⟨y0, y1, _, _⟩ := two_cells hf
          have HKK := hidMk hK
          have HW := hidMk hW.out
          clear hK hf hW
          rcases i with _ | _ | _ | _ | _ | _ | _ | _ | _ | _ | _ | _ | i
          · cases ho
            clear hz
            go_simp
            exact HKK.out _ _ _ (by rw [c4, c9]; rfl) (fun _ => rfl) HW.out
          · cases ho
            clear hz
            go_simp
            exact HKK.out _ _ _ (by rw [c4, c9]; rfl) (fun _ => rfl) HW.out
          · cases ho
            have g33 : u 33 = .pointer (some ⟨w.heap.size + 1, 0, none⟩) := got 1 33 rfl (hall ⟨1, .data⟩ (by simp) rfl)
            clear hz
            go_simp
            exact HKK.out _ _ _ (by rw [c4, c9, g33]; rfl) (fun _ => rfl) HW.out
          · cases ho
            have g34 : u 34 = .int .i64 l.n := got 2 34 rfl (hall ⟨2, .data⟩ (by simp) rfl)
            clear hz
            go_simp
            refine (HA.out _).mono ?_
            rintro e w2 ⟨rfl, rfl⟩
            exact HKK.out _ _ _ (by rw [c4, c9, g34]; rfl) (fun _ => rfl) HW.out
          · cases ho
            have g35 : u 35 = .int .i64 l.n.natAbs := got 3 35 rfl (hall ⟨3, .data⟩ (by simp) rfl)
            clear hz
            go_simp
            exact HKK.out (.bool false) _ _ (by rw [c4, c9, g35]; rfl) (fun _ => rfl) HW.out
          · cases ho
            have g36 : u 36 = .bool false := got 4 36 rfl (hall ⟨4, .data⟩ (by simp) rfl)
            clear hz
            go_simp
            exact HKK.out _ _ _ (by rw [c4, c9, g36]; rfl) (fun _ => rfl) HW.out
          · cases ho
            have g37 : u 37 = .bool false := got 5 37 rfl (hall ⟨5, .guard⟩ (by simp) rfl)
            clear hz
            go_simp
            exact HKK.out undef _ _ (by rw [c4, c9, g37]; rfl) (fun _ => rfl) HW.out
          · cases ho
            have g38 : u 38 = undef := got 6 38 rfl (hall ⟨6, .data⟩ (by simp) rfl)
            have g37 : u 37 = .bool false := got 5 37 rfl (hall ⟨5, .guard⟩ (by simp) rfl)
            clear hz
            go_simp
            exact HKK.out undef _ _ (by rw [c4, c9, g38, g37]; rfl) (fun _ => rfl) HW.out
          · cases ho
            have g39 : u 39 = undef := got 7 39 rfl (hall ⟨7, .data⟩ (by simp) rfl)
            have g37 : u 37 = .bool false := got 5 37 rfl (hall ⟨5, .guard⟩ (by simp) rfl)
            clear hz
            go_simp
            exact HKK.out undef _ _ (by rw [c4, c9, g39, g37]; rfl) (fun _ => rfl) HW.out
          · cases ho
            have g37 : u 37 = .bool false := got 5 37 rfl (hall ⟨5, .data⟩ (by simp) rfl)
            have g40 : u 40 = undef := got 8 40 rfl (hall ⟨8, .data⟩ (by simp) rfl)
            clear hz
            go_simp
            exact HKK.out _ _ _ (by rw [c4, c9, g37, g40]; rfl) (fun _ => rfl) HW.out
          · cases ho
            have g32 : u 32 = .agg #[.int .i64 l.n, .int .i64 l.d] := got 0 32 rfl (hall ⟨0, .data⟩ (by simp) rfl)
            rw [if_neg (by rw [hbi]; decide)] at hz
            obtain ⟨z0, z1, fz0, fz1⟩ := two_cells hz
            have HZ := hidMk hz
            clear hz
            go_simp
            refine HKK.out undef _ _ (by rw [c4, c9, g32]; rfl) (fun h => by cases h) ⟨?_, ?_, ?_⟩
            · rw [if_pos (by simp [upB])]; exact two_set HZ.out _ _
            · rw [Below.heap_setCell _ _ _ _ (by simp), Below.heap_setCell _ _ _ _ (by simp)]; exact HW.out.2.1
            · exact (HW.out.2.2.setCell (p := ⟨w.heap.size, 0, none⟩) (Nat.le_refl _) _).setCell (p := ⟨w.heap.size, 1, none⟩) (Nat.le_refl _) _
          · cases ho
            have g41 : u 41 = .bool false := got 9 41 rfl (hall ⟨9, .data⟩ (by simp) rfl)
            clear hz
            go_simp
            exact HKK.out _ _ _ (by rw [c4, c9, g41]; rfl) (fun _ => rfl) HW.out
          · simp at ho
        · intro b1 u1 w1 hb1 hU1 hW1
          obtain ⟨hz, _, hb⟩ := hW1.out
          rw [if_pos (hb1 10 (by decide))] at hz
          obtain ⟨z0, z1, _, _⟩ := two_cells hz
          have k4 : u1 4 = .pointer (some ⟨w.heap.size, 0, none⟩) := hU1.oldB 4 (by kernel_rfl)
          have k5 : u1 5 = .bool false := hU1.got 11 5 rfl (hb1 11 (by decide))
          have hA1 : actOf 42 u1 = ⟨#[u1 0, u1 1, u1 2, u1 3, u1 4, u1 5, u1 6, u1 7, u1 8, u1 9, u1 10, u1 11, u1 12, u1 13, u1 14, u1 15, u1 16, u1 17, u1 18, u1 19, u1 20, u1 21, u1 22, u1 23, u1 24, u1 25, u1 26, u1 27, u1 28, u1 29, u1 30, u1 31, u1 32, u1 33, u1 34, u1 35, u1 36, u1 37, u1 38, u1 39, u1 40, u1 41], []⟩ := rfl
          rw [hA1, k4, k5]
          have HBD := hidMk hbd
          clear hA1 k4 k5 hW1 hU1 hb1 hz HA hW0 hbd hbn
          go_wp2_with fail
          refine bodyPost_ret (v := .tuple #[.agg #[.int .i64 l.n, .int .i64 l.d], .bool false]) (by simp [results, Tryz.results61, go_sem, z0, z1]) rfl ?_
          rw [HV.out, HB.out, HBD.out]
          exact ⟨rfl, hb⟩
    · have q1 : (0 : Int) < (b : Int) := by omega
      have q2 : ¬ (b : Int) = 0 := by omega
      go_wp2_with fail
      go_roundg (a % b)
      case measure => have := Nat.mod_lt a (show 0 < b by omega); have := hg.out; omega
      case rel =>
        refine ⟨b, a % b, rfl, rfl, ?_, hb, ?_, rfl, rfl⟩
        · show Nat.gcd b (a % b) = _
          rw [gcd_step']; exact HI.out
        · have := Nat.mod_le a b; omega
end Go.Proofs.YtodabmkcihafhaaGreatDoor
