/-
Proved: the reference's PackOf returns the bytes that Pack returns, and changes nothing that was there. Condition: the words are uint64 values.
-/
import Derived.Test.YtgmcopadokojfaaWords3
namespace Go.Proofs.Ytgmcopadokojfaa
open Go.ChangeShapes Go.WideShapes Go.ChangeAt Go.RowKit Go.Joins

/-- A word that was divided k times. -/
def cutW (v : Int) : Nat → Int
  | 0 => v
  | k + 1 => cutW v k / 256

/-- The last k bytes of a word. -/
def lowL (v : Int) : Nat → List UInt8
  | 0 => []
  | k + 1 => UInt8.ofNat (cutW v k % 256).toNat :: lowL v k

/-- The bytes of the first k words. -/
def outL (f : Nat → Int) : Nat → List UInt8
  | 0 => []
  | k + 1 => outL f k ++ lowL (f k) 8

theorem cutW_range (v : Int) (h : U64 v) : ∀ k, U64 (cutW v k)
  | 0 => h
  | k + 1 => by
    have := cutW_range v h k
    simp only [U64, cutW] at *
    omega

theorem lowL_length (v : Int) : ∀ k, (lowL v k).length = k
  | 0 => rfl
  | k + 1 => by simp [lowL, lowL_length v k]

theorem outL_length (f : Nat → Int) : ∀ k, (outL f k).length = 8 * k
  | 0 => rfl
  | k + 1 => by simp [outL, outL_length f k, lowL_length]; omega

theorem outL_packL (a b c d : Int) : outL (fun m => wordAt a b c d m) 4 = packL a b c d := by
  simp only [outL, lowL, packL, List.nil_append, List.cons_append, cutW]
  have hr : List.range 32 = [0, 1, 2, 3, 4, 5, 6, 7, 8, 9, 10, 11, 12, 13, 14, 15, 16, 17, 18, 19, 20, 21, 22, 23, 24, 25, 26, 27, 28, 29, 30, 31] := by decide
  rw [hr]
  simp only [List.map_cons, List.map_nil, packAt, farAt, wordAt]
  simp
  repeat' apply And.intro
  all_goals (congr 2; omega)

/-- A string of bytes. -/
abbrev strOf (l : List UInt8) : Value := .string ⟨l.toArray⟩

theorem idxLine0 (a b c d : Int) (w : World) : (Instr.index 24 (line a b c d) (.int .i64 0)).run Try.prog w = .ok (.int .u64 a) w := by kernel_rfl
theorem idxLine1 (a b c d : Int) (w : World) : (Instr.index 24 (line a b c d) (.int .i64 1)).run Try.prog w = .ok (.int .u64 b) w := by kernel_rfl
theorem idxLine2 (a b c d : Int) (w : World) : (Instr.index 24 (line a b c d) (.int .i64 2)).run Try.prog w = .ok (.int .u64 c) w := by kernel_rfl
theorem idxLine3 (a b c d : Int) (w : World) : (Instr.index 24 (line a b c d) (.int .i64 3)).run Try.prog w = .ok (.int .u64 d) w := by kernel_rfl
theorem idxLine (a b c d : Int) (m : Nat) (h : m < 4) (w : World) : (Instr.index 24 (line a b c d) (.int .i64 m)).run Try.prog w = .ok (.int .u64 (wordAt a b c d m)) w := by
  match m, h with
  | 0, _ => exact idxLine0 a b c d w
  | 1, _ => exact idxLine1 a b c d w
  | 2, _ => exact idxLine2 a b c d w
  | 3, _ => exact idxLine3 a b c d w

theorem conv1 (w : World) (x : Int) (h0 : 0 ≤ x) (h1 : x < 256) : (convert 42 9 (.slice (some ⟨w.heap.size, 0, none⟩) 1 1)).run Try.prog (w.alloc (.cells #[.int .u8 x] 5)) = .ok (strOf [UInt8.ofNat x.toNat]) (w.alloc (.cells #[.int .u8 x] 5)) := by
  refine run_convert_bytes_back (P := Try.prog) _ 42 9 5 ⟨w.heap.size, 0, none⟩ 1 [UInt8.ofNat x.toNat] Try.underlying42 Try.underlying5 Try.underlying9 (fun j hj => ?_)
  obtain rfl : j = 0 := by simpa using hj
  refine ((Box.new w 5 #[.int .u8 x]).at_ 0 rfl).trans ?_
  simp only [List.getElem_cons_zero]
  rw [UInt8.toNat_ofNat_of_lt' (by show _ < 256; omega)]
  rw [Int.toNat_of_nonneg h0]
  rfl

set_option maxHeartbeats 1000000 in
theorem packOf_any (a b c d : Int) (w : World) (ha : U64 a) (hb : U64 b) (hc : U64 c) (hd : U64 d) :
    Calls Try.prog 11 #[line a b c d] w fun e w' => e = .returned (.string (packS a b c d)) ∧ Below w.heap.size w w' := by
  have low := gAlloc (Below.refl w.heap.size w) (.cells #[.int .u64 a, .int .u64 b, .int .u64 c, .int .u64 d] 24)
  have hU : ∀ m : Nat, m < 4 → U64 (wordAt a b c d m) := fun m hm => by
    match m, hm with
    | 0, _ => exact ha
    | 1, _ => exact hb
    | 2, _ => exact hc
    | 3, _ => exact hd
  have HU := Lib.hid hU
  clear hU ha hb hc hd
  go_enter Try.func11, Try.ntmps11
  go_wp2_with fail
  go_loopw [3, 8] (fun o i wx => ∃ k : Nat, k ≤ 4 ∧ i = .int .i64 k ∧ o = strOf (outL (fun m => wordAt a b c d m) k) ∧ Below w.heap.size w wx) (fun _ i _ => 4 - (intOf i).toNat)
  case atStart => exact ⟨0, Nat.zero_le _, rfl, rfl, low⟩
  case round =>
    obtain ⟨k, hk, rfl, rfl, low⟩ := hrel
    by_cases hlt : k < 4
    · have hx := idxLine a b c d k hlt
      have hv := HU.out k hlt
      generalize hV : wordAt a b c d k = v at hx hv
      have HV := Lib.hid hV
      clear hV
      have HR := Lib.hid (cutW_range v hv)
      have hki : (k : Int) < 4 := by omega
      go_wp2_with fail
      go_loopw [5, 6, 11] (fun x s i wx => ∃ j : Nat, j ≤ 8 ∧ i = .int .i64 j ∧ x = .int .u64 (cutW v j) ∧ s = strOf (lowL v j) ∧ Below w.heap.size w wx) (fun _ _ i _ => 8 - (intOf i).toNat)
      case atStart => exact ⟨0, Nat.zero_le _, rfl, rfl, rfl, low⟩
      case round =>
        obtain ⟨j, hj, rfl, rfl, rfl, low⟩ := hrel
        by_cases hlt2 : j < 8
        · obtain ⟨r0, r1⟩ := HR.out j
          have hji : (j : Int) < 8 := by omega
          have hz := conv1 wr (cutW v j % 256) (by omega) (by omega)
          have hs : ¬ 9223372036854775807 < (⟨[UInt8.ofNat (cutW v j % 256).toNat].toArray⟩ : ByteArray).size + (⟨(lowL v j).toArray⟩ : ByteArray).size := by
            simp [ByteArray.size, lowL_length]
            omega
          go_wp2_with fail
          refine ⟨⟨j + 1, by omega, by go_num, rfl, ?_, gAlloc low _⟩, by simp [intOf]; omega⟩
          exact congrArg Value.string (ByteArray.mk_append_mk [UInt8.ofNat (cutW v j % 256).toNat] (lowL v j))
        · obtain rfl : j = 8 := by omega
          have hs : ¬ 9223372036854775807 < (⟨(outL (fun m => wordAt a b c d m) k).toArray⟩ : ByteArray).size + (⟨(lowL v 8).toArray⟩ : ByteArray).size := by
            simp [ByteArray.size, lowL_length, outL_length]
            omega
          go_wp2_with fail
          refine ⟨⟨k + 1, by omega, by go_num, ?_, low⟩, by simp [intOf]; omega⟩
          rw [← HV.out]
          exact congrArg Value.string (ByteArray.mk_append_mk (outL (fun m => wordAt a b c d m) k) (lowL (wordAt a b c d k) 8))
    · obtain rfl : k = 4 := by omega
      go_wp2_with fail
      go_ret
      exact ⟨by unfold packS; rw [← outL_packL]; rfl, low⟩
end Go.Proofs.Ytgmcopadokojfaa
