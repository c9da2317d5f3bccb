/-
Proved: what slices.Index and slices.Contains return for a slice of ints that can be read; they change nothing. No condition.
-/
import Derived.Test.YtiefeeondeablaaMem
namespace Go.Proofs.Ytiefeeondeablaa
open Go.ChangeShapes Go.WideShapes Go.ChangeAt Go.RowKit

/-- The place of 'y' in 'xs', or -1. -/
def indexOf (y : Int) (xs : List Int) : Int := match xs.findIdx? (· == y) with | some k => k | none => -1

theorem indexOf_none {y : Int} {xs : List Int} (h : ∀ k, k < xs.length → xs[k]? ≠ some y) : indexOf y xs = -1 := by
  have : xs.findIdx? (· == y) = none := by
    rw [List.findIdx?_eq_none_iff]
    intro x hx
    obtain ⟨k, hk, e⟩ := List.getElem_of_mem hx
    have := h k hk
    rw [List.getElem?_eq_getElem hk, e] at this
    simpa using this
  rw [indexOf, this]

theorem indexOf_some {y : Int} {xs : List Int} {k : Nat} (h : ∀ j, j < k → xs[j]? ≠ some y) (hk : xs[k]? = some y) : indexOf y xs = k := by
  have : xs.findIdx? (· == y) = some k := by
    rw [List.findIdx?_eq_some_iff_getElem]
    obtain ⟨hlt, e⟩ := List.getElem?_eq_some_iff.1 hk
    refine ⟨hlt, by simp [e], fun j hj => ?_⟩
    have := h j hj
    rw [List.getElem?_eq_getElem (by omega)] at this
    simpa using this
  rw [indexOf, this]

theorem index_any (v : Value) (n : Nat) (xs : List Int) (y : Int) (w : World) (h : Sl w w.heap.size 1 v n (xs.map (Value.int .i64))) :
    Calls Try.prog 35 #[v, .int .i64 y] w fun e w' => e = .returned (.int .i64 (indexOf y xs)) ∧ w = w' := by
  obtain ⟨hl, A, c, rfl, h1, h2, h3⟩ := h
  simp only [List.length_map, Nat.mul_one] at hl
  have HL := Lib.hid hl
  have H3 := Lib.hid h3
  unfold maxLen at h2
  clear hl h3
  go_enter Try.func35, Try.ntmps35
  go_wp2
  go_loop [8] (fun i => ∃ k : Nat, k ≤ n ∧ i = .int .i64 k ∧ Hid (∀ j, j < k → xs[j]? ≠ some y)) (fun i => n - (intOf i).toNat)
  case atStart => exact ⟨0, Nat.zero_le _, rfl, Lib.hid fun j hj => absurd hj (by omega)⟩
  case round =>
    obtain ⟨k, hk, rfl, hno⟩ := hrel
    by_cases hlt : k < n
    · obtain ⟨b, o, rfl, hb, hc⟩ := H3.out (by omega)
      have hx : xs[k]? = some (xs[k]'(by have := HL.out; omega)) := List.getElem?_eq_getElem _
      generalize xs[k]'(by have := HL.out; omega) = x at hx
      have hcell : w.cell? ⟨b, o + k, none⟩ = some (.int .i64 x) := hc k _ (by rw [List.getElem?_map, hx]; rfl)
      have HX := Lib.hid hx
      clear hx hc
      by_cases he : y = x
      · have he' : (y == x) = true := by simpa using he
        have HE := Lib.hid he
        clear he
        go_wp2
        go_ret
        exact ⟨by rw [indexOf_some hno.out (HX.out.trans (by rw [HE.out]))]; rfl, rfl⟩
      · have he' : (y == x) = false := by simpa using he
        have HE := Lib.hid he
        clear he
        go_wp2
        go_round
        case rel => exact ⟨k + 1, by omega, by go_num, Lib.hid fun j hj => by
          by_cases hjk : j < k
          · exact hno.out j hjk
          · obtain rfl : j = k := by omega
            rw [HX.out]; intro e; exact HE.out (by simpa using e.symm)⟩
        case measure => simp [intOf]; omega
    · go_wp2
      go_ret
      exact ⟨by rw [indexOf_none (fun j hj => hno.out j (by have := HL.out; omega))]; rfl, rfl⟩

theorem indexOf_neg {y : Int} {xs : List Int} : decide (0 ≤ indexOf y xs) = decide (y ∈ xs) := by
  rw [decide_eq_decide]
  unfold indexOf
  cases e : xs.findIdx? (· == y) with
  | none =>
    rw [List.findIdx?_eq_none_iff] at e
    refine ⟨fun h => absurd h (by decide), fun h => ?_⟩
    have := e y h
    simp at this
  | some k =>
    refine ⟨fun _ => ?_, fun _ => Int.natCast_nonneg _⟩
    rw [List.findIdx?_eq_some_iff_getElem] at e
    obtain ⟨hk, e, _⟩ := e
    have : xs[k] = y := by simpa using e
    rw [← this]; exact List.getElem_mem _

theorem contains_any (v : Value) (n : Nat) (xs : List Int) (y : Int) (w : World) (h : Sl w w.heap.size 1 v n (xs.map (Value.int .i64))) :
    Calls Try.prog 19 #[v, .int .i64 y] w fun e w' => e = .returned (.bool (decide (y ∈ xs))) ∧ w = w' := by
  have H := Lib.hid h
  clear h
  rw [← indexOf_neg]
  generalize hi : indexOf y xs = i
  have HI := Lib.hid hi
  clear hi
  go_enter Try.func19, Try.ntmps19
  go_wp2_with fail
  refine (index_any _ _ _ _ _ H.out).mono ?_; rintro e w' ⟨rfl, rfl⟩
  rw [HI.out]
  go_wp2
  go_ret
  exact ⟨rfl, rfl⟩
end Go.Proofs.Ytiefeeondeablaa
