/-
Proved: slices.Equal of two slices that hold the same ints returns true, and changes nothing that was there. No other condition.
-/
import Derived.Test.YtgoaedbhcldmiaaMem
namespace Go.Proofs.Ytgoaedbhcldmiaa
open Go.ChangeShapes Go.WideShapes Go.ChangeAt Go.RowKit Go.Joins

/-- Two slices that hold the same ints. -/
theorem equalInts_yes (v v' : Value) (n : Nat) (xs : List Int) (w : World) (h : Sl w w.heap.size 1 v n (xs.map (Value.int .i64))) (h' : Sl w w.heap.size 1 v' n (xs.map (Value.int .i64))) :
    Calls Try.prog 13 #[v, v'] w fun e w' => e = .returned (.bool true) ∧ Below w.heap.size w w' := by
  obtain ⟨hl, A, c, rfl, h1, h2, h3⟩ := h
  obtain ⟨hl', A', c', rfl, h1', h2', h3'⟩ := h'
  simp only [List.length_map, Nat.mul_one] at hl
  have HL := Lib.hid hl
  have H3 := Lib.hid h3
  have H3' := Lib.hid h3'
  unfold maxLen at h2
  clear hl h3 hl' h3' h2'
  go_enter Try.func13, Try.ntmps13
  go_wp2_with fail
  go_loopw [13] (fun i wr => ∃ k : Nat, k ≤ n ∧ i = .int .i64 k ∧ Below w.heap.size w wr) (fun i _ => n - (intOf i).toNat)
  case atStart => exact ⟨0, Nat.zero_le _, rfl, Below.refl _ _⟩
  case round =>
    obtain ⟨k, hk, rfl, low⟩ := hrel
    by_cases hlt : k < n
    · obtain ⟨b, o, rfl, hb, hc⟩ := H3.out (by omega)
      obtain ⟨b', o', rfl, hb', hc'⟩ := H3'.out (by omega)
      have hx : xs[k]? = some (xs[k]'(by have := HL.out; omega)) := List.getElem?_eq_getElem _
      generalize xs[k]'(by have := HL.out; omega) = x at hx
      have e1 : wr.cell? ⟨b, o + k, none⟩ = some (.int .i64 x) := (low.cell (p := ⟨b, o + k, none⟩) hb).trans (hc k _ (by rw [List.getElem?_map, hx]; rfl))
      have e2 : wr.cell? ⟨b', o' + k, none⟩ = some (.int .i64 x) := (low.cell (p := ⟨b', o' + k, none⟩) hb').trans (hc' k _ (by rw [List.getElem?_map, hx]; rfl))
      clear hx hc hc'
      go_wp2_with fail
      go_quiet (fail)
      go_wp2_with fail
      go_roundw
      case rel => exact ⟨k + 1, by omega, by go_num, gDrewN low _⟩
      case measure => simp [intOf]; omega
    · go_wp2_with fail
      go_ret
      exact ⟨rfl, low⟩
end Go.Proofs.Ytgoaedbhcldmiaa
