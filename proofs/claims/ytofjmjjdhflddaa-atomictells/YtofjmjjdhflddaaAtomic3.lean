/-
Proved: what Do and Play of package atomic return, in one form for every case; slices.Equal of the same words. No condition.
-/
import Derived.Test.YtofjmjjdhflddaaAtomic2
import Derived.Deep.RegionHeld3
namespace Go.Proofs.Ytofjmjjdhflddaa
open Go.ChangeShapes Go.WideShapes Go.ChangeAt Go.RowKit Go.Joins

/-- What Do gives. -/
def DoIs (l : List Int) (d : Dd) (y : List Int) (u e : Int) : Prop :=
  (deedE d ≠ 0 ∧ y = zeroL ∧ u = 0 ∧ e = deedE d) ∨ (deedE d = 0 ∧ y = doM l d ∧ u = doV l d ∧ e = 0)

theorem do_is (l : List Int) (hl : l.length = 64) (d : Dd) : ∃ y u e, DoIs l d y u e ∧ y.length = 64 ∧
    ∀ w, Calls Try.prog 5 #[memV l, d.val] w fun ee w' => ee = .returned (.tuple #[memV y, .int .u64 u, .int .i64 e]) ∧ Below w.heap.size w w' := by
  by_cases h : deedE d = 0
  · exact ⟨_, _, 0, .inr ⟨h, rfl, rfl, rfl⟩, doM_length d hl, fun w => atomicDo_ok l hl d h w⟩
  · exact ⟨_, 0, _, .inl ⟨h, rfl, rfl, rfl⟩, zeroL_length, fun w => atomicDo_bad l d h w⟩

/-- The first error of Play. -/
def allE (r : List Dd) : Int := if 200 < r.length then 2 else runE r

/-- What Play gives. -/
def PlayAll (l : List Int) (r : List Dd) (w : World) (y : List Int) (s : Value) (f : Int) : Prop :=
  (allE r ≠ 0 ∧ y = zeroL ∧ s = .slice none 0 0 ∧ f = allE r) ∨ (allE r = 0 ∧ y = runM l r ∧ f = 0 ∧ Told w s r.length (runV l r))

theorem PlayAll.call {l : List Int} {r : List Dd} {w w' : World} {y : List Int} {s : Value} {f : Int} (h : PlayAll l r w y s f) (hb : Below w.heap.size w w') : PlayAll l r w' y s f := by
  rcases h with h | ⟨h1, h2, h3, h4⟩
  · exact .inl h
  · exact .inr ⟨h1, h2, h3, h4.call hb⟩

theorem play_is (l : List Int) (hl : l.length = 64) (v : Value) (r : List Dd) (w : World) (h : Ds w v r) : Calls Try.prog 6 #[memV l, v] w fun e w' =>
    (∃ y s f, e = .returned (.tuple #[memV y, s, .int .i64 f]) ∧ y.length = 64 ∧ PlayAll l r w' y s f) ∧ Below w.heap.size w w' := by
  by_cases hr : 200 < r.length
  · refine (atomicPlay_large l v r w h hr).mono ?_
    rintro e w' ⟨rfl, hb⟩
    have e2 : allE r = 2 := if_pos hr
    exact ⟨⟨_, _, _, rfl, zeroL_length, .inl ⟨by rw [e2]; decide, rfl, rfl, e2.symm⟩⟩, hb⟩
  · refine (atomicPlay_any l hl v r w h (by omega)).mono ?_
    have e2 : allE r = runE r := if_neg hr
    rintro e w' ⟨⟨h1, rfl⟩ | ⟨h1, s, rfl, sl⟩, hb⟩
    · exact ⟨⟨_, _, _, rfl, zeroL_length, .inl ⟨by rw [e2]; exact h1, rfl, rfl, e2.symm⟩⟩, hb⟩
    · exact ⟨⟨_, _, _, rfl, runM_length hl r, .inr ⟨by rw [e2]; exact h1, rfl, rfl, sl⟩⟩, hb⟩

/-- Two slices that hold the same words. -/
theorem equalWords_yes (v v' : Value) (n : Nat) (xs : List Int) (w : World) (h : Sl w w.heap.size 1 v n (xs.map (Value.int .u64))) (h' : Sl w w.heap.size 1 v' n (xs.map (Value.int .u64))) :
    Calls Try.prog 10 #[v, v'] w fun e w' => e = .returned (.bool true) ∧ Below w.heap.size w w' := by
  obtain ⟨hl, A, c, rfl, h1, h2, h3⟩ := h
  obtain ⟨hl', A', c', rfl, h1', h2', h3'⟩ := h'
  simp only [List.length_map, Nat.mul_one] at hl
  have HL := Lib.hid hl
  have H3 := Lib.hid h3
  have H3' := Lib.hid h3'
  unfold maxLen at h2
  clear hl h3 hl' h3' h2'
  go_enter Try.func10, Try.ntmps10
  go_wp2_with fail
  go_loopw [13] (fun i wr => ∃ k : Nat, k ≤ n ∧ i = .int .i64 k ∧ Below w.heap.size w wr) (fun i _ => n - (intOf i).toNat)
  case atStart => exact ⟨0, Nat.zero_le _, rfl, Below.refl _ _⟩
  case round =>
    obtain ⟨k, hk, rfl, low⟩ := hrel
    by_cases hlt : k < n
    · obtain ⟨b, o, rfl, hb, hc⟩ := H3.out (by omega)
      obtain ⟨b', o', rfl, hb', hc'⟩ := H3'.out (by omega)
      have hx : xs[k]? = some (xs[k]'(by have := HL.out; omega)) := List.getElem?_eq_getElem _
      generalize xs[k]'(by have := HL.out; omega) = x at hx
      have e1 : wr.cell? ⟨b, o + k, none⟩ = some (.int .u64 x) := (low.cell (p := ⟨b, o + k, none⟩) hb).trans (hc k _ (by rw [List.getElem?_map, hx]; rfl))
      have e2 : wr.cell? ⟨b', o' + k, none⟩ = some (.int .u64 x) := (low.cell (p := ⟨b', o' + k, none⟩) hb').trans (hc' k _ (by rw [List.getElem?_map, hx]; rfl))
      clear hx hc hc'
      go_wp2_with fail
      go_quiet (fail)
      go_wp2_with fail
      go_roundw
      case rel => exact ⟨k + 1, by omega, by go_num, gDrewN low _⟩
      case measure => simp [intOf]; omega
    · go_wp2_with fail
      go_ret
      exact ⟨rfl, low⟩
end Go.Proofs.Ytofjmjjdhflddaa
