/-
Proved: what DeedFault of the reference returns; it changes nothing that was there. No condition.
-/
import Derived.Test.YtcegjehoejgofaaOps
import Derived.Test.YtcegjehoejgofaaRefLow
namespace Go.Proofs.Ytcegjehoejgofaa
open Go.ChangeShapes Go.WideShapes Go.ChangeAt Go.RowKit Go.Joins

theorem goodKind_yes (k : Int) (w : World) (h1 : 1 ≤ k) (h2 : k ≤ 4) : Calls Try.prog 16 #[.int .i64 k] w fun e w' => e = .returned (.bool true) ∧ w = w' := by
  go_enter Try.func16, Try.ntmps16
  go_wp2
  go_ret
  exact ⟨rfl, rfl⟩
theorem goodKind_no (k : Int) (w : World) (h : k < 1 ∨ 4 < k) : Calls Try.prog 16 #[.int .i64 k] w fun e w' => e = .returned (.bool false) ∧ w = w' := by
  by_cases h0 : k < 1
  · have h1 : decide (1 ≤ k) = false := by simp; omega
    clear h h0
    go_enter Try.func16, Try.ntmps16
    go_wp2
    go_ret
    exact ⟨rfl, rfl⟩
  · have h1 : 1 ≤ k := by omega
    have h2 : decide (k ≤ 4) = false := by simp; omega
    clear h h0
    go_enter Try.func16, Try.ntmps16
    go_wp2
    go_ret
    exact ⟨rfl, rfl⟩

theorem deedFault_any (d : Dd) (w : World) : Calls Try.prog 8 #[d.val] w fun e w' => e = .returned (.int .i64 (deedE d)) ∧ Below w.heap.size w w' := by
  obtain ⟨n, k, a, v⟩ := d
  have low := Below.refl w.heap.size w
  have db := Box.new w 41 #[.int .i64 n, .int .i64 k, .int .i64 a, .int .u64 v]
  replace low := gAlloc low (.cells #[.int .i64 n, .int .i64 k, .int .i64 a, .int .u64 v] 41)
  by_cases h0 : n < 0 ∨ 7 < n
  · rw [show deedE ⟨n, k, a, v⟩ = 4 by simp [deedE, h0]]
    by_cases h1 : n < 0
    · clear h0
      go_enter Try.func8, Try.ntmps8
      have db_0 := db.at_ 0 rfl
      have db_1 := db.at_ 1 rfl
      have db_2 := db.at_ 2 rfl
      have db_3 := db.at_ 3 rfl
      go_wp2_with fail
      go_ret
      exact ⟨rfl, low⟩
    · have h2 : 0 ≤ n := by omega
      have h3 : 7 < n := by omega
      clear h0 h1
      go_enter Try.func8, Try.ntmps8
      have db_0 := db.at_ 0 rfl
      have db_1 := db.at_ 1 rfl
      have db_2 := db.at_ 2 rfl
      have db_3 := db.at_ 3 rfl
      go_wp2_with fail
      go_ret
      exact ⟨rfl, low⟩
  have n0 : 0 ≤ n := by omega
  have n1 : n ≤ 7 := by omega
  by_cases h1 : k < 1 ∨ 4 < k
  · rw [show deedE ⟨n, k, a, v⟩ = 1 by simp [deedE, h0, h1]]
    have B := Lib.hid fun W => goodKind_no k W h1
    clear h0 h1
    go_enter Try.func8, Try.ntmps8
    have db_0 := db.at_ 0 rfl
    have db_1 := db.at_ 1 rfl
    have db_2 := db.at_ 2 rfl
    have db_3 := db.at_ 3 rfl
    go_wp2_with fail
    (with_reducible refine (B.out _).mono ?_); rintro e w' ⟨rfl, rfl⟩
    go_wp2_with fail
    go_ret
    exact ⟨rfl, low⟩
  have B := Lib.hid fun W => goodKind_yes k W (by omega) (by omega)
  by_cases h2 : a < 0 ∨ 63 < a
  · rw [show deedE ⟨n, k, a, v⟩ = 4 by simp [deedE, h0, h1, h2]]
    have L := Lib.hid fun W => goodAddr_no a W h2
    clear h0 h1 h2
    go_enter Try.func8, Try.ntmps8
    have db_0 := db.at_ 0 rfl
    have db_1 := db.at_ 1 rfl
    have db_2 := db.at_ 2 rfl
    have db_3 := db.at_ 3 rfl
    go_wp2_with fail
    (with_reducible refine (B.out _).mono ?_); rintro e w' ⟨rfl, rfl⟩
    go_wp2_with fail
    (with_reducible refine (L.out _).mono ?_); rintro e w' ⟨rfl, rfl⟩
    go_wp2_with fail
    go_ret
    exact ⟨rfl, low⟩
  have L := Lib.hid fun W => goodAddr_yes a W (by omega) (by omega)
  have E := Lib.hid (show deedE ⟨n, k, a, v⟩ = if setsB k = false ∧ v ≠ 0 then 3 else 0 by simp [deedE, h0, h1, h2])
  generalize deedE ⟨n, k, a, v⟩ = e' at *
  clear h0 h1 h2
  cases hv : (v != 0)
  · have E2 := Lib.hid (show e' = 0 by rw [E.out, if_neg]; simp at hv; simp [hv])
    clear E
    go_enter Try.func8, Try.ntmps8
    have db_0 := db.at_ 0 rfl
    have db_1 := db.at_ 1 rfl
    have db_2 := db.at_ 2 rfl
    have db_3 := db.at_ 3 rfl
    go_wp2_with fail
    (with_reducible refine (B.out _).mono ?_); rintro e w' ⟨rfl, rfl⟩
    go_wp2_with fail
    (with_reducible refine (L.out _).mono ?_); rintro e w' ⟨rfl, rfl⟩
    go_wp2_with fail
    go_ret
    exact ⟨by rw [E2.out]; rfl, low⟩
  · cases k2 : (k != 2)
    · have E2 := Lib.hid (show e' = 0 by rw [E.out, if_neg]; simp at k2; simp [setsB, k2])
      clear E
      go_enter Try.func8, Try.ntmps8
      have db_0 := db.at_ 0 rfl
      have db_1 := db.at_ 1 rfl
      have db_2 := db.at_ 2 rfl
      have db_3 := db.at_ 3 rfl
      go_wp2_with fail
      (with_reducible refine (B.out _).mono ?_); rintro e w' ⟨rfl, rfl⟩
      go_wp2_with fail
      (with_reducible refine (L.out _).mono ?_); rintro e w' ⟨rfl, rfl⟩
      go_wp2_with fail
      go_ret
      exact ⟨by rw [E2.out]; rfl, low⟩
    · cases k3 : (k != 3)
      · have E2 := Lib.hid (show e' = 0 by rw [E.out, if_neg]; simp at k3; simp [setsB, k3])
        clear E
        go_enter Try.func8, Try.ntmps8
        have db_0 := db.at_ 0 rfl
        have db_1 := db.at_ 1 rfl
        have db_2 := db.at_ 2 rfl
        have db_3 := db.at_ 3 rfl
        go_wp2_with fail
        (with_reducible refine (B.out _).mono ?_); rintro e w' ⟨rfl, rfl⟩
        go_wp2_with fail
        (with_reducible refine (L.out _).mono ?_); rintro e w' ⟨rfl, rfl⟩
        go_wp2_with fail
        go_ret
        exact ⟨by rw [E2.out]; rfl, low⟩
      · have E2 := Lib.hid (show e' = 3 by rw [E.out, if_pos]; simp at k2 k3 hv; simp [setsB, k2, k3, hv])
        clear E
        go_enter Try.func8, Try.ntmps8
        have db_0 := db.at_ 0 rfl
        have db_1 := db.at_ 1 rfl
        have db_2 := db.at_ 2 rfl
        have db_3 := db.at_ 3 rfl
        go_wp2_with fail
        (with_reducible refine (B.out _).mono ?_); rintro e w' ⟨rfl, rfl⟩
        go_wp2_with fail
        (with_reducible refine (L.out _).mono ?_); rintro e w' ⟨rfl, rfl⟩
        go_wp2_with fail
        go_ret
        exact ⟨by rw [E2.out]; rfl, low⟩
end Go.Proofs.Ytcegjehoejgofaa
