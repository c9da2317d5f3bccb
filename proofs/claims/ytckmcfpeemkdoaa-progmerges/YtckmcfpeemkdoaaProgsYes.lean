/-
Proved: the closed fact that the statements on programs ask for first: a program's operation can be found. No condition.
-/
import Derived.Test.YtckmcfpeemkdoaaProgFns
namespace Go.Proofs.Ytckmcfpeemkdoaa
open Go.ChangeShapes Go.WideShapes Go.ChangeAt Go.RowKit Go.Joins

/-- One program of one operation; one int. -/
theorem ps_one {W : World} {a b : Nat} {x : Dd} (db : Box W a 30 x.arr) (lb : Box W b 26 #[.slice (some ⟨a, 0, none⟩) 1 1]) : Ps W (.slice (some ⟨b, 0, none⟩) 1 1) [[x]] := by
  refine ⟨some ⟨b, 0, none⟩, 1, rfl, Nat.le_refl _, by unfold maxLen; decide, fun _ => ⟨b, 0, rfl, lb.lt, fun k l hk => ?_⟩⟩
  match k, hk with
  | 0, hk =>
    simp at hk
    subst hk
    refine ⟨some ⟨a, 0, none⟩, 1, lb.at_ 0 rfl, ⟨rfl, _, _, rfl, Nat.le_refl _, by unfold maxLen; decide, fun _ => ⟨a, 0, rfl, db.lt, fun j u hu => ?_⟩⟩⟩
    rw [Nat.zero_add, db.cell]
    simpa [deedsC] using hu
theorem sl_one {W : World} {a : Nat} {x : Int} (ib : Box W a 3 #[.int .i64 x]) : Sl W W.heap.size 1 (.slice (some ⟨a, 0, none⟩) 1 1) [x].length ([x].map (Value.int .i64)) := by
  refine ⟨rfl, _, _, rfl, Nat.le_refl _, by unfold maxLen; decide, fun _ => ⟨a, 0, rfl, ib.lt, fun j u hu => ?_⟩⟩
  rw [Nat.zero_add, ib.cell]
  simpa using hu

theorem progs_yes (w : World) : Calls Try.prog 17 #[] w fun e w' => e = .returned (.bool true) ∧ Below w.heap.size w w' := by
  have N := Lib.hid fun v av p xs k a l w h ha hl hp hx h0 => next_good v av p xs k a l w h ha hl hp hx h0
  have low := Below.refl w.heap.size w
  have db := boxNext low 30 #[.int .i64 0, .int .i64 0, .int .i64 4, .int .u64 0]
  replace low := gAlloc low (.cells #[.int .i64 0, .int .i64 0, .int .i64 4, .int .u64 0] 30)
  try simp only [World.size_alloc] at db
  have lb := boxNext low 26 #[.slice (some ⟨w.heap.size, 0, none⟩) 1 1]
  replace low := gAlloc low (.cells #[.slice (some ⟨w.heap.size, 0, none⟩) 1 1] 26)
  replace db := db.alloc (.cells #[.slice (some ⟨w.heap.size, 0, none⟩) 1 1] 26)
  try simp only [World.size_alloc] at lb
  have ib := boxNext low 3 #[.int .i64 0]
  replace low := gAlloc low (.cells #[.int .i64 0] 3)
  replace db := db.alloc (.cells #[.int .i64 0] 3)
  replace lb := lb.alloc (.cells #[.int .i64 0] 3)
  try simp only [World.size_alloc] at ib
  have PS := ps_one (x := ⟨0, 0, 4, 0⟩) db lb
  have IS := sl_one ib
  have NN := Lib.hid (N.out _ _ _ [0] 0 0 _ _ PS IS rfl rfl rfl (Int.le_refl 0))
  simp only [show ((0 : Nat) : Int) = 0 from rfl] at NN
  clear PS IS db lb ib N
  go_enter Try.func17, Try.ntmps17
  go_wp2_with fail
  (with_reducible refine NN.out.mono ?_); rintro e w2 ⟨hn, hb⟩
  rcases hn with ⟨h, _⟩ | ⟨j, d, e1, e2, rfl⟩
  · simp at h
  · obtain rfl : j = 0 := by omega
    simp at e2
    subst e2
    replace low := gCall low hb
    clear hb NN e1
    go_wp2_with fail
    go_ret
    exact ⟨rfl, gAlloc low _⟩
end Go.Proofs.Ytckmcfpeemkdoaa
