/-
Proved: the closed fact that the statements on rings ask for first: a small ring can be made. No condition.
-/
import Derived.Test.YtiefeeondeablaaRing3
import Derived.Test.YtiefeeondeablaaSmall
namespace Go.Proofs.Ytiefeeondeablaa
open Go.ChangeShapes Go.WideShapes Go.ChangeAt Go.RowKit Go.Joins

theorem rings_yes (w : World) : Calls Try.prog 18 #[] w fun e w' => e = .returned (.bool true) ∧ Below w.heap.size w w' := by
  have N := Lib.hid fun w => ringNew_ok 2 1 1 1 3 w (by decide)
  have NR := Lib.hid (show (newR 2 3 3)[1]? = some ⟨1, false, 0, 0⟩ from rfl)
  have NL := Lib.hid (show (newR 2 3 3).length = 3 from rfl)
  simp only [show ((3 : Nat) : Int) = 3 from rfl] at N
  have low := Below.refl w.heap.size w
  go_enter Try.func18, Try.ntmps18
  go_wp2_with fail
  (with_reducible refine (small_is _).mono ?_); rintro e w1 ⟨rfl, hb⟩
  replace low := gCall low hb
  clear hb
  go_wp2_with fail
  (with_reducible refine (N.out _).mono ?_); rintro e w2 ⟨⟨v', rfl, g, hg, hg2, own⟩, hb⟩
  replace low := gCall low hb
  clear hb
  obtain ⟨cap, cur, rfl, hbx, hn, hm, hs, ht⟩ := own
  have c0 : w2.cell? ⟨g, 4, none⟩ = some (.int .i64 1) := (hbx.cell 4).trans (ht 1 _ NR.out 0 (by omega))
  rw [NL.out]
  clear hbx hn hm hs ht
  go_wp2_with fail
  go_ret
  exact ⟨rfl, low⟩
end Go.Proofs.Ytiefeeondeablaa
