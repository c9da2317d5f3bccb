/-
Proved: what check, checkDeeds and hasResult of package order return; slices.EqualFunc of observations and words with hasResult; what Legal returns. They change nothing that was there. No condition.
-/
import Derived.Test.YtcegjehoejgofaaGreatOrderTell
import Derived.Test.YtcegjehoejgofaaGreatAtomic3
import Derived.Test.YtcegjehoejgofaaGreatJoined6
namespace Go.Proofs.YtcegjehoejgofaaGreat
open Go.ChangeShapes Go.WideShapes Go.ChangeAt Go.RowKit Go.Joins
set_option maxHeartbeats 1000000 in
theorem checkDeeds_any (v : Value) (l : List Td) (w : World) (h : elT.R w v l) :
  Calls Tryz.prog 60 #[v] w fun e w' => e = .returned (.int .i64 (runE (l.map Td.d))) ∧ Below w.heap.size w w' := by
 obtain ⟨_, A, c, rfl, g1, g2, g3⟩ := h
 have G3 := Lib.hid g3
 unfold maxLen at g2
 clear g3
 have low := Below.refl w.heap.size w
 generalize hT : runE (l.map Td.d) = T
 have HT := Lib.hid hT
 clear hT
 go_enter Tryz.func60, Tryz.ntmps60
 go_wp2_with fail
 go_loopw [8] (fun i wr => ∃ j : Nat, j ≤ l.length ∧ i = .int .i64 j ∧ Hid (runE ((l.drop j).map Td.d) = T) ∧ Below w.heap.size w wr) (fun i _ => l.length - (intOf i).toNat)
 case atStart => exact ⟨0, Nat.zero_le _, rfl, Lib.hid (by rw [List.drop_zero]; exact HT.out), low⟩
 case round =>
  clear low
  obtain ⟨j, hj, rfl, hs, low⟩ := hrel
  by_cases hj2 : j < l.length
  ·obtain ⟨b2, o2, rfl, hb2, hc2⟩ := G3.out (by omega)
   have hd : l[j]? = some l[j] := List.getElem?_eq_getElem _
   generalize l[j] = x at hd
   obtain ⟨c0, c1, c2, c3, c4⟩ := toldAt_of hc2 hb2 low hd
   have e := hs.out
   rw [runE_at hd] at e
   have E := Lib.hid e
   have DF := Lib.hid fun w => atomicRight_any x.d w
   generalize hde : deedE x.d = de at DF E
   obtain ⟨⟨dn, dk, da, dv⟩, tv⟩ := x
   simp only at c0 c1 c2 c3 c4
   have j0 : (0 : Int) ≤ j := by omega
   have j1 : (j : Int) < l.length := by omega
   clear hd hc2 hs e hde
   have db := boxNext low 53 #[.int .i64 dn, .int .i64 dk, .int .i64 da, .int .u64 dv, .int .u64 tv]
   replace low := gAlloc low (.cells #[.int .i64 dn, .int .i64 dk, .int .i64 da, .int .u64 dv, .int .u64 tv] 53)
   try simp only [World.size_alloc] at db
   have db_0 := db.at_ 0 rfl
   have db_1 := db.at_ 1 rfl
   have db_2 := db.at_ 2 rfl
   have db_3 := db.at_ 3 rfl
   go_wp2_with fail
   (with_reducible refine (DF.out _).mono ?_); rintro e w2 ⟨rfl, hb3⟩
   clear db_0 db_1 db_2 db_3
   replace low := gCall low hb3
   clear hb3 c0 c1 c2 c3 c4 DF db
   by_cases h0 : de = 0
   ·subst h0
    have NX : Hid (runE ((l.drop (j + 1)).map Td.d) = T) := Lib.hid (by
     have := E.out
     simpa using this)
    clear E
    go_wp2_with fail
    go_roundw
    case rel => exact ⟨j + 1, by omega, by go_num, NX, low⟩
    case measure => simp [intOf]; omega
   ·obtain rfl : de = T := by
     have := E.out
     simpa [h0] using this
    have h0' : (de != 0) = true := by simpa using h0
    clear h0 E
    go_wp2_with fail
    go_ret
    exact ⟨rfl, low⟩
  ·obtain rfl : j = l.length := by omega
   obtain rfl : 0 = T := by
    have := hs.out
    rw [List.drop_length] at this
    exact this
   go_wp2_with fail
   go_ret
   exact ⟨rfl, low⟩
theorem hasResult_any (x : Td) (v : Int) (w : World) :
  Calls Tryz.prog 28 #[x.val, .int .u64 v] w fun e w' => e = .returned (.bool (x.v == v)) ∧ Below w.heap.size w w' := by
 obtain ⟨⟨dn, dk, da, dv⟩, tv⟩ := x
 simp only
 have low := Below.refl w.heap.size w
 have db := boxNext low 53 #[.int .i64 dn, .int .i64 dk, .int .i64 da, .int .u64 dv, .int .u64 tv]
 replace low := gAlloc low (.cells #[.int .i64 dn, .int .i64 dk, .int .i64 da, .int .u64 dv, .int .u64 tv] 53)
 try simp only [World.size_alloc] at db
 generalize hq : (tv == v) = B
 go_enter Tryz.func28, Tryz.ntmps28
 have db_0 := db.at_ 0 rfl
 have db_1 := db.at_ 1 rfl
 have db_2 := db.at_ 2 rfl
 have db_3 := db.at_ 3 rfl
 have db_4 := db.at_ 4 rfl
 go_wp2_with fail
 go_ret
 exact ⟨rfl, low⟩
end Go.Proofs.YtcegjehoejgofaaGreat
