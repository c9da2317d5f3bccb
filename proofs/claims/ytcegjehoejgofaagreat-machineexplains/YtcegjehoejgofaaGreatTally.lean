/-
Proved: what check and Memory of package tally return, for every list of events that can be read; they change nothing that was there. No condition.
-/
import Derived.Test.YtcegjehoejgofaaGreatTallyFacts
namespace Go.Proofs.YtcegjehoejgofaaGreat
open Go.ChangeShapes Go.WideShapes Go.ChangeAt Go.RowKit Go.Joins
set_option maxHeartbeats 2000000 in
theorem tallyCheck_any (n s y b : Int) (v : Value) (l : List Ev) (w : World) (h : elE.R w v l) :
  Calls Tryz.prog 33 #[cfg n s y b, v] w fun e w' => e = .returned (.int .i64 (tallyE n s y b l)) ∧ Below w.heap.size w w' := by
 obtain ⟨_, A, c, rfl, g1, g2, g3⟩ := h
 have G3 := Lib.hid g3
 unfold maxLen at g2
 clear g3
 have low := Below.refl w.heap.size w
 have cb := boxNext low 23 #[.int .i64 n, .int .i64 s, .int .i64 y, .int .i64 b]
 replace low := gAlloc low (.cells #[.int .i64 n, .int .i64 s, .int .i64 y, .int .i64 b] 23)
 try simp only [World.size_alloc] at cb
 cases hB : cfgB n s y b with
 | false =>
  have C := Lib.hid fun w => check_bad n s y b w hB
  have E := Lib.hid (show tallyE n s y b l = 4 by unfold tallyE; rw [if_pos hB])
  rw [E.out]
  clear hB E G3
  go_enter Tryz.func33, Tryz.ntmps33
  go_wp2_with fail
  (with_reducible refine (C.out _).mono ?_); rintro e w1 ⟨rfl, hb⟩
  replace cb := cb.call hb
  replace low := gCall low hb
  clear hb
  go_wp2_with fail
  go_ret
  exact ⟨rfl, low⟩
 | true =>
  have C := Lib.hid fun w => check_ok n s y b w hB
  by_cases hk : (200 : Int) < (l.length : Int)
  ·have E := Lib.hid (show tallyE n s y b l = 2 by unfold tallyE; rw [if_neg (by rw [hB]; simp), if_pos (by omega)])
   rw [E.out]
   clear hB E G3
   go_enter Tryz.func33, Tryz.ntmps33
   go_wp2_with fail
   (with_reducible refine (C.out _).mono ?_); rintro e w1 ⟨rfl, hb⟩
   replace cb := cb.call hb
   replace low := gCall low hb
   clear hb
   go_wp2_with fail
   go_ret
   exact ⟨rfl, low⟩
  ·have E := Lib.hid (show tallyE n s y b l = nodeE n l by unfold tallyE; rw [if_neg (by rw [hB]; simp), if_neg (by omega)])
   rw [E.out]
   generalize hT : nodeE n l = T
   have HT := Lib.hid hT
   clear hB E hT
   go_enter Tryz.func33, Tryz.ntmps33
   go_wp2_with fail
   (with_reducible refine (C.out _).mono ?_); rintro e w1 ⟨rfl, hb⟩
   replace cb := cb.call hb
   replace low := gCall low hb
   clear hb
   go_wp2_with fail
   have CB := Lib.hid cb
   go_loopw [19] (fun i wr => ∃ j : Nat, j ≤ l.length ∧ i = .int .i64 j ∧ Hid (nodeE n (l.drop j) = T) ∧ Box wr w.heap.size 23 #[.int .i64 n, .int .i64 s, .int .i64 y, .int .i64 b] ∧ Below w.heap.size w wr) (fun i _ => l.length - (intOf i).toNat)
   case atStart => exact ⟨0, Nat.zero_le _, rfl, Lib.hid (by rw [List.drop_zero]; exact HT.out), CB.out, low⟩
   case round =>
    clear cb low C CB
    obtain ⟨j, hj, rfl, hs, cb, low⟩ := hrel
    by_cases hlt : j < l.length
    ·obtain ⟨b2, o2, rfl, hb2, hc2⟩ := G3.out (by omega)
     have hd : l[j]? = some l[j] := List.getElem?_eq_getElem _
     generalize l[j] = x at hd
     obtain ⟨c0, c1, c2, c3, c4, c5⟩ := evAt_of hc2 hb2 low hd
     have e := hs.out
     rw [nodeE_at hd] at e
     have E := Lib.hid e
     have DF := Lib.hid fun w => atomicRight_any x.d w
     generalize hde : deedE x.d = de at DF E
     obtain ⟨⟨dn, dk, da, dv⟩, tv, bv⟩ := x
     simp only at c0 c1 c2 c3 c4 c5
     have j0 : (0 : Int) ≤ j := by omega
     have j1 : (j : Int) < l.length := by omega
     clear hd hc2 hs e hde
     have db := boxNext low 51 #[.int .i64 dn, .int .i64 dk, .int .i64 da, .int .u64 dv, .int .u64 tv, .bool bv]
     replace low := gAlloc low (.cells #[.int .i64 dn, .int .i64 dk, .int .i64 da, .int .u64 dv, .int .u64 tv, .bool bv] 51)
     replace cb := cb.alloc (.cells #[.int .i64 dn, .int .i64 dk, .int .i64 da, .int .u64 dv, .int .u64 tv, .bool bv] 51)
     try simp only [World.size_alloc] at db
     have db_0 := db.at_ 0 rfl
     have db_1 := db.at_ 1 rfl
     have db_2 := db.at_ 2 rfl
     have db_3 := db.at_ 3 rfl
     have db_4 := db.at_ 4 rfl
     have db_5 := db.at_ 5 rfl
     go_wp2_with fail
     (with_reducible refine (DF.out _).mono ?_); rintro e w2 ⟨rfl, hb3⟩
     clear db_0 db_1 db_2 db_3 db_4 db_5
     replace db := db.call hb3
     replace cb := cb.call hb3
     replace low := gCall low hb3
     clear hb3 c0 c1 c2 c3 c4 c5 DF
     by_cases h0 : de = 0
     ·subst h0
      by_cases h4 : n ≤ dn
      ·obtain rfl : 4 = T := by
        have := E.out
        simpa [h4] using this
       have h4' : decide (n ≤ dn) = true := decide_eq_true h4
       clear h4 E
       have db_0 := db.at_ 0 rfl
       have cb_0 := cb.at_ 0 rfl
       go_wp2_with fail
       go_ret
       exact ⟨rfl, low⟩
      ·have h4' : decide (n ≤ dn) = false := decide_eq_false h4
       have NX : Hid (nodeE n (l.drop (j + 1)) = T) := Lib.hid (by
        have := E.out
        simpa [h4] using this)
       clear h4 E
       have db_0 := db.at_ 0 rfl
       have cb_0 := cb.at_ 0 rfl
       go_wp2_with fail
       clear db_0 cb_0
       go_roundw
       case rel => exact ⟨j + 1, by omega, by go_num, NX, cb, low⟩
       case measure => simp [intOf]; omega
     ·obtain rfl : de = T := by
       have := E.out
       simpa [h0] using this
      have h0' : (de != 0) = true := by simpa using h0
      clear h0 E
      go_wp2_with fail
      go_ret
      exact ⟨rfl, low⟩
    ·obtain rfl : j = l.length := by omega
     obtain rfl : 0 = T := by
      have := hs.out
      rw [List.drop_length] at this
      exact this
     go_wp2_with fail
     go_ret
     exact ⟨rfl, low⟩
def memE (m : List Int) (l : List Ev) : List Int := if memF l = 0 then runM m (evD l) else zeroL
end Go.Proofs.YtcegjehoejgofaaGreat
