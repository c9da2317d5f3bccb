/-
Proved: what 'taken' of package order returns: the logs that were taken on the way, in new memory; nothing that was there is changed. Condition: at most 200 steps, each of which has taken one of at most 8 logs.
-/
import Derived.Test.YtcegjehoejgofaaGreatSteps
import Derived.Test.YtcegjehoejgofaaGreatJoined3
import Derived.Test.YtcegjehoejgofaaGreatJoined1
namespace Go.Proofs.YtcegjehoejgofaaGreat
open Go.ChangeShapes Go.WideShapes Go.ChangeAt Go.RowKit Go.Joins
theorem stpA_next {a : List Nat} {m : List Int} (ha : a.length = 8) (hm : m.length = 64) (n : Nat) : (stpA a m n)[72]? = some (.int .i64 (n : Int)) := by rw [stpA, List.getElem?_toArray, stL_next ha hm]
theorem step_read {w w' : World} {b o B : Nat} {l : List Stp} {k : Nat} {s : Stp} (hc : ∀ j u, (elS.C l)[j]? = some u → w.cell? ⟨b, o + j, none⟩ = some u) (hb : b < B) (low : Below B w w') (h : l[k]? = some s) : w'.rangeAt b (o + k * 73) (stpA s.at_ s.mem s.next).toList := fun j u hu => by
 have hj : j < 73 := by have := (List.getElem?_eq_some_iff.1 hu).1; rw [Array.length_toList, stpA_size s.ha s.hm] at this; exact this
 exact El.R.at_ hc hb low h j u hj hu
def pickI (ss : List Stp) : List Int := ss.map fun s => ((s.next - 1 : Nat) : Int)
def pickJ (ss : List Stp) (j : Nat) : List Int := pickI (ss.take j) ++ List.replicate (ss.length - j) 0
theorem pickJ_length {ss : List Stp} {j : Nat} (h : j ≤ ss.length) : (pickJ ss j).length = ss.length := by simp [pickJ, pickI]; omega
theorem pickJ_all (ss : List Stp) : pickJ ss ss.length = pickI ss := by simp [pickJ]
theorem pickJ_step {ss : List Stp} {j : Nat} {s : Stp} (h : ss[j]? = some s) : (pickJ ss j).set j ((s.next - 1 : Nat) : Int) = pickJ ss (j + 1) := by
 have hj : j < ss.length := (List.getElem?_eq_some_iff.1 h).1
 have e : (pickI (ss.take j)).length = j := by simp [pickI]; omega
 unfold pickJ
 rw [List.take_add_one, h, List.set_append_right _ _ (by omega), e, Nat.sub_self, show ss.length - j = (ss.length - (j + 1)) + 1 by omega, List.replicate_succ, List.set_cons_zero]
 simp [pickI]
set_option maxRecDepth 10000 in
set_option maxHeartbeats 4000000 in
theorem taken_any (v : Value) (ss : List Stp) (w : World) (h : elS.R w v ss) (hl : ss.length ≤ 200) (hn : ∀ s ∈ ss, 0 < s.next ∧ s.next ≤ 8) :
  Calls Tryz.prog 67 #[v] w fun e w' => (∃ u, e = .returned u ∧ OwnI w' w.heap.size u (pickI ss)) ∧ Below w.heap.size w w' := by
 obtain ⟨_, A, c, rfl, g1, g2, g3⟩ := h
 have G3 := Lib.hid g3
 unfold maxLen at g2
 have HN := Lib.hid hn
 obtain ⟨w2, MK, ti, hb2⟩ := make_ints ss.length hl w
 have TI := Lib.hid (show OwnI w2 w.heap.size (.slice (some ⟨w.heap.size, 0, none⟩) ss.length ss.length) (pickJ ss 0) by rw [show pickJ ss 0 = List.replicate ss.length 0 by simp [pickJ, pickI]]; exact ti)
 have low := hb2
 clear g3 hn ti hb2
 go_enter Tryz.func67, Tryz.ntmps67
 go_wp2_with fail
 clear MK
 go_loopw [11] (fun i wr => ∃ j : Nat, j ≤ ss.length ∧ i = .int .i64 j ∧ Hid (OwnI wr w.heap.size (.slice (some ⟨w.heap.size, 0, none⟩) ss.length ss.length) (pickJ ss j)) ∧ Below w.heap.size w wr) (fun i _ => ss.length - (intOf i).toNat)
 case atStart => exact ⟨0, Nat.zero_le _, rfl, TI, low⟩
 case round =>
  clear TI low
  obtain ⟨j, hj, rfl, OW, low⟩ := hrel
  by_cases hlt : j < ss.length
  ·obtain ⟨b1, o1, rfl, hb1, hc1⟩ := G3.out (by omega)
   have hd : ss[j]? = some ss[j] := List.getElem?_eq_getElem _
   generalize ss[j] = x at hd
   have rg := step_read hc1 hb1 low hd
   have sz := stpA_zsize x.ha x.hm x.next
   have on := stpA_one x.at_ x.mem x.next
   have ST := Lib.hid (pickJ_step hd)
   have nx := HN.out x (List.mem_of_getElem? hd)
   have hlen := pickJ_length hj
   have hx0 : (pickJ ss j)[j]? = some ((pickJ ss j)[j]'(by omega)) := List.getElem?_eq_getElem _
   generalize (pickJ ss j)[j]'(by omega) = z at hx0
   have tn := stpA_next x.ha x.hm x.next
   have j0 : (0 : Int) ≤ j := by omega
   have j1 : (j : Int) < ss.length := by omega
   have lz := low.size
   clear hd hc1
   have tb := Box.new wr 147 (stpA x.at_ x.mem x.next)
   have OW2 := OW.out.alloc (.cells (stpA x.at_ x.mem x.next) 147)
   have ct := OW2.at_ hx0
   have fr := OW2.free j
   obtain ⟨n, hn⟩ : ∃ n, x.next = n + 1 := ⟨x.next - 1, by omega⟩
   have cn : (wr.alloc (.cells (stpA x.at_ x.mem x.next) 147)).cell? ⟨wr.heap.size, 72, none⟩ = some (.int .i64 ((n : Int) + 1)) := by
    rw [tb.at_ 72 tn, hn]; rfl
   have T4 := OW2.set j (n : Int)
   rw [show (pickJ ss j).set j (n : Int) = pickJ ss (j + 1) by have := ST.out; rwa [hn, Nat.add_sub_cancel] at this] at T4
   replace T4 := Lib.hid T4
   have L4 := Lib.hid (gSet (gAlloc low (.cells (stpA x.at_ x.mem x.next) 147)) (p := ⟨w.heap.size, j, none⟩) (Nat.le_refl _) (.int .i64 (n : Int)))
   have n8 : (n : Int) < 8 := by omega
   have hw : ((n : Int) + 1 - 1) = n := by omega
   clear OW OW2 tb tn ST hx0 low hn nx
   go_wp2_with (first | (with_reducible refine wp_newW (tySt) ?_) | ((with_reducible refine wp_loadW (tySt) (rg) (sz) ?_ ?_ ?_); rfl; rfl) | ((with_reducible refine wp_freshW (tySt) (rfl) (sz) (on) ?_ ?_ ?_); rfl; rfl))
   go_roundw
   case rel => exact ⟨j + 1, by omega, by go_num, T4, L4.out⟩
   case measure => simp [intOf]; omega
  ·obtain rfl : j = ss.length := by omega
   have own := OW.out
   rw [pickJ_all] at own
   go_wp2_with fail
   go_ret
   exact ⟨⟨_, rfl, own⟩, low⟩
end Go.Proofs.YtcegjehoejgofaaGreat
