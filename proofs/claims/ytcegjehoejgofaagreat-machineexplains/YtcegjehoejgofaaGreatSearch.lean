/-
Proved: what the search of package order returns: the first order of the logs that is legal, or none; nothing that was there is changed. Conditions: at most 8 logs of at most 12 observations together, whose operations are right.
-/
import Derived.Test.YtcegjehoejgofaaGreatAfter
import Derived.Test.YtcegjehoejgofaaGreatTaken
import Derived.Test.YtcegjehoejgofaaGreatExplFns
import Derived.Deep.LoopGhost
namespace Go.Proofs.YtcegjehoejgofaaGreat
open Go.ChangeShapes Go.WideShapes Go.ChangeAt Go.RowKit Go.Joins
theorem exec_loadPt {ρ : Operand → Value} {dst : Option Tmp} {t : TypeId} {pos : String} {after : Array Edge} {gd : Option (Nat × Bool)} {x : Operand} {g o : Nat} {a : List Nat} {m : List Int} {w : World} (ha : a.length = 8) (hm : m.length = 64) (hx : ρ x = .pointer (some ⟨g, o, none⟩)) (hc : w.rangeAt g o (ptA a m).toList) :
  (execOp ρ ⟨dst, .load 145 x, t, pos, after, gd⟩).run Tryz.prog w = .ok (.value (.agg (ptA a m))) w := by
 unfold execOp
 simp only [hx, Instr.loadAt, Instr.sureAddr, Sem.run_bind, Sem.run_pure, Result.andThen_ok, load_whole tyPt hc (ptA_zsize ha hm)]
theorem op_newPt {dst : Option Tmp} {t : TypeId} {pos : String} {after : Array Edge} {gd : Option (Nat × Bool)} {a : Act} {w : World} {K : Act → World → Prop} {Q : Exit → Act → World → Prop}
  (h : K (a.put dst (.pointer (some ⟨w.heap.size, 0, none⟩))) (w.alloc (.cells (ptA zero8 zeroL) 145))) : Oper.wp Tryz.prog ⟨dst, .alloc 145, t, pos, after, gd⟩ a w K Q := by
 unfold Oper.wp execOp
 simp only [Instr.alloc, Sem.run_bind, (zero_of_info tyPt.info).1, newVar, newRow, run_newObj_alloc, Sem.run_pure, Result.andThen_ok]
 exact h
theorem wp_makeMap {ops : Array Oper} {rest : List Oper} {dst : Option Tmp} {t : TypeId} {pos : String} {after : Array Edge} {a : Act} {w : World} {Q : Exit → Act → World → Prop} {T : TypeId} (h : wpList Tryz.prog ops Q rest (a.put dst (.map (some w.heap.size))) (w.alloc (.map #[] 0))) :
  wpList Tryz.prog ops Q (⟨dst, .makeMap T none, t, pos, after, none⟩ :: rest) a w := by
 refine wpList_plain rfl fun K hK => ?_
 unfold Oper.wp execOp
 simp only [Option.map_none, run_makeMap, Sem.run_bind, Sem.run_pure, Result.andThen_ok]
 exact hK _ _ h
theorem rangeC {w w' : World} {b o : Nat} {cs : List Value} (hb : Below w.heap.size w w') (h : w.rangeAt b o cs) : w'.rangeAt b o cs := fun j u hu => callC hb (h j u hu)
theorem rangeSt {w w' : World} {b o g : Nat} {cs : List Value} (st : Stored w g w') (hne : b ≠ g) (h : w.rangeAt b o cs) : w'.rangeAt b o cs := fun j u hu => st.cell (by exact hne) (h j u hu)
theorem shareGot {M Φ : Nat → World → Prop} {G : Prop} (tree : (∀ g w, M g w → Φ g w) → G) (last : ∀ g w, M g w → Φ g w) : G := tree last
structure Got (w0 : World) (g : Nat) (w : World) : Prop where
 low : Below w0.heap.size w0 w
 new : w0.heap.size ≤ g
 box : Box w g 145 (ptA zero8 zeroL)
theorem wp_mark {D : List Int → List Nat → Prop} {ops : Array Oper} {rest : List Oper} {o : Oper} {act : Act} {w : World} {Q : Exit → Act → World → Prop} (hg : o.guard = none) (mp x v : Operand) (hop : o.op = Op.mapUpdate 142 mp x v) {b : Nat} {a : List Nat} {m : List Int}
  (h : Marks D w b) (ha : a.length = 8) (hm : m.length = 64) (hD : D m a) (hmp : act.eval mp = .map (some b)) (hx : act.eval x = .agg (ptA a m)) (hv : act.eval v = .bool true)
  (hK : ∀ w', Marks D w' b → w.grownBy w' (some b) → wpList Tryz.prog ops Q rest (act.put o.dst undef) w') : wpList Tryz.prog ops Q (o :: rest) act w := by
 refine wpList_plain hg fun K' hK' => ?_
 obtain ⟨w', hrun, r1, r2⟩ := h.put ha hm hD
 unfold Oper.wp
 simp [execOp, hop, hmp, hx, hv, hrun, Result.andThen]
 exact hK' _ _ (hK w' r1 r2)
theorem trail_next (w : World) {a : List Nat} {m : List Int} (n B : Nat) (hB : B = w.heap.size) : ∀ (j : Nat) u, (stL a m n)[j]? = some u → (w.alloc (.cells (stpA a m n) 147)).cell? ((⟨B, 0, none⟩ : Addr).add j) = some u := by
 subst hB
 intro j u hu
 have e : (⟨w.heap.size, 0, none⟩ : Addr).add j = ⟨w.heap.size, j, none⟩ := by cases j <;> simp [Addr.add]
 rw [e, (Box.new w 147 (stpA a m n)).cell, stpA, List.getElem?_toArray, hu]
theorem rev_top {s : Stp} {bs : List Stp} : (s :: bs).reverse[bs.length]? = some s := by
 rw [List.reverse_cons, List.getElem?_append_right (by simp), List.length_reverse, Nat.sub_self]
 rfl
theorem rev_set {s s' : Stp} {bs : List Stp} : (s :: bs).reverse.set bs.length s' = (s' :: bs).reverse := by
 rw [List.reverse_cons, List.reverse_cons, List.set_append_right _ _ (by simp), List.length_reverse, Nat.sub_self]
 rfl
def Stp.to (s : Stp) (q : Nat) : Stp := ⟨s.at_, s.mem, q, s.ha, s.hm⟩
def FoundIs (m : List Int) (logs : List (List Td)) (A : Option Addr) (n c : Nat) (B : Bool) (w : World) : Prop :=
 B = (explR m logs).isSome ∧ n = ((explR m logs).getD []).length ∧ Sl w w.heap.size 1 (.slice A n c) n (((explR m logs).getD []).map fun (k : Nat) => Value.int .i64 (k : Int))
set_option maxRecDepth 10000 in
set_option maxHeartbeats 8000000 in
theorem search_any (m : List Int) (v : Value) (logs : List (List Td)) (w : World) (hm : m.length = 64) (h : elT.RR w v logs) (h8 : logs.length ≤ 8) (h12 : totL logs ≤ 12) (hfew : ∀ l ∈ logs, l.length ≤ 140737488355328) (ok : ∀ l ∈ logs, ∀ t ∈ l, deedE t.d = 0) :
  Calls Tryz.prog 35 #[memV m, v] w fun e w' => (∃ A n c B, e = .returned (.tuple #[.slice A n c, .bool B]) ∧ FoundIs m logs A n c B w') ∧ Below w.heap.size w w' := by
 have CN := Lib.hid fun w h => count_any v logs w h h8 hfew
 have AF := Lib.hid fun w a m k h ha hm hup hk => after_any v logs w a m k h h8 hfew ok ha hm hup hk
 have HL := Lib.hid h
 have ER := Lib.hid (explR_eight (m := m) h8)
 obtain ⟨A, c, rfl, q1, q2, q3⟩ := h.ex
 obtain ⟨i0, hi, hz0, hz1, hz2⟩ := info_parts info_step
 have HI := Lib.hid hi
 have HZ := Lib.hid (And.intro hz0 (And.intro hz1 hz2))
 unfold maxLen at q2
 clear h q3 hfew ok hi hz0 hz1 hz2
 have low := Below.refl w.heap.size w
 have mb := boxNext low 29 (memA m)
 replace low := gAlloc low (.cells (memA m) 29)
 try simp only [World.size_alloc] at mb
 have MB : Mb _ _ m := ⟨mb, hm⟩
 replace MB := MB.alloc (.map #[] 0)
 have mk := Marks.made (Dead logs (totL logs)) (w.alloc (.cells (memA m) 29))
 replace low := gAlloc low (.map #[] 0)
 have sb := boxNext low 147 (stpA zero8 m 0)
 replace low := gAlloc low (.cells (stpA zero8 m 0) 147)
 replace mk := mk.alloc (.cells (stpA zero8 m 0) 147)
 try simp only [World.size_alloc] at sb
 simp only [World.size_alloc] at mk
 go_enter Tryz.func35, Tryz.ntmps35
 go_wp2_with fail
 go_step3
 go_wp2_with (first | (with_reducible refine wp_makeMap ?_) | ((with_reducible refine wp_loadMem (MB) ?_ ?_ ?_); rfl; rfl) | ((with_reducible refine wp_buildPt hm ?_ ?_); rfl) | ((with_reducible refine wp_buildSt zero8_length hm ?_ ?_); rfl) | ((with_reducible refine wp_sliceSt zero8_length hm ?_ ?_); rfl))
 (with_reducible refine (CN.out _ (HL.out.call low)).mono ?_); rintro e w1 ⟨rfl, hb⟩
 replace sb := sb.call hb
 replace mk := mk.call hb
 replace low := gCall low hb
 clear hb CN MB
 go_wp2_with fail
 go_step3
 go_wp2_with fail
 generalize hN : totL logs = N at *
 have SB := Lib.hid (one_step ⟨zero8, m, 0, zero8_length, hm⟩ sb)
 have MK := Lib.hid mk
 have gb : w.heap.size + 1 < w.heap.size + 1 + 1 := by omega
 clear sb mk
 go_loopg [7] (fallL logs.length N [0]) (fun k v7 wr => ∃ (g c K : Nat) (bs : List Stp) (s : Stp), v7 = .slice (some ⟨g, 0, none⟩) (K + 1) c ∧ K = bs.length ∧ k = fallL logs.length N (s.next :: bs.map Stp.next) ∧ K ≤ N ∧ s.next ≤ logs.length ∧ w.heap.size ≤ g ∧
  Hid (Trail logs N m bs s) ∧ Hid (Tried logs N s s.next) ∧ Hid (elS.Own wr g (.slice (some ⟨g, 0, none⟩) (K + 1) c) (s :: bs).reverse) ∧ Hid (Marks (Dead logs N) wr (w.heap.size + 1)) ∧ Below w.heap.size w wr)
 case atStart => exact ⟨_, _, 0, [], ⟨zero8, m, 0, zero8_length, hm⟩, rfl, rfl, rfl, Nat.zero_le _, Nat.zero_le _, by omega, Lib.hid ⟨rfl, rfl⟩, Lib.hid (fun k hk => absurd hk (Nat.not_lt_zero k)), SB, MK, low⟩
 case round =>
  clear SB MK low
  obtain ⟨g, c7, K, bs, s, rfl, hKb, rfl, hKN, hsn, hg, TR, TD, OW, MK, low⟩ := hrel
  by_cases hle : K + 1 ≤ N
  ·have hle' : (K : Int) + 1 ≤ N := by omega
   have k0 : (0 : Int) ≤ K := by omega
   have kc : K + 1 ≤ c7 := OW.out.cap.2.2.1
   have kc2 : c7 ≤ 9223372036854775807 := OW.out.cap.2.2.2
   have KB := Lib.hid hKb
   have gk0 := OW.out.lt
   clear hKb
   go_wp2_with fail
   go_loopg [7] (logs.length - s.next) (fun k v7 wx => ∃ q : Nat, v7 = .slice (some ⟨g, 0, none⟩) (K + 1) c7 ∧ k = logs.length - q ∧ q ≤ logs.length ∧ s.next ≤ q ∧
    Hid (Tried logs N s q) ∧ Hid (elS.Own wx g (.slice (some ⟨g, 0, none⟩) (K + 1) c7) (s.to q :: bs).reverse) ∧ Hid (Marks (Dead logs N) wx (w.heap.size + 1)) ∧ Below w.heap.size w wx)
   case atStart => exact ⟨s.next, rfl, rfl, hsn, Nat.le_refl _, TD, OW, MK, low⟩
   case round =>
    clear OW MK low TD
    obtain ⟨q, rfl, rfl, hqL, hqs, TD, OW, MK, low⟩ := hrel
    have top : (s.to q :: bs).reverse[K]? = some (s.to q) := by rw [KB.out]; exact rev_top
    have cn := step_next OW.out top
    have rp := step_place OW.out top
    have gl := OW.out.lt
    have gne : w.heap.size + 1 ≠ g := by
     obtain ⟨cur, hb⟩ := OW.out.box
     exact (MK.out.ne hb).symm
    have TOP := Lib.hid top
    clear top
    change wr.cell? ⟨g, K * 73 + 72, none⟩ = some (.int .i64 (q : Int)) at cn
    change wr.rangeAt g (K * 73) (ptA s.at_ s.mem).toList at rp
    by_cases hq : q < logs.length
    ·have hq' : (q : Int) < logs.length := by omega
     have q0 : (0 : Int) ≤ q := by omega
     have AFQ := Lib.hid fun W h => AF.out W s.at_ s.mem q h s.ha s.hm TR.out.upto hq
     have XL := Lib.hid (show ∀ x, stepK logs s.mem s.at_ q = some x → x.1.length = 8 ∧ x.2.length = 64 from fun x hx => stepK_lengths s.ha s.hm hx)
     obtain ⟨x, hx⟩ : ∃ x, stepK logs s.mem s.at_ q = x := ⟨_, rfl⟩
     rw [hx] at AFQ XL
     have HX := Lib.hid hx
     obtain ⟨pa, pm, hp⟩ : ∃ pa pm, gotP x = (pa, pm) := ⟨_, _, rfl⟩
     have hpl : pa.length = 8 ∧ pm.length = 64 := by
      cases x with
      | none => cases hp; exact ⟨zero8_length, zeroL_length⟩
      | some y => cases hp; exact XL.out _ rfl
     obtain ⟨hpa, hpm⟩ := hpl
     rw [hp] at AFQ
     have HP := Lib.hid hp
     simp only at AFQ
     clear hx hp XL
     go_wp2_with fail
     refine wp_region_noPanic ?_
     refine wp_region_held_drew (S := fun w' => w'.rangeAt g (K * 73) (ptA s.at_ s.mem).toList ∧ w'.cell? ⟨g, K * 73 + 72, none⟩ = some (.int .i64 (q : Int))) (by kernel_rfl) ⟨rangeC (Below.refl _ _).drew rp, drewC cn⟩ (fun hHeld => ?_)
     clear cn rp
     refine takeA 0 ?_ rfl ?_ ?_; rotate_left
     ·(intro w hSw; go_simp; try (with_reducible rfl))
     try simp only [Act.put, List.setIfInBounds_toArray, List.set_cons_zero, List.set_cons_succ]
     refine takeA 1 ?_ rfl ?_ ?_; rotate_left
     ·(intro w hSw; go_simp; try (with_reducible rfl))
     try simp only [Act.put, List.setIfInBounds_toArray, List.set_cons_zero, List.set_cons_succ]
     refine takeA 2 ?_ rfl ?_ ?_; rotate_left
     ·(intro w hSw; go_simp; try (with_reducible rfl))
     try simp only [Act.put, List.setIfInBounds_toArray, List.set_cons_zero, List.set_cons_succ]
     refine takeFirst (i := 3) (v := .agg (ptA s.at_ s.mem)) rfl (by kernel_rfl) (by kernel_rfl) (by kernel_rfl) (by rfl) (fun _ _ _ h => h) (fun _ hSw => exec_loadPt s.ha s.hm rfl hSw.1) (by assumption) ?_
     try simp only [Act.put, List.setIfInBounds_toArray, List.set_cons_zero, List.set_cons_succ]
     refine takeA 4 ?_ rfl ?_ ?_; rotate_left
     ·(intro w hSw; go_simp; try (with_reducible rfl))
     try simp only [Act.put, List.setIfInBounds_toArray, List.set_cons_zero, List.set_cons_succ]
     refine takeA 5 ?_ rfl ?_ ?_; rotate_left
     ·(intro w hSw; go_simp; try (with_reducible rfl))
     try simp only [Act.put, List.setIfInBounds_toArray, List.set_cons_zero, List.set_cons_succ]
     refine takeA 6 ?_ rfl ?_ ?_; rotate_left
     ·(intro w hSw; go_simp; try (with_reducible rfl))
     try simp only [Act.put, List.setIfInBounds_toArray, List.set_cons_zero, List.set_cons_succ]
     refine takeA 7 ?_ rfl ?_ ?_; rotate_left
     ·(intro w hSw; go_simp; try (with_reducible rfl))
     try simp only [Act.put, List.setIfInBounds_toArray, List.set_cons_zero, List.set_cons_succ]
     refine takeA 8 ?_ rfl ?_ ?_; rotate_left
     ·(intro w hSw; go_simp; try (with_reducible rfl))
     try simp only [Act.put, List.setIfInBounds_toArray, List.set_cons_zero, List.set_cons_succ]
     replace OW := Lib.hid OW.out.drew
     replace MK := Lib.hid MK.out.drew
     replace low := low.drew
     have gl2 : g < wr.drew.heap.size := gl
     clear gl
     generalize wr.drew = wN at *
     have near := Below.refl wN.heap.size wN
     apply shareGot (M := fun g1 wz => Got wN g1 wz ∧ wz.rangeAt g (K * 73) (ptA s.at_ s.mem).toList ∧ wz.cell? ⟨g, K * 73 + 72, none⟩ = some (.int .i64 (q : Int)))
     ·intro hE
      refine stepTwo (i1 := 9) (i2 := 13) (by kernel_rfl) rfl rfl (by rfl) (by rfl) (fun K hK => ?_) (fun K hK => ?_)
      ·go_simp
       (with_reducible refine (AFQ.out _ (HL.out.call (gCall low near))).mono ?_); rintro e wy ⟨rfl, hb⟩
       replace near := gCall near hb
       replace hHeld := And.intro (rangeC hb hHeld.1) (callC hb hHeld.2)
       clear hb
       refine hK.out _ _ hHeld ?_
       clear hK K
       try simp only [Act.put]
       try simp only [List.setIfInBounds_toArray, List.set_cons_zero, List.set_cons_succ]
       refine takeA 10 ?_ rfl ?_ ?_; rotate_left
       ·(intro w hSw; go_simp; try (with_reducible rfl))
       try simp only [Act.put, List.setIfInBounds_toArray, List.set_cons_zero, List.set_cons_succ]
       refine takeA 11 ?_ rfl ?_ ?_; rotate_left
       ·(intro w hSw; go_simp; try (with_reducible rfl))
       try simp only [Act.put, List.setIfInBounds_toArray, List.set_cons_zero, List.set_cons_succ]
       refine takeA 12 ?_ rfl ?_ ?_; rotate_left
       ·(intro w hSw; go_simp; try (with_reducible rfl))
       try simp only [Act.put, List.setIfInBounds_toArray, List.set_cons_zero, List.set_cons_succ]
       refine stepNext (i := 13) (by kernel_rfl) rfl (by rfl) (fun K hK => ?_)
       have sz := near.size
       have box := Box.new wy 145 (ptA zero8 zeroL)
       refine op_newPt ?_
       replace hHeld := And.intro (rangeC (gAlloc (Below.refl _ _) (.cells (ptA zero8 zeroL) 145)) hHeld.1) (allocC (.cells (ptA zero8 zeroL) 145) hHeld.2)
       replace near := gAlloc near (.cells (ptA zero8 zeroL) 145)
       refine hK.out _ _ hHeld ?_
       clear hK K
       try simp only [Act.put]
       try simp only [List.setIfInBounds_toArray, List.set_cons_zero, List.set_cons_succ]
       generalize wy.alloc (.cells (ptA zero8 zeroL) 145) = wz at *
       generalize wy.heap.size = ga at *
       refine relist (l2 := #[true, true, true, true, true, true, true, true, true, true, true, true, true, true, false, false]) (by kernel_rfl) ?_
       exact hE _ _ ⟨⟨near, sz, box⟩, hHeld⟩
      ·have box := Box.new wN 145 (ptA zero8 zeroL)
       refine op_newPt ?_
       replace hHeld := And.intro (rangeC (gAlloc (Below.refl _ _) (.cells (ptA zero8 zeroL) 145)) hHeld.1) (allocC (.cells (ptA zero8 zeroL) 145) hHeld.2)
       replace near := gAlloc near (.cells (ptA zero8 zeroL) 145)
       refine hK.out _ _ hHeld ?_
       clear hK K
       try simp only [Act.put]
       try simp only [List.setIfInBounds_toArray, List.set_cons_zero, List.set_cons_succ]
       generalize wN.alloc (.cells (ptA zero8 zeroL) 145) = wx at *
       generalize hga : wN.heap.size = ga at box ⊢
       have HGA := Lib.hid hga
       clear hga
       refine stepNext (i := 9) (by kernel_rfl) rfl (by rfl) (fun K hK => ?_)
       go_simp
       (with_reducible refine (AFQ.out _ (HL.out.call (gCall low near))).mono ?_); rintro e wy ⟨rfl, hb⟩
       replace near := gCall near hb
       replace hHeld := And.intro (rangeC hb hHeld.1) (callC hb hHeld.2)
       replace box := box.call hb
       clear hb
       refine hK.out _ _ hHeld ?_
       clear hK K
       try simp only [Act.put]
       try simp only [List.setIfInBounds_toArray, List.set_cons_zero, List.set_cons_succ]
       refine takeA 10 ?_ rfl ?_ ?_; rotate_left
       ·(intro w hSw; go_simp; try (with_reducible rfl))
       try simp only [Act.put, List.setIfInBounds_toArray, List.set_cons_zero, List.set_cons_succ]
       refine takeA 11 ?_ rfl ?_ ?_; rotate_left
       ·(intro w hSw; go_simp; try (with_reducible rfl))
       try simp only [Act.put, List.setIfInBounds_toArray, List.set_cons_zero, List.set_cons_succ]
       refine takeA 12 ?_ rfl ?_ ?_; rotate_left
       ·(intro w hSw; go_simp; try (with_reducible rfl))
       try simp only [Act.put, List.setIfInBounds_toArray, List.set_cons_zero, List.set_cons_succ]
       refine relist (l2 := #[true, true, true, true, true, true, true, true, true, true, true, true, true, true, false, false]) (by kernel_rfl) ?_
       exact hE _ _ ⟨⟨near, Nat.le_of_eq HGA.out, box⟩, hHeld⟩
     clear hHeld near
     rintro g1 w3 ⟨⟨near, sz1, yb⟩, hHeld⟩
     refine stepNext (i := 14) (by kernel_rfl) rfl (by rfl) (fun K hK => ?_)
     have gl3 := MK.out.lt
     refine wp_store_box 145 (.tmp 10) (.tmp 46) rfl _ (ptA pa pm) rfl rfl yb (by rw [tyPt.size, ptA_zsize hpa hpm]) (by rw [ptA_zsize hpa hpm]) (ptA_one pa pm) ?_
     intro w4 zb st
     have OW4 := (OW.out.call near).stored st (by omega)
     have MK4 := (MK.out.call near).stored st (by omega)
     have low4 := st.low (gCall low near) (by omega)
     have gg : g ≠ g1 := by omega
     replace hHeld := And.intro (rangeSt st gg hHeld.1) (st.cell (by exact gg) hHeld.2)
     refine hK.out _ _ hHeld ?_
     clear hK K
     try simp only [Act.put]
     try simp only [List.setIfInBounds_toArray, List.set_cons_zero, List.set_cons_succ]
     refine takeA 15 ?_ rfl ?_ ?_; rotate_left
     ·(intro w hSw; go_simp; try (with_reducible rfl))
     try simp only [Act.put, List.setIfInBounds_toArray, List.set_cons_zero, List.set_cons_succ]
     refine wpAnyH_done (by kernel_rfl) ?_ _
     refine NoPanic.normal ?_
     clear hHeld st yb near sz1 gl2 gl3 OW MK low AFQ
     have cn4 : w4.cell? ⟨g, K * 73 + 72, none⟩ = some (.int .i64 (q : Int)) := step_next OW4 TOP.out
     have fr4 := OW4.free (K * 73 + 72)
     have OW5 : elS.Own (w4.setCell ⟨g, K * 73 + 72, none⟩ (.int .i64 ((q : Int) + 1))) g (.slice (some ⟨g, 0, none⟩) (K + 1) c7) (s.to (q + 1) :: bs).reverse := by
      have := step_set OW4 TOP.out (s' := s.to (q + 1)) rfl rfl
      rw [show (s.to q :: bs).reverse.set K (s.to (q + 1)) = (s.to (q + 1) :: bs).reverse by rw [KB.out]; exact rev_set] at this
      exact this
     have zb5 := zb.far (p := ⟨g, K * 73 + 72, none⟩) (fun e => gg e.symm) (.int .i64 ((q : Int) + 1))
     have MK5 := MK4.stored (Stored.cell1 w4 ⟨g, K * 73 + 72, none⟩ (.int .i64 ((q : Int) + 1))) gne
     have low5 := gSet low4 (p := ⟨g, K * 73 + 72, none⟩) hg (.int .i64 ((q : Int) + 1))
     clear OW4 zb MK4 low4
     have OW5 := Lib.hid OW5
     have q8 : (q : Int) < 8 := by omega
     cases x with
     | none =>
      have MK5 := Lib.hid MK5
      go_wp2_with fail
      go_roundg (logs.length - (q + 1))
      case measure => omega
      case rel => exact ⟨q + 1, rfl, rfl, by omega, by omega, Lib.hid (TD.out.skip HX.out), OW5, MK5, low5⟩
     | some y =>
      obtain ⟨ya, ym⟩ := y
      obtain ⟨rfl, rfl⟩ : ya = pa ∧ ym = pm := by have := HP.out; cases this; exact ⟨rfl, rfl⟩
      obtain ⟨r, hr, hrD⟩ := MK5.look hpa hpm
      have RD := Lib.hid hrD
      have MK5 := Lib.hid MK5
      have szp := ptA_zsize hpa hpm
      clear hrD
      cases r with
      | true =>
       go_wp2_with ((with_reducible refine wp_loadW (tyPt) (zb5.range) (szp) ?_ ?_ ?_); rfl; rfl)
       go_roundg (logs.length - (q + 1))
       case measure => omega
       case rel => exact ⟨q + 1, rfl, rfl, by omega, by omega, Lib.hid (TD.out.lost HX.out (RD.out (by first | rfl | trivial))), OW5, MK5, low5⟩
      | false =>
       have len7 : (s.to (q + 1) :: bs).reverse.length = K + 1 := by rw [List.length_reverse, List.length_cons, KB.out]
       have OWA := OW5.out.alloc (.cells (stpA ya ym 0) 147)
       have row := OWA.row hg
       rw [len7] at row
       have ROW := Lib.hid row
       have K12 : K ≤ 12 := by omega
       have lz := (gAlloc low5 (.cells (stpA ya ym 0) 147)).size
       clear row len7
       go_wp2_with (first | ((with_reducible refine wp_loadW (tyPt) (zb5.range) (szp) ?_ ?_ ?_); rfl; rfl) | ((with_reducible refine wp_buildSt hpa hpm ?_ ?_); rfl) | ((with_reducible refine wp_sliceSt hpa hpm ?_ ?_); rfl) | (at_builtin; refine wpList_append_own _ rfl _ _ 148 rfl w.heap.size 147 i0 (.agg (stpA zero8 zeroL 0)) 73 584 Tryz.underlying148 HI.out HZ.out.1 HZ.out.2.1 HZ.out.2.2 (stpA_size zero8_length zeroL_length 0) (by decide) _ _ _ rfl ROW.out _ 1 1 (stL ya ym 0) rfl (stL_length hpa hpm 0) ?d1 (stL_one ya ym 0) ?d3 ?d4 ?d5 ?_))
       case d1 => exact trail_next _ 0 _ rfl
       case d3 => unfold maxLen; omega
       case d4 => omega
       case d5 => exact lz
       intro v8 w8 own8 grow8 _
       have low8 : Below w.heap.size w w8 := (gAlloc low5 (.cells (stpA ya ym 0) 147)).grown grow8 lz (fun g e => by cases e; exact hg)
       have MK8 := Lib.hid ((MK5.out.alloc (.cells (stpA ya ym 0) 147)).grown grow8 (by simp only [Value.ownBlock, ne_eq, Option.some.injEq]; exact gne))
       have lenB : bs.length = K := KB.out.symm
       obtain ⟨g8, hg8, OW8⟩ := El.Own.of (E := elS) (l := bs.reverse ++ [s.to (q + 1)] ++ [⟨ya, ym, 0, hpa, hpm⟩]) (base := w.heap.size) (n := K + 1 + 1) (by rw [El.C_snoc]; exact own8) (by simp [lenB]) (by simp)
       obtain ⟨c8, hv8⟩ := OW8.shape
       have hl8 : (bs.reverse ++ [s.to (q + 1)] ++ [(⟨ya, ym, 0, hpa, hpm⟩ : Stp)]).length = K + 1 + 1 := by simp [lenB]
       rw [hl8] at hv8
       rw [hv8] at OW8
       have OW8 := Lib.hid (show elS.Own w8 g8 (.slice (some ⟨g8, 0, none⟩) (K + 1 + 1) c8) ((⟨ya, ym, 0, hpa, hpm⟩ : Stp) :: s.to (q + 1) :: bs).reverse by rw [List.reverse_cons, List.reverse_cons]; exact OW8)
       have HV := Lib.hid hv8
       have FALL := Lib.hid (show fallL logs.length N (0 :: (q + 1) :: bs.map Stp.next) < fallL logs.length N (s.next :: bs.map Stp.next) from fall_push (by rw [List.length_map, lenB]; exact hle) (by omega) (by omega))
       have TR8 := Lib.hid (show Trail logs N m (s.to (q + 1) :: bs) ⟨ya, ym, 0, hpa, hpm⟩ from TR.out.push (by rw [lenB]; exact hle) TD.out hq HX.out rfl rfl rfl)
       clear own8 grow8 hv8 hl8 lenB ROW OWA OW5 MK5 low5 zb5
       go_wp2_with fail
       go_roundg (fallL logs.length N (0 :: (q + 1) :: bs.map Stp.next))
       case measure => exact FALL.out
       case rel => exact ⟨g8, c8, K + 1, s.to (q + 1) :: bs, ⟨ya, ym, 0, hpa, hpm⟩, HV.out, by rw [List.length_cons, KB.out], rfl, hle, Nat.zero_le _, hg8, TR8, Lib.hid (fun k hk => absurd hk (Nat.not_lt_zero k)), OW8, MK8, low8⟩
    ·obtain rfl : q = logs.length := by omega
     have hq' : ¬ (logs.length : Int) < logs.length := by omega
     have lenB : bs.length = K := KB.out.symm
     have DD := Lib.hid (TR.out.dead (by omega) TD.out)
     have szp := ptA_zsize s.ha s.hm
     have gb1 : w.heap.size ≤ w.heap.size + 1 := by omega
     have SZ := Lib.hid low.size
     have LOW := Lib.hid low
     clear TD hq
     go_wp2_with (first | ((with_reducible refine wp_loadW (tyPt) (rp) (szp) ?_ ?_ ?_); rfl; rfl) | ((with_reducible refine wp_mark rfl (.tmp 67) (.tmp 71) (.const (.bool true)) rfl MK.out s.ha s.hm DD.out ?_ ?_ ?_ ?_); rfl; rfl; rfl))
     intro w5 mk5 grow5
     have low5 := LOW.out.grown grow5 SZ.out (fun g e => by cases e; exact gb1)
     have OW5 := OW.out.grown grow5 (by simp only [ne_eq, Option.some.injEq]; exact gne.symm)
     have OW6 := Lib.hid (OW5.front (k := K) (by simp [lenB]))
     have MK5 := Lib.hid mk5
     clear mk5 grow5 OW5 OW MK LOW SZ low rp cn szp
     cases bs with
     | nil =>
      obtain rfl : K = 0 := by rw [KB.out]; rfl
      have EN := Lib.hid (show explR m logs = none by
       have d := DD.out
       unfold Dead at d
       rw [TR.out.sum, List.length_nil, Nat.sub_zero, TR.out.1, TR.out.2] at d
       rw [ER.out]
       exact d)
      have FI : FoundIs m logs none 0 0 false w5 := by
       unfold FoundIs
       rw [EN.out]
       exact ⟨rfl, rfl, rfl, none, 0, rfl, Nat.le_refl _, Nat.zero_le _, fun h => absurd h (Nat.lt_irrefl 0)⟩
      have FH := Lib.hid FI
      clear FI EN DD OW6 MK5 TR KB
      go_wp2_with fail
      rw [Exit.noGoto_ret]
      go_ret2
      exact ⟨⟨_, _, _, _, rfl, FH.out⟩, low5⟩
     | cons b r =>
      obtain ⟨K', rfl⟩ : ∃ K', K = K' + 1 := ⟨r.length, by rw [KB.out]; rfl⟩
      have hK' : K' = r.length := by have := KB.out; simpa using this
      have KB2 := Lib.hid hK'
      have TR6 := Lib.hid TR.out.1
      have TD6 := Lib.hid (TR.out.pop DD.out)
      have BN := Lib.hid TR.out.2.2.2.2.1
      have FALL := Lib.hid (show fallL logs.length N (b.next :: r.map Stp.next) < fallL logs.length N (s.next :: (b :: r).map Stp.next) from fall_pop hqs)
      have ne0 : ((K' : Int) + 1 == 0) = false := by simp; omega
      have OW7 := Lib.hid (show elS.Own w5 g (.slice (some ⟨g, 0, none⟩) (K' + 1) c7) (b :: r).reverse by
       have := OW6.out
       rw [List.reverse_cons, List.take_append_of_le_length (by simp [hK']), List.take_of_length_le (by simp [hK'])] at this
       exact this)
      clear OW6 DD TR KB hK' lenB
      go_wp2_with fail
      go_roundg (fallL logs.length N (b.next :: r.map Stp.next))
      case measure => exact FALL.out
      case rel => exact ⟨g, c7, K', r, b, rfl, KB2.out, rfl, by omega, BN.out, hg, TR6, TD6, OW7, MK5, low5⟩
  ·obtain rfl : K = N := by omega
   have hle' : ¬ (K : Int) + 1 ≤ K := by omega
   have kc := OW.out.cap.2.2
   have kc1 : K ≤ c7 := by omega
   have lenB : bs.length = K := hKb.symm
   have OW6 := OW.out.front (k := K) (by simp [lenB])
   rw [List.reverse_cons, List.take_append_of_le_length (by simp [lenB]), List.take_of_length_le (by simp [lenB])] at OW6
   have TK := Lib.hid (taken_any (.slice (some ⟨g, 0, none⟩) K c7) bs.reverse wr OW6.r (by simp; omega) (fun b hb => by
    have := TR.out.nexts b (by simpa using hb)
    omega))
   have FD := Lib.hid (show explR m logs = some (bs.map fun b => b.next - 1).reverse by
    have e0 : explO logs (K - bs.length) s.mem s.at_ = some [] := by rw [lenB, Nat.sub_self]; rfl
    have := TR.out.found e0
    rw [ER.out, this, List.append_nil])
   have FI := Lib.hid (show ∀ u w', OwnI w' wr.heap.size u (pickI bs.reverse) → ∃ A n c, u = .slice A n c ∧ FoundIs m logs A n c true w' from fun u w' own => by
    obtain ⟨c', rfl, _⟩ := own.shape
    refine ⟨_, _, c', rfl, ?_⟩
    have sl := own.sl
    unfold FoundIs
    rw [FD.out]
    refine ⟨rfl, by simp [pickI], ?_⟩
    have e : ((pickI bs.reverse).map (Value.int .i64)) = (((bs.map fun b => b.next - 1).reverse).map fun (k : Nat) => Value.int .i64 (k : Int)) := by simp [pickI]
    rw [e] at sl
    exact sl)
   clear OW OW6 hKb TR TD MK FD lenB hle AF HI HZ
   go_wp2_with fail
   (with_reducible refine TK.out.mono ?_); rintro e w9 ⟨⟨u, rfl, own⟩, hb9⟩
   replace low := gCall low hb9
   obtain ⟨A9, n9, c9, rfl, fi⟩ := FI.out u w9 own
   have FH := Lib.hid fi
   clear FI own fi TK hb9
   go_wp2_with fail
   rw [Exit.noGoto_ret]
   go_ret2
   exact ⟨⟨_, _, _, _, rfl, FH.out⟩, low⟩
end Go.Proofs.YtcegjehoejgofaaGreat
