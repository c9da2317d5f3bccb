/-
Proved: the law 'OrderTells' returns true for every argument, and changes nothing that was there. Conditions: what Legal and Keeps of package order tell (handed in).
-/
import Derived.Test.YtgoaedbhcldmiaaOrderSpec
import Derived.Test.YtgoaedbhcldmiaaOpsSame
import Derived.Test.YtgoaedbhcldmiaaOpsCut
import Derived.Test.YtgoaedbhcldmiaaProgs
import Derived.Test.YtgoaedbhcldmiaaRegion
import Derived.Deep.CutBlock
namespace Go.Proofs.Ytgoaedbhcldmiaa.orderTells
open Go.ChangeShapes Go.WideShapes Go.ChangeAt Go.RowKit Go.Joins

/-- The contracts of Legal and Keeps. -/
def LegalIs : Prop := ∀ (m : List Int) (u : Value) (l : List Td) (w : World), m.length = 64 → elT.R w u l →
  Calls Try.prog 6 #[memV m, u] w fun e w' => e = .returned (.tuple #[.bool (toldE 200 l == 0 && legB m l), .int .i64 (toldE 200 l)]) ∧ Below w.heap.size w w'
def KeepsIs : Prop := ∀ (v u : Value) (p : List (List Dd)) (l : List Td) (w : World), Ps w v p → elT.R w u l →
  Calls Try.prog 7 #[v, u] w fun e w' => e = .returned (.tuple #[.bool (keepE p l == 0 && keepB p l), .int .i64 (keepE p l)]) ∧ Below w.heap.size w w'

theorem cellD_new (w : World) (t : TypeId) (x : Dd) (g q : Nat) (u : Value) (hg : g = w.heap.size) (h : x.cells[q]? = some u) : (w.alloc (.cells x.arr t)).cell? ((⟨g, 0, none⟩ : Addr).add q) = some u := by
  subst hg
  have e : (⟨w.heap.size, 0, none⟩ : Addr).add q = ⟨w.heap.size, q, none⟩ := by cases q <;> simp [Addr.add]
  rw [e, (Box.new w t x.arr).cell, ← h]
  simp [Dd.arr]
theorem wp_newM {dst : Option Tmp} {t : TypeId} {pos : String} {after : Array Edge} {a : Act} {w : World} {K : Act → World → Prop} {Q : Exit → Act → World → Prop}
    (h : K (a.put dst (.pointer (some ⟨w.heap.size, 0, none⟩))) (w.alloc (.cells (memA zeroL) 26))) : Oper.wp Try.prog ⟨dst, .alloc 26, t, pos, after, none⟩ a w K Q := by
  unfold Oper.wp execOp
  simp only [Instr.alloc, Sem.run_bind, (zero_of_info mem_info).1, newVar, newRow, run_newObj_alloc, Sem.run_pure, Result.andThen_ok]
  exact h

set_option maxRecDepth 10000 in
set_option maxHeartbeats 4000000 in
theorem walk_bad (LGI : LegalIs) (KPI : KeepsIs) (m : List Int) (v u : Value) (p : List (List Dd)) (l : List Td) (w : World) (hm : m.length = 64) (h : Ps w v p) (hl : elT.R w u l) (hE : toldE 200 l ≠ 0) :
    Calls Try.prog 3 #[memV m, v, u] w fun e w' => e = .returned (.bool true) ∧ Below w.heap.size w w' := by
  have LG := Lib.hid fun w h => LGI m u l w hm h
  have KP := Lib.hid fun w h hl => KPI v u p l w h hl
  have TF := Lib.hid fun w h => toldFault_any u l 200 w h
  have HP := Lib.hid h
  have HL := Lib.hid hl
  rw [show keepE p l = toldE 200 l by unfold keepE; rw [if_pos hE]] at KP
  generalize toldE 200 l = E at *
  have hE1 : (E == 0) = false := by simpa using hE
  have hE2 : (E != 0) = true := by simpa using hE
  simp only [hE1, Bool.false_and] at LG KP
  clear h hl hE
  have low := Below.refl w.heap.size w
  have mb := boxNext low 26 (memA m)
  replace low := gAlloc low (.cells (memA m) 26)
  try simp only [World.size_alloc] at mb
  have MB : Mb _ _ m := ⟨mb, hm⟩
  clear mb
  go_enter Try.func3, Try.ntmps3
  go_wp2_with ((with_reducible refine wp_loadMem (MB) ?_ ?_ ?_); rfl; rfl)
  (with_reducible refine (LG.out _ (HL.out.call low)).mono ?_); rintro e w1 ⟨rfl, hb⟩
  replace MB := MB.call hb
  replace low := gCall low hb
  clear hb LG
  go_wp2_with fail
  (with_reducible refine (KP.out _ (HP.out.call low) (HL.out.call low)).mono ?_); rintro e w2 ⟨rfl, hb⟩
  replace MB := MB.call hb
  replace low := gCall low hb
  clear hb KP
  go_wp2_with fail
  (with_reducible refine (TF.out _ (HL.out.call low)).mono ?_); rintro e w3 ⟨rfl, hb⟩
  replace MB := MB.call hb
  replace low := gCall low hb
  clear hb TF
  go_wp2_with fail
  go_ret
  exact ⟨rfl, low⟩

set_option maxRecDepth 10000 in
set_option maxHeartbeats 8000000 in
theorem walk_good (LGI : LegalIs) (KPI : KeepsIs) (m : List Int) (v u : Value) (p : List (List Dd)) (l : List Td) (w : World) (hm : m.length = 64) (h : Ps w v p) (hl : elT.R w u l) (hE : toldE 200 l = 0) :
    Calls Try.prog 3 #[memV m, v, u] w fun e w' => e = .returned (.bool true) ∧ Below w.heap.size w w' := by
  have LG := Lib.hid fun w h => LGI m u l w hm h
  have KP := Lib.hid fun w h hl => KPI v u p l w h hl
  have TF := Lib.hid fun w h => toldFault_any u l 200 w h
  have HP := Lib.hid h
  have HL := Lib.hid hl
  have KE := Lib.hid (show keepE p l = if 8 < p.length then 3 else 0 by unfold keepE; rw [if_neg (by simpa using hE)])
  rw [hE] at LG TF
  simp only [BEq.rfl, Bool.true_and] at LG
  obtain ⟨h200, hrun⟩ : l.length ≤ 200 ∧ runE (l.map Td.d) = 0 := by
    unfold toldE at hE
    by_cases h1 : (200 : Int) < l.length
    · rw [if_pos h1] at hE; cases hE
    · rw [if_neg h1] at hE; exact ⟨by omega, hE⟩
  have OK := Lib.hid (show ∀ t ∈ l, deedE t.d = 0 from fun t ht => runE_zero.1 hrun t.d (List.mem_map.2 ⟨t, ht, rfl⟩))
  obtain ⟨_, A, c, rfl, g1, g2, g3⟩ := hl
  have G3 := Lib.hid g3
  unfold maxLen at g2
  obtain ⟨A1, c1, rfl⟩ := h.shape
  obtain ⟨i0, hi, hz0, hz1, hz2⟩ := info_parts info_deed
  have HI := Lib.hid hi
  have HZ := Lib.hid (And.intro hz0 (And.intro hz1 hz2))
  clear hi hz0 hz1 hz2
  generalize hk : keepE p l = EK at *
  have KEQ := Lib.hid hk
  generalize hkb : (EK == 0 && keepB p l) = KB at *
  have KBQ := Lib.hid hkb
  clear h hE hrun g3 hk hkb
  have low := Below.refl w.heap.size w
  have mb := boxNext low 26 (memA m)
  replace low := gAlloc low (.cells (memA m) 26)
  try simp only [World.size_alloc] at mb
  have MB : Mb _ _ m := ⟨mb, hm⟩
  clear mb
  go_enter Try.func3, Try.ntmps3
  go_wp2_with ((with_reducible refine wp_loadMem (MB) ?_ ?_ ?_); rfl; rfl)
  (with_reducible refine (LG.out _ (HL.out.call low)).mono ?_); rintro e w1 ⟨rfl, hb⟩
  replace MB := MB.call hb
  replace low := gCall low hb
  clear hb LG
  go_wp2_with fail
  (with_reducible refine (KP.out _ (HP.out.call low) (HL.out.call low)).mono ?_); rintro e w2 ⟨rfl, hb⟩
  replace MB := MB.call hb
  replace low := gCall low hb
  clear hb KP
  go_wp2_with fail
  (with_reducible refine (TF.out _ (HL.out.call low)).mono ?_); rintro e w3 ⟨rfl, hb⟩
  replace MB := MB.call hb
  replace low := gCall low hb
  clear hb TF
  go_upto_region 6 with fail
  refine wp_region_noPanic ?_
  refine wp_region_held_drew (S := fun w' => Mb w' w.heap.size m) (by kernel_rfl) MB.drew (fun hHeld => ?_)
  refine takeFirst (i := 0) (v := memV (m)) rfl (by kernel_rfl) (by kernel_rfl) (by kernel_rfl) (by rfl) (fun _ _ _ h => h) (fun _ hSw => exec_loadMem rfl (hSw)) (by assumption) ?_
  try simp only [Act.put, List.setIfInBounds_toArray, List.set_cons_zero, List.set_cons_succ]
  refine stepNext (i := 1) (by kernel_rfl) rfl (by rfl) (fun K hK => ?_)
  refine wp_newM ?_
  have yb := Mb.new (l := zeroL) w3.drew zeroL_length
  replace hHeld := hHeld.alloc (.cells (memA zeroL) 26)
  replace low := gAlloc low.drew (.cells (memA zeroL) 26)
  have w3s : w.heap.size < w3.heap.size := MB.lt
  refine hK.out _ _ hHeld ?_
  clear hK K
  try simp only [Act.put]
  try simp only [List.setIfInBounds_toArray, List.set_cons_zero, List.set_cons_succ]
  refine takeFirst (i := 2) (v := ?_) rfl (by kernel_rfl) (by kernel_rfl) (by kernel_rfl) (by rfl) (fun _ _ _ h => h) ?_ (by assumption) ?_
  rotate_left
  · (intro w hSw; go_simp; try (with_reducible rfl))
  try simp only [Act.put, List.setIfInBounds_toArray, List.set_cons_zero, List.set_cons_succ]
  refine stepNext (i := 3) (by kernel_rfl) rfl (by rfl) (fun K hK => ?_)
  refine wp_store_box 26 (.tmp 13) (.tmp 56) rfl _ (memA m) rfl rfl yb.1 (by rw [mem_size, memA_size, hm]) (by rw [memA_size, memA_size, zeroL_length, hm]) (memA_one m) ?_
  intro w4 zb st
  replace low := st.low low (by show w.heap.size ≤ w3.heap.size; omega)
  replace hHeld := Mb.mk (st.box hHeld.1 (by show w.heap.size ≠ w3.heap.size; omega)) hHeld.2
  clear st yb MB
  refine hK.out _ _ hHeld ?_
  clear hK K
  try simp only [Act.put]
  try simp only [List.setIfInBounds_toArray, List.set_cons_zero, List.set_cons_succ]
  refine wpAnyH_done (by kernel_rfl) ?_ _
  refine NoPanic.normal ?_
  clear hHeld
  have zb2 : Mb w4 w3.heap.size m := ⟨zb, hm⟩
  clear zb
  rw [show w3.drew.heap.size = w3.heap.size from rfl]
  generalize w3.heap.size = g3 at *
  go_wp2_with fail
  go_loopw [12, 59] (fun lv i wr => ∃ j : Nat, j ≤ l.length ∧ i = .int .i64 j ∧ lv = .bool (legB m (l.take j)) ∧ Mb wr g3 (runM m ((l.take j).map Td.d)) ∧ Below w.heap.size w wr) (fun _ i _ => l.length - (intOf i).toNat)
  case atStart => exact ⟨0, Nat.zero_le _, rfl, by rw [List.take_zero, legB_nil], zb2, low⟩
  case round =>
    clear zb2 low
    obtain ⟨j, hj, rfl, rfl, mb, low⟩ := hrel
    by_cases hlt : j < l.length
    · obtain ⟨b, o, rfl, hb, hc⟩ := G3.out (by omega)
      have hx : l[j]? = some l[j] := List.getElem?_eq_getElem _
      generalize l[j] = x at hx
      obtain ⟨c0, c1', c2, c3, c4⟩ := toldAt_of hc hb low hx
      have DE := OK.out x (List.mem_of_getElem? hx)
      have NL := Lib.hid (legB_snoc (m := m) hx)
      have NM := Lib.hid (runM_td (m := m) hx)
      have hm1 := mb.2
      have PL := Lib.hid fun w => plain_ok _ hm1 x.d DE w
      have hm2 := doM_length x.d hm1
      generalize runM m ((l.take j).map Td.d) = M1 at *
      generalize legB m (l.take j) = LB at *
      obtain ⟨⟨dn, dk, da, dv⟩, tv⟩ := x
      simp only at c0 c1' c2 c3 c4 NL NM PL hm2
      generalize doM M1 ⟨dn, dk, da, dv⟩ = M2 at *
      generalize doV M1 ⟨dn, dk, da, dv⟩ = V at *
      have j0 : (0 : Int) ≤ j := by omega
      have j1 : (j : Int) < l.length := by omega
      have xb := Box.new wr 38 #[.int .i64 dn, .int .i64 dk, .int .i64 da, .int .u64 dv, .int .u64 tv]
      replace mb := mb.alloc (.cells #[.int .i64 dn, .int .i64 dk, .int .i64 da, .int .u64 dv, .int .u64 tv] 38)
      replace low := gAlloc low (.cells #[.int .i64 dn, .int .i64 dk, .int .i64 da, .int .u64 dv, .int .u64 tv] 38)
      clear hx hc DE
      go_wp2_with ((with_reducible refine wp_loadMem (mb) ?_ ?_ ?_); rfl; rfl)
      (with_reducible refine (PL.out _).mono ?_); rintro e w5 ⟨rfl, hb5⟩
      replace mb := mb.call hb5
      replace xb := xb.call hb5
      replace low := gCall low hb5
      clear hb5 PL c0 c1' c2 c3 c4
      have nb := Mb.new (l := M2) w5 hm2
      replace mb := mb.alloc (.cells (memA M2) 26)
      replace xb := xb.alloc (.cells (memA M2) 26)
      replace low := gAlloc low (.cells (memA M2) 26)
      have gx := box_ne xb mb.1 (by decide)
      have gl : w.heap.size ≤ g3 := by omega
      go_wp2_with (first | (with_reducible refine wp_newMem ?_) | ((with_reducible refine wp_storeNew (zeroL_length) (hm2) ?_ ?_ ?_); rfl; rfl) | ((with_reducible refine wp_loadMem (nb) ?_ ?_ ?_); rfl; rfl) | ((with_reducible refine wp_storeMem (mb) (hm2) ?_ ?_ ?_); rfl; rfl))
      intro w6 m6 st
      replace xb := st.box xb gx
      replace low := st.low low gl
      have M6 := Lib.hid m6
      clear st nb mb m6 gx
      have xb_0 := xb.at_ 0 rfl
      have xb_1 := xb.at_ 1 rfl
      have xb_2 := xb.at_ 2 rfl
      have xb_3 := xb.at_ 3 rfl
      have xb_4 := xb.at_ 4 rfl
      cases LB
      · go_wp2_with fail
        clear xb_0 xb_1 xb_2 xb_3 xb_4
        go_roundw
        case rel => exact ⟨j + 1, by omega, by go_num, by rw [NL.out]; rfl, by rw [NM.out]; exact M6.out, low⟩
        case measure => simp [intOf]; omega
      · have xb_0 := xb.at_ 0 rfl
        have xb_1 := xb.at_ 1 rfl
        have xb_2 := xb.at_ 2 rfl
        have xb_3 := xb.at_ 3 rfl
        have xb_4 := xb.at_ 4 rfl
        go_wp2_with fail
        clear xb_0 xb_1 xb_2 xb_3 xb_4
        go_roundw
        case rel => exact ⟨j + 1, by omega, by go_num, by rw [NL.out]; simp, by rw [NM.out]; exact M6.out, low⟩
        case measure => simp [intOf]; omega
    · obtain rfl : j = l.length := by omega
      rw [List.take_length]
      generalize legB m l = LL at *
      clear mb
      by_cases h8 : 8 < p.length
      · have h8' : (8 : Int) < p.length := by omega
        obtain rfl : EK = 3 := KE.out.trans (if_pos h8)
        obtain rfl : KB = false := by rw [← KBQ.out]; rfl
        clear KE KBQ KEQ h8
        go_wp2_with fail
        go_ret
        exact ⟨rfl, low⟩
      · have h8' : ¬ (8 : Int) < p.length := by omega
        obtain rfl : EK = 0 := KE.out.trans (if_neg h8)
        have KK := Lib.hid (show KB = (List.range 8).all (keep1 p l) by rw [← KBQ.out]; rfl)
        clear KE KBQ KEQ
        go_wp2_with fail
        go_loopw [18, 95] (fun kv i wr => ∃ k : Nat, k ≤ 8 ∧ i = .int .i64 k ∧ kv = .bool ((List.range k).all (keep1 p l)) ∧ Below w.heap.size w wr) (fun _ i _ => 8 - (intOf i).toNat)
        case atStart => exact ⟨0, Nat.zero_le _, rfl, rfl, low⟩
        case round =>
          clear low
          obtain ⟨k, hk, rfl, rfl, low⟩ := hrel
          by_cases hlt2 : k < 8
          · have k0 : (0 : Int) ≤ k := by omega
            have k1 : (k : Int) < 8 := by omega
            have NK := Lib.hid (keeps_succ p l k)
            generalize (List.range k).all (keep1 p l) = KV at *
            rename World => wB
            go_wp2_with fail
            go_loopw [20, 100] (fun mv i wr => ∃ j : Nat, j ≤ l.length ∧ i = .int .i64 j ∧ Hid (wr.ownsRow w.heap.size 36 4 mv (onD k ((l.take j).map Td.d)).length (deedsC (onD k ((l.take j).map Td.d)))) ∧ Below w.heap.size w wr) (fun _ i _ => l.length - (intOf i).toNat)
            case atStart => exact ⟨0, Nat.zero_le _, rfl, Lib.hid (World.ownsRow_nil _ _ _ _), low⟩
            case round =>
              clear low
              obtain ⟨j, hj, rfl, mr, low⟩ := hrel
              by_cases hlt : j < l.length
              · obtain ⟨b, o, rfl, hb, hc⟩ := G3.out (by omega)
                have hx : l[j]? = some l[j] := List.getElem?_eq_getElem _
                generalize l[j] = x at hx
                obtain ⟨c0, c1', c2, c3, c4⟩ := toldAt_of hc hb low hx
                have ON := Lib.hid (onD_td (k := k) hx)
                have few := Nat.le_trans (onD_few k (l.take j)) (show (l.take j).length ≤ 200 by rw [List.length_take]; omega)
                generalize onD k ((l.take j).map Td.d) = D at *
                obtain ⟨⟨dn, dk, da, dv⟩, tv⟩ := x
                simp only at c0 c1' c2 c3 c4 ON
                have j0 : (0 : Int) ≤ j := by omega
                have j1 : (j : Int) < l.length := by omega
                have lz := low.size
                have xb := Box.new wr 38 #[.int .i64 dn, .int .i64 dk, .int .i64 da, .int .u64 dv, .int .u64 tv]
                replace low := gAlloc low (.cells #[.int .i64 dn, .int .i64 dk, .int .i64 da, .int .u64 dv, .int .u64 tv] 38)
                replace mr := Lib.hid (own_below mr.out (gAlloc (Below.refl _ _) (.cells #[.int .i64 dn, .int .i64 dk, .int .i64 da, .int .u64 dv, .int .u64 tv] 38)))
                clear hx hc
                by_cases hnd : dn = (k : Int)
                · have hnd' : (dn == (k : Int)) = true := by simpa using hnd
                  replace ON := Lib.hid (ON.out.trans (by rw [if_pos hnd]))
                  clear hnd
                  obtain ⟨As, cs, rfl⟩ := own_shape mr.out
                  go_wp2_with (at_builtin; refine wpList_append_own _ rfl _ _ 41 rfl w.heap.size 36 i0 (.agg #[.int .i64 0, .int .i64 0, .int .i64 0, .int .u64 0]) 4 32 Try.underlying41 HI.out HZ.out.1 HZ.out.2.1 HZ.out.2.2 rfl (by decide) _ _ _ rfl (own_below mr.out (gAlloc (Below.refl _ _) (.cells #[.int .i64 dn, .int .i64 dk, .int .i64 da, .int .u64 dv] 36))) ⟨wr.heap.size + 1, 0, none⟩ 1 1 [.int .i64 dn, .int .i64 dk, .int .i64 da, .int .u64 dv] rfl rfl ?d1 ?d2 ?d3 ?d4 ?d5 ?_)
                  case d1 => exact fun q u hq => cellD_new _ _ ⟨dn, dk, da, dv⟩ _ q u (by simp) hq
                  case d2 =>
                    intro u hu
                    simp at hu
                    rcases hu with rfl | rfl | rfl | rfl <;> rfl
                  case d3 => unfold maxLen; omega
                  case d4 => omega
                  case d5 => simp; omega
                  intro v4 w4 own4 grow4 _
                  have low4 : Below w.heap.size w w4 := (gAlloc low (.cells #[.int .i64 dn, .int .i64 dk, .int .i64 da, .int .u64 dv] 36)).grown grow4 (by simp; omega) (fun g e => by have := mr.out.lt _ e; omega)
                  have O4 := Lib.hid own4
                  clear own4 grow4 mr low xb
                  go_wp2_with fail
                  go_roundw
                  case rel => exact ⟨j + 1, by omega, by go_num, by rw [ON.out, List.length_append, List.length_singleton, deedsC_add]; exact O4, low4⟩
                  case measure => simp [intOf]; omega
                · have hnd' : (dn == (k : Int)) = false := by simpa using hnd
                  replace ON := Lib.hid (ON.out.trans (by rw [if_neg hnd, List.append_nil]))
                  clear hnd
                  have xb_0 := xb.at_ 0 rfl
                  have xb_1 := xb.at_ 1 rfl
                  have xb_2 := xb.at_ 2 rfl
                  have xb_3 := xb.at_ 3 rfl
                  have xb_4 := xb.at_ 4 rfl
                  go_wp2_with fail
                  clear xb_0 xb_1 xb_2 xb_3 xb_4
                  go_roundw
                  case rel => exact ⟨j + 1, by omega, by go_num, by rw [ON.out]; exact mr, low⟩
                  case measure => simp [intOf]; omega
              · obtain rfl : j = l.length := by omega
                rw [List.take_length] at mr
                have few := onD_few k l
                have KD := Lib.hid (show keep1 p l k = (decide ((onD k (l.map Td.d)).length ≤ (p.getD k []).length) && decide (onD k (l.map Td.d) = (p.getD k []).take (onD k (l.map Td.d)).length)) from rfl)
                generalize keep1 p l k = K1 at *
                generalize onD k (l.map Td.d) = D at *
                have DM := Lib.hid (show Ds wr u20 D from ⟨Sl.ofOwn mr.out⟩)
                obtain ⟨As, cs, rfl⟩ := DM.out.el.shape
                clear mr
                by_cases hkp : k < p.length
                · have hkp' : (k : Int) < p.length := by omega
                  obtain ⟨A7, c7, e7, f1, f2, f3⟩ := HP.out.ex
                  obtain ⟨rfl, rfl⟩ : A1 = A7 ∧ c1 = c7 := by injection e7 with e5 _ e6; exact ⟨e5, e6⟩
                  obtain ⟨b, o, rfl, hb, hc⟩ := f3 (by omega)
                  have hx : p[k]? = some p[k] := List.getElem?_eq_getElem _
                  have hq : p.getD k [] = p[k] := by simp [List.getD, hx]
                  rw [hq] at KD
                  generalize p[k] = Q at *
                  obtain ⟨A8, c8, ce, ds⟩ := hc k Q hx
                  replace ce := (low.cell (p := ⟨b, o + k, none⟩) hb).trans ce
                  have DQ := Lib.hid (ds.call low)
                  unfold maxLen at f2
                  clear f3 hc e7 hx hq ds
                  cases KV
                  · have NF := Lib.hid (NK.out.trans rfl)
                    clear NK KD DQ DM
                    go_wp2_with fail
                    go_roundw
                    case rel => exact ⟨k + 1, by omega, by go_num, by rw [NF.out]; simp, low⟩
                    case measure => simp [intOf]; omega
                  · by_cases hle : D.length ≤ Q.length
                    · have hle' : (D.length : Int) ≤ (Q.length : Int) := by omega
                      have c8le : Q.length ≤ c8 := by
                        obtain ⟨_, _, _, e, h, _⟩ := DQ.out
                        injection e with _ _ e
                        subst e
                        exact h
                      have dc8 : D.length ≤ c8 := by omega
                      have T := Lib.hid (ds_front (r := Q) DQ.out D.length hle)
                      have hn : (Q.take D.length).length = D.length := by rw [List.length_take]; exact Nat.min_eq_left hle
                      have EQ := Lib.hid fun w h h' => equalDeeds_is (.slice As D.length cs) (.slice A8 (Q.take D.length).length c8) D (Q.take D.length) w h h' hn.symm
                      rw [hn] at EQ T
                      have NF := Lib.hid (show (List.range (k + 1)).all (keep1 p l) = decide (D = Q.take D.length) by
                        have hln : decide (D.length ≤ Q.length) = true := decide_eq_true hle
                        rw [NK.out, KD.out, hln]; simp)
                      generalize decide (D = Q.take D.length) = Z at *
                      clear NK KD DQ hn
                      go_wp2_with fail
                      (with_reducible refine (EQ.out _ DM.out T.out).mono ?_); rintro e w5 ⟨rfl, hb5⟩
                      replace low := gCall low hb5
                      clear hb5 EQ DM T
                      go_wp2_with fail
                      go_roundw
                      case rel => exact ⟨k + 1, by omega, by go_num, by rw [NF.out], low⟩
                      case measure => simp [intOf]; omega
                    · have NF := Lib.hid (show (List.range (k + 1)).all (keep1 p l) = false by
                        have hln : decide (D.length ≤ (Q : List Dd).length) = false := decide_eq_false hle
                        rw [NK.out, KD.out, hln]; rfl)
                      have hle1 : ¬ (D.length : Int) ≤ (Q.length : Int) := by omega
                      have hle2 : ¬ D.length ≤ Q.length := hle
                      have hle3 : ¬ D = [] := by rintro rfl; simp at hle
                      clear NK KD DQ DM hle
                      go_wp2_with fail
                      go_roundw
                      case rel => exact ⟨k + 1, by omega, by go_num, by rw [NF.out], low⟩
                      case measure => simp [intOf]; omega
                · have hkp' : ¬ (k : Int) < p.length := by omega
                  have hq : p.getD k [] = [] := by simp [List.getD, List.getElem?_eq_none (Nat.not_lt.1 hkp)]
                  rw [hq] at KD
                  have DQ := Lib.hid (show Ds wr (.slice none ([] : List Dd).length 0) [] from ⟨Sl.ofOwn (World.ownsRow_nil wr 0 36 4)⟩)
                  clear hq
                  cases KV
                  · have NF := Lib.hid (NK.out.trans rfl)
                    clear NK KD DQ DM
                    go_wp2_with fail
                    go_roundw
                    case rel => exact ⟨k + 1, by omega, by go_num, by rw [NF.out]; simp, low⟩
                    case measure => simp [intOf]; omega
                  · by_cases hle : D.length ≤ 0
                    · have hle' : (D.length : Int) ≤ 0 := by omega
                      obtain rfl : D = [] := List.eq_nil_of_length_eq_zero (by omega)
                      have EQ := Lib.hid fun w h h' => equalDeeds_is (.slice As 0 cs) (.slice none 0 0) [] [] w h h' rfl
                      have NF := Lib.hid (show (List.range (k + 1)).all (keep1 p l) = true by
                        rw [NK.out, KD.out]; rfl)
                      have T := Lib.hid DQ.out
                      clear NK KD DQ
                      go_wp2_with fail
                      (with_reducible refine (EQ.out _ DM.out T.out).mono ?_); rintro e w5 ⟨rfl, hb5⟩
                      replace low := gCall low hb5
                      clear hb5 EQ DM T
                      go_wp2_with fail
                      go_roundw
                      case rel => exact ⟨k + 1, by omega, by go_num, by rw [NF.out], low⟩
                      case measure => simp [intOf]; omega
                    · have NF := Lib.hid (show (List.range (k + 1)).all (keep1 p l) = false by
                        have hln : decide (D.length ≤ ([] : List Dd).length) = false := decide_eq_false hle
                        rw [NK.out, KD.out, hln]; rfl)
                      have hle1 : ¬ (D.length : Int) ≤ 0 := by omega
                      have hle2 : ¬ D.length ≤ 0 := hle
                      have hle3 : ¬ D = [] := by rintro rfl; simp at hle
                      clear NK KD DQ DM hle
                      go_wp2_with fail
                      go_roundw
                      case rel => exact ⟨k + 1, by omega, by go_num, by rw [NF.out], low⟩
                      case measure => simp [intOf]; omega
          · obtain rfl : k = 8 := by omega
            obtain rfl : KB = (List.range 8).all (keep1 p l) := KK.out
            generalize (List.range 8).all (keep1 p l) = Z at *
            clear KK
            go_wp2_with fail
            go_ret
            exact ⟨rfl, low⟩
end Go.Proofs.Ytgoaedbhcldmiaa.orderTells
