/-
Proved: the given statement WorldOwn, in its second form: a world that is handed in stays as it was, and what is told shares no memory with it. Condition: what the law reads is of bulk at most 1048576, as the second form says.
-/
import Derived.Test.YtahoadfofleacaaWoBefore
import Derived.JoinedCond
namespace Go.Proofs.Ytahoadfofleacaa.worldOwn
open Go.ChangeShapes Go.WideShapes Go.ChangeAt Go.RowKit Go.Joins Go.Proofs.Ytahoadfofleacaa

/-- The walk stands still here. -/
theorem pauseH {P : Prop} (h : Hid P) : P := h.out





set_option maxRecDepth 100000 in
set_option maxHeartbeats 4000000 in
theorem walk1 (n s y b : Int) (v : Value) (m : List Int) (css : List (List St)) (dn dk da dv : Int) (x : Wy) (w : World) (h : Ks w v css) (hm : m.length = 64) (hz : szW css ≤ 1048576) :
    Calls Try.prog 7 #[cfg n s y b, wldV v m, (⟨dn, dk, da, dv⟩ : Dd).val, x.val] w fun e w' => e = .returned (.bool true) ∧ Below w.heap.size w w' := by
  have HR := Lib.hid (Nat.le_trans (rowsL_le css) hz)
  have HZ := Lib.hid (fun (j : Nat) ss (hj : css[j]? = some ss) (q : Nat) t (hq : ss[q]? = some t) => show t.l.length ≤ 1048576 from Nat.le_trans (szC_at hq) (Nat.le_trans (szW_at hj) hz))
  obtain ⟨i0, hi, hz0, hz1, hz2⟩ := info_parts info_ways
  have HI := Lib.hid hi
  have HZ2 := Lib.hid (And.intro hz0 (And.intro hz1 hz2))
  clear hi hz0 hz1 hz2 hz
  have low := Below.refl w.heap.size w
  have cb := boxNext low 23 (cfgA n s y b)
  replace low := gAlloc low (.cells (cfgA n s y b) 23)
  replace h := h.alloc (.cells (cfgA n s y b) 23)
  try simp only [World.size_alloc] at cb
  have wb := boxNext low 31 (wldA v m)
  replace low := gAlloc low (.cells (wldA v m) 31)
  replace cb := cb.alloc (.cells (wldA v m) 31)
  replace h := h.alloc (.cells (wldA v m) 31)
  try simp only [World.size_alloc] at wb
  have db := boxNext low 34 #[.int .i64 dn, .int .i64 dk, .int .i64 da, .int .u64 dv]
  replace low := gAlloc low (.cells #[.int .i64 dn, .int .i64 dk, .int .i64 da, .int .u64 dv] 34)
  replace cb := cb.alloc (.cells #[.int .i64 dn, .int .i64 dk, .int .i64 da, .int .u64 dv] 34)
  replace wb := wb.alloc (.cells #[.int .i64 dn, .int .i64 dk, .int .i64 da, .int .u64 dv] 34)
  replace h := h.alloc (.cells #[.int .i64 dn, .int .i64 dk, .int .i64 da, .int .u64 dv] 34)
  try simp only [World.size_alloc] at db
  have qb := boxNext low 51 x.arr
  replace low := gAlloc low (.cells x.arr 51)
  replace cb := cb.alloc (.cells x.arr 51)
  replace wb := wb.alloc (.cells x.arr 51)
  replace db := db.alloc (.cells x.arr 51)
  replace h := h.alloc (.cells x.arr 51)
  try simp only [World.size_alloc] at qb
  simp only [Wy.arr] at qb
  go_enter Try.func7, Try.ntmps7
  go_wp2_with fail
  (with_reducible refine (deeds_yes _).mono ?_); rintro e w1 ⟨rfl, hb1⟩
  replace cb := cb.call hb1
  replace wb := wb.call hb1
  replace db := db.call hb1
  replace qb := qb.call hb1
  replace h := h.call hb1
  replace low := gCall low hb1
  clear hb1
  have H1 := Lib.hid h
  obtain ⟨A, cp, rfl, h1, h2, h3⟩ := h
  have H3 := Lib.hid h3
  unfold maxLen at h2
  clear h3
  have wb0 := (wb.alloc (.cells #[.slice none 0 0] 74)).at_ 0 (wldA_zero _ _)
  have BF := Lib.hid (Bf.start w1 (w1.heap.size + 1))
  have near := gAlloc (Below.refl w1.heap.size w1) (.cells #[.slice none 0 0] 74)
  go_wp2_with fail
  clear wb0
  go_loopw [41] (fun a wr => ∃ j : Nat, j ≤ css.length ∧ a = .int .i64 j ∧ Hid (Bf wr w1.heap.size (w1.heap.size + 1) (rowsL (css.take j))) ∧ Below w1.heap.size w1 wr) (fun a _ => css.length - (intOf a).toNat)
  case atStart => exact ⟨0, Nat.zero_le _, rfl, Lib.hid (by simpa [rowsL] using BF.out), near⟩
  case round =>
    clear BF near
    obtain ⟨j, hj, rfl, BF, near⟩ := hrel
    by_cases hlt : j < css.length
    · obtain ⟨b1, o1, rfl, hb1, hc1⟩ := H3.out (by omega)
      have hx : css[j]? = some css[j] := List.getElem?_eq_getElem _
      generalize css[j] = ss at hx
      obtain ⟨A', c', ce, cs⟩ := hc1 j ss hx
      replace ce := (near.cell (p := ⟨b1, o1 + j, none⟩) hb1).trans ce
      obtain ⟨A2, c2, e2, t1, t2, t3⟩ := cs
      simp only [Value.slice.injEq, true_and] at e2
      obtain ⟨rfl, rfl⟩ := e2
      have T3 := Lib.hid t3
      have HX := Lib.hid hx
      unfold maxLen at t2
      have k0 : (0 : Int) ≤ j := by omega
      have k1 : (j : Int) < css.length := by omega
      clear hx hc1 t3
      go_wp2_with fail
      clear ce
      go_loopw [47] (fun a wx => ∃ q : Nat, q ≤ ss.length ∧ a = .int .i64 q ∧ Hid (Bf wx w1.heap.size (w1.heap.size + 1) (rowsL (css.take j) ++ (ss.take q).map (·.l))) ∧ Below w1.heap.size w1 wx) (fun a _ => ss.length - (intOf a).toNat)
      case atStart => exact ⟨0, Nat.zero_le _, rfl, Lib.hid (by simpa using BF.out), near⟩
      case round =>
        clear BF near
        obtain ⟨q, hq, rfl, BF, near⟩ := hrel
        by_cases hlt2 : q < ss.length
        · obtain ⟨b2, o2, rfl, hb2, hc2⟩ := T3.out (by omega)
          have hzz : ss[q]? = some ss[q] := List.getElem?_eq_getElem _
          generalize ss[q] = z at hzz
          obtain ⟨A3, c3, ra, ws⟩ := hc2.at_ q z hzz
          obtain ⟨d0, d1, d2, d3⟩ := rowAt_of ra hb2 near
          replace ws := ws.call near
          have TM := Lib.hid (take_map hzz)
          have CL := Lib.hid fun w hw => clone_gen (.slice A3 z.l.length c3) z.l w hw (HZ.out j ss HX.out q z hzz)
          have RL := Lib.hid (Nat.le_trans (rows_upto HX.out q) HR.out)
          generalize hL : rowsL (css.take j) ++ (ss.take q).map (·.l) = ls at *
          have HL := Lib.hid hL
          have q0 : (0 : Int) ≤ q := by omega
          have q1 : (q : Int) < ss.length := by omega
          clear hzz hc2 ra hL
          have z1 := near.size
          have z2 : w1.heap.size < wr.heap.size := by obtain ⟨_, _, b, _⟩ := BF.out; exact b.lt
          have LOW1 := Lib.hid (gAlloc near (.cells (rowA (.slice A3 z.l.length c3) z.a z.b z.c) 78)).drew
          replace BF := Lib.hid (BF.out.call (gAlloc (Below.refl _ _) (.cells (rowA (.slice A3 z.l.length c3) z.a z.b z.c) 78)).drew)
          replace ws := (ws.alloc (.cells (rowA (.slice A3 z.l.length c3) z.a z.b z.c) 78)).drew
          have zb := boxNext near 78 (rowA (.slice A3 z.l.length c3) z.a z.b z.c)
          have zc0 := zb.at_ 0 rfl
          go_wp2_with fail
          refine wp_region_noPanic ?_
          refine wp_region_held_drew (S := fun w' => w'.cell? ⟨wr.heap.size, 0, none⟩ = some (.slice A3 z.l.length c3)) (by kernel_rfl) (drewC zc0) (fun hHeld => ?_)
          clear d0 d1 d2 d3 zc0 near
          replace zb := zb.drew
          refine takeFirst (i := 1) (v := ?_) rfl (by kernel_rfl) (by kernel_rfl) (by kernel_rfl) (by rfl) (fun _ _ _ h => h) ?_ (by assumption) ?_
          rotate_left
          · (intro w hSw; go_simp; try (with_reducible rfl))
          try simp only [Act.put, List.setIfInBounds_toArray, List.set_cons_zero, List.set_cons_succ]
          refine takeFirst (i := 2) (v := ?_) rfl (by kernel_rfl) (by kernel_rfl) (by kernel_rfl) (by rfl) (fun _ _ _ h => h) ?_ (by assumption) ?_
          rotate_left
          · (intro w hSw; go_simp; try (with_reducible rfl))
          try simp only [Act.put, List.setIfInBounds_toArray, List.set_cons_zero, List.set_cons_succ]
          generalize hW : World.drew _ = wN at *
          clear hW
          have near := Below.refl wN.heap.size wN
          obtain ⟨sv, xs, bb, own, hfr⟩ := BF.out
          obtain ⟨As, cs', rfl⟩ := own_shape own
          have m0 := bb.at_ 0 rfl
          have HFR0 := Lib.hid hfr
          clear BF hfr
          apply share1 (M := fun g A2 c2 wz => NewB wN g A2 c2 wz z.l)
          · intro hE
            refine stepTwo (i1 := 0) (i2 := 3) (by kernel_rfl) rfl rfl (by rfl) (by rfl) (fun K hK => ?_) (fun K hK => ?_)
            · have hm0 := callC near m0
              go_simp
              try clear hNow
              have hNow := callC near hHeld
              refine hK.out _ _ hNow ?_
              clear hK K
              try simp only [Act.put]
              try simp only [List.setIfInBounds_toArray, List.set_cons_zero, List.set_cons_succ]
              clear hm0
              refine stepNext (i := 3) (by kernel_rfl) rfl (by rfl) (fun K hK => ?_)
              go_simp
              (with_reducible refine (CL.out _ (ws.call near)).mono ?_); rintro e wy ⟨⟨A2, c2, rfl, fr2⟩, hb⟩
              have nsz := near.size
              replace near := gCall near hb
              replace fr2 := fr2.more nsz (Nat.le_refl _)
              clear hb
              try clear hNow
              have hNow := callC near hHeld
              refine hK.out _ _ hNow ?_
              clear hK K
              try simp only [Act.put]
              try simp only [List.setIfInBounds_toArray, List.set_cons_zero, List.set_cons_succ]
              refine stepNext (i := 4) (by kernel_rfl) rfl (by rfl) (fun K hK => ?_)
              go_simp
              have sz := near.size
              have box := Box.new wy 59 #[.slice A2 z.l.length c2]
              have fr3 := (fr2.alloc (.cells #[.slice A2 z.l.length c2] 59)).more (Nat.le_refl _) (show wy.heap.size ≤ (wy.alloc (.cells #[.slice A2 z.l.length c2] 59)).heap.size by simp)
              replace near := gAlloc near (.cells #[.slice A2 z.l.length c2] 59)
              try clear hNow
              have hNow := callC near hHeld
              refine hK.out _ _ hNow ?_
              clear hK K
              try simp only [Act.put]
              try simp only [List.setIfInBounds_toArray, List.set_cons_zero, List.set_cons_succ]
              generalize wy.heap.size = ga at *
              generalize wy.alloc (.cells #[.slice A2 z.l.length c2] 59) = wz at *
              refine relist (l2 := #[true, true, true, true, true, false, false]) (by kernel_rfl) ?_
              exact hE ga A2 c2 _ ⟨near, sz, box, fr3⟩
            · go_simp
              (with_reducible refine (CL.out _ (ws.call near)).mono ?_); rintro e wy ⟨⟨A2, c2, rfl, fr2⟩, hb⟩
              have nsz := near.size
              replace near := gCall near hb
              replace fr2 := fr2.more nsz (Nat.le_refl _)
              clear hb
              try clear hNow
              have hNow := callC near hHeld
              refine hK.out _ _ hNow ?_
              clear hK K
              try simp only [Act.put]
              try simp only [List.setIfInBounds_toArray, List.set_cons_zero, List.set_cons_succ]
              refine stepTwo (i1 := 0) (i2 := 4) (by kernel_rfl) rfl rfl (by rfl) (by rfl) (fun K hK => ?_) (fun K hK => ?_)
              · have hm0 := callC near m0
                go_simp
                try clear hNow
                have hNow := callC near hHeld
                refine hK.out _ _ hNow ?_
                clear hK K
                try simp only [Act.put]
                try simp only [List.setIfInBounds_toArray, List.set_cons_zero, List.set_cons_succ]
                clear hm0
                refine stepNext (i := 4) (by kernel_rfl) rfl (by rfl) (fun K hK => ?_)
                go_simp
                have sz := near.size
                have box := Box.new wy 59 #[.slice A2 z.l.length c2]
                have fr3 := (fr2.alloc (.cells #[.slice A2 z.l.length c2] 59)).more (Nat.le_refl _) (show wy.heap.size ≤ (wy.alloc (.cells #[.slice A2 z.l.length c2] 59)).heap.size by simp)
                replace near := gAlloc near (.cells #[.slice A2 z.l.length c2] 59)
                try clear hNow
                have hNow := callC near hHeld
                refine hK.out _ _ hNow ?_
                clear hK K
                try simp only [Act.put]
                try simp only [List.setIfInBounds_toArray, List.set_cons_zero, List.set_cons_succ]
                generalize wy.heap.size = ga at *
                generalize wy.alloc (.cells #[.slice A2 z.l.length c2] 59) = wz at *
                refine relist (l2 := #[true, true, true, true, true, false, false]) (by kernel_rfl) ?_
                exact hE ga A2 c2 _ ⟨near, sz, box, fr3⟩
              · go_simp
                have sz := near.size
                have box := Box.new wy 59 #[.slice A2 z.l.length c2]
                have fr3 := (fr2.alloc (.cells #[.slice A2 z.l.length c2] 59)).more (Nat.le_refl _) (show wy.heap.size ≤ (wy.alloc (.cells #[.slice A2 z.l.length c2] 59)).heap.size by simp)
                replace near := gAlloc near (.cells #[.slice A2 z.l.length c2] 59)
                try clear hNow
                have hNow := callC near hHeld
                refine hK.out _ _ hNow ?_
                clear hK K
                try simp only [Act.put]
                try simp only [List.setIfInBounds_toArray, List.set_cons_zero, List.set_cons_succ]
                generalize wy.heap.size = ga at *
                generalize wy.alloc (.cells #[.slice A2 z.l.length c2] 59) = wz at *
                refine stepNext (i := 0) (by kernel_rfl) rfl (by rfl) (fun K hK => ?_)
                have hm0 := callC near m0
                go_simp
                try clear hNow
                have hNow := callC near hHeld
                refine hK.out _ _ hNow ?_
                clear hK K
                try simp only [Act.put]
                try simp only [List.setIfInBounds_toArray, List.set_cons_zero, List.set_cons_succ]
                clear hm0
                refine relist (l2 := #[true, true, true, true, true, false, false]) (by kernel_rfl) ?_
                exact hE ga A2 c2 _ ⟨near, sz, box, fr3⟩
          intro g4 A2 c2 wz mid
          obtain ⟨near2, gnew, nb, fr4⟩ := mid
          have bz := bb.lt
          have low1 := gCall LOW1.out near2
          have n2 := near2.size
          have bbz := bb.call near2
          have ownz := own_below own near2
          have HFR := Lib.hid (show ∀ (k : Nat) u l, xs[k]? = some u → ls[k]? = some l → ∃ A c, u = .slice A l.length c ∧ Fr wz (w1.heap.size + 1) wz.heap.size u l from fun k u l hu hl => by
            obtain ⟨A, c, e, fr⟩ := HFR0.out k u l hu hl
            exact ⟨A, c, e, (fr.call near2).more (Nat.le_refl _) near2.size⟩)
          replace fr4 := fr4.more (show w1.heap.size + 1 ≤ wN.heap.size by omega) (Nat.le_refl _)
          have zbz := zb.call near2
          have zlt := zb.lt
          clear near own bb HFR0 m0 LOW1 hHeld ws CL
          refine stepNext (i := 5) (by kernel_rfl) rfl (by rfl) (fun K hK => ?_)
          refine wp_append_own _ (.tmp 51) (.tmp 55) 74 rfl (w1.heap.size + 1) 59 i0 (.slice none 0 0) 1 24 Try.underlying74 HI.out HZ2.out.1 HZ2.out.2.1 HZ2.out.2.2 rfl (by decide) _ _ _ rfl ownz ⟨g4, 0, none⟩ 1 1 [.slice A2 z.l.length c2] rfl rfl ?news (by simp [Value.oneCell']) ?f3 ?f4 ?f5 ?_
          case news =>
            intro i u hu
            match i, hu with
            | 0, hu =>
              simp only [List.getElem?_cons_zero, Option.some.injEq] at hu
              subst hu
              exact nb.at_ 0 rfl
          case f3 => have := RL.out; unfold maxLen; omega
          case f4 => have := RL.out; omega
          case f5 => omega
          intro v5 w5 own5 grow5 _
          obtain ⟨A5, c5, rfl⟩ := own_shape own5
          have bb5 := bbz.grown grow5 (own_ne ownz bbz (by decide))
          have low5 : Below w1.heap.size w1 w5 := low1.grown grow5 (by omega) (fun g e => by have := ownz.lt _ e; omega)
          have g5 := grow5.size
          have HFR5 := Lib.hid (show ∀ (k : Nat) u l, (xs ++ [.slice A2 z.l.length c2])[k]? = some u → (ls ++ [z.l])[k]? = some l → ∃ A c, u = .slice A l.length c ∧ Fr w5 (w1.heap.size + 1) w5.heap.size u l from fun k u l hu hl => by
            have xl : xs.length = ls.length := by have := ownz.1; omega
            by_cases hk : k < ls.length
            · rw [List.getElem?_append_left (by omega)] at hu
              rw [List.getElem?_append_left hk] at hl
              obtain ⟨A, c, e, fr⟩ := HFR.out k u l hu hl
              exact ⟨A, c, e, (fr.grown ownz (by decide) grow5).more (Nat.le_refl _) g5⟩
            · have hk2 : k = ls.length := by
                have := (List.getElem?_eq_some_iff.1 hl).1
                rw [List.length_append, List.length_singleton] at this
                omega
              subst hk2
              rw [List.getElem?_append_right (by omega), xl, Nat.sub_self] at hu
              rw [List.getElem?_append_right (Nat.le_refl _), Nat.sub_self] at hl
              simp only [List.getElem?_cons_zero, Option.some.injEq] at hu hl
              subst hu hl
              exact ⟨A2, c2, rfl, (fr4.grown ownz (by decide) grow5).more (Nat.le_refl _) g5⟩)
          have zb5 := zbz.grown grow5 (own_ne ownz zbz (by decide))
          have hH5 := zb5.at_ 0 rfl
          refine hK.out _ _ hH5 ?_
          clear hK K
          try simp only [Act.put]
          try simp only [List.setIfInBounds_toArray, List.set_cons_zero, List.set_cons_succ]
          refine stepNext (i := 6) (by kernel_rfl) rfl (by rfl) (fun K hK => ?_)
          have b50 := bb5.at_ 0 rfl
          have b5f := bb5.frozen 0
          go_simp
          have st6 : Stored w5 w1.heap.size (w5.setCell ⟨w1.heap.size, 0, none⟩ (.slice A5 (ls.length + 1) c5)) := Stored.cell1 w5 ⟨w1.heap.size, 0, none⟩ _
          have bb6 := bb5.set 0 (.slice A5 (ls.length + 1) c5)
          have own6 := own_stored own5 st6 (own_ne own5 bb5 (by decide))
          have low6 := st6.low low5 (Nat.le_refl _)
          have BF6 := Lib.hid (show Bf (w5.setCell ⟨w1.heap.size, 0, none⟩ (.slice A5 (ls.length + 1) c5)) w1.heap.size (w1.heap.size + 1) (ls ++ [z.l]) from
            ⟨.slice A5 (ls.length + 1) c5, xs ++ [.slice A2 z.l.length c2], by simpa using bb6, by rw [List.length_append]; exact own6, fun k u l hu hl => by
              obtain ⟨A, c, e, fr⟩ := HFR5.out k u l hu hl
              exact ⟨A, c, e, (fr.stored bb5 (by decide) st6).more (Nat.le_refl _) (Nat.le_of_eq st6.size.symm)⟩⟩)
          have hH6 := st6.cell (by dsimp only; omega) hH5
          clear st6 bb6 own6 HFR5 HFR bb5 own5 grow5 zb5 zbz ownz bbz b50 b5f nb fr4 low5 low1
          generalize w5.setCell ⟨w1.heap.size, 0, none⟩ (.slice A5 (ls.length + 1) c5) = w6 at *
          refine hK.out _ _ hH6 ?_
          clear hK K
          try simp only [Act.put]
          try simp only [List.setIfInBounds_toArray, List.set_cons_zero, List.set_cons_succ]
          refine wpAnyH_done (by kernel_rfl) ?_ _
          refine NoPanic.normal ?_
          clear hH6 hH5
          go_wp2_with fail
          go_roundw
          case rel => exact ⟨q + 1, by omega, by go_num, Lib.hid (by rw [TM.out, ← List.append_assoc, HL.out]; exact BF6.out), low6⟩
          case measure => simp [intOf]; omega
        · obtain rfl : q = ss.length := by omega
          have e5 := rowsL_succ HX.out
          have BF2 := Lib.hid BF.out
          rw [List.take_length, ← e5] at BF2
          clear BF
          go_wp2_with fail
          go_roundw
          case rel => exact ⟨j + 1, by omega, by go_num, BF2, near⟩
          case measure => simp [intOf]; omega
    · obtain rfl : j = css.length := by omega
      rename World => wB
      have BS := Lib.hid BF.out.bs
      rw [List.take_length] at BS
      replace cb := cb.call near
      replace wb := wb.call near
      replace db := db.call near
      replace qb := qb.call near
      have h := H1.out.call near
      replace low := gCall low near
      have wbc := wb.at_ 0 (wldA_zero _ _)
      have SM := Lib.hid (fun w' (hb : Below wB.heap.size wB w') => same_yes (w.heap.size + 1) w1.heap.size (.slice A css.length cp) css w' (h.call hb) ((hb.cell (block_lt_of_cell wbc)).trans wbc) (BS.out.call hb) HR.out)
      have LOWB := Lib.hid low
      clear BF near HZ HI HZ2 BS wbc
      have nearB := Below.refl wB.heap.size wB
      have DO := Lib.hid fun w hw => do_shape n s y b (.slice A css.length cp) m css ⟨dn, dk, da, dv⟩ w hw hm
      have PL := Lib.hid fun w hw => play_shape n s y b (.slice A css.length cp) m css w hw hm
      have wg := wb.range
      have cb_0 := cb.at_ 0 rfl
      have cb_1 := cb.at_ 1 rfl
      have cb_2 := cb.at_ 2 rfl
      have cb_3 := cb.at_ 3 rfl
      have db_0 := db.at_ 0 rfl
      have db_1 := db.at_ 1 rfl
      have db_2 := db.at_ 2 rfl
      have db_3 := db.at_ 3 rfl
      go_wp2_with (first | ((with_reducible refine wp_loadW (tyWorld) (wg) (wld_size hm) ?_ ?_ ?_); rfl; rfl))
      (with_reducible refine (DO.out _ h).mono ?_); rintro e w2 ⟨⟨Aa, ca, ka, ma, u, f1, f2, f3, f4, E, rfl, hma, sha⟩, hb2⟩
      clear cb_0 cb_1 cb_2 cb_3 db_0 db_1 db_2 db_3
      replace cb := cb.call hb2
      replace wb := wb.call hb2
      replace qb := qb.call hb2
      replace h := h.call hb2
      replace nearB := gCall nearB hb2
      replace low := gCall low hb2
      clear hb2 wg DO db
      have xs : (wldA (.slice Aa ka ca) ma).size = (wldA (.slice none 0 0) zeroL).size := wld_size hma
      have xo : (wldA (.slice Aa ka ca) ma).all (·.oneCell') = true := wldA_one _
      have ds := done_size u f1 f2 f3 f4
      have dn1 := done_one u f1 f2 f3 f4
      have lz2 := low.size
      have xb := boxNext low 31 nilW
      replace low := gAlloc low (.cells nilW 31)
      try simp only [World.size_alloc] at xb
      have eb := boxNext low 37 done0
      replace low := gAlloc low (.cells done0 37)
      replace xb := xb.alloc (.cells done0 37)
      try simp only [World.size_alloc] at eb
      go_wp2_with (first | (with_reducible refine wp_newW (tyWorld) ?_) | (with_reducible refine wp_newW (tyDone) ?_) | ((with_reducible refine wp_storeW (tyWorld) (xb) (rfl) (xs) (xo) ?_ ?_ ?_); rfl; rfl))
      intro w3 xb3 st3
      have near := st3.low (gAlloc (gAlloc (Below.refl w2.heap.size w2) (.cells nilW 31)) (.cells done0 37)) (by omega)
      replace eb := st3.box eb (by omega)
      replace low := st3.low low (by omega)
      clear st3 xb
      have eb9 : Box w3 (w2.alloc (.cells nilW 31)).heap.size 37 done0 := by simpa using eb
      go_wp2_with ((with_reducible refine wp_storeW (tyDone) (eb9) (rfl) (ds) (dn1) ?_ ?_ ?_); rfl; rfl)
      intro w4 eb4 st4
      simp only [World.size_alloc] at eb4
      replace st4 : Stored w3 (w2.heap.size + 1) w4 := by simpa using st4
      clear eb9
      have xb := st4.box xb3 (by omega)
      replace near := st4.low near (by omega)
      replace low := st4.low low (by omega)
      clear st4 eb xb3
      have eb := eb4
      clear eb4
      replace cb := cb.call near
      replace wb := wb.call near
      replace qb := qb.call near
      replace h := h.call near
      replace sha := sha.call near
      replace nearB := gCall nearB near
      clear near eb
      have wg := wb.range
      have n4 := nearB.size
      have cb_0 := cb.at_ 0 rfl
      have cb_1 := cb.at_ 1 rfl
      have cb_2 := cb.at_ 2 rfl
      have cb_3 := cb.at_ 3 rfl
      go_wp2_with (first | ((with_reducible refine wp_loadW (tyWorld) (wg) (wld_size hm) ?_ ?_ ?_); rfl; rfl))
      (with_reducible refine (PL.out _ h).mono ?_); rintro e w5 ⟨⟨Ab, cb', kb, mb, sv, E2, rfl, hmb, shb⟩, hb5⟩
      clear cb_0 cb_1 cb_2 cb_3
      replace shb := shb.more n4
      replace cb := cb.call hb5
      replace wb := wb.call hb5
      replace qb := qb.call hb5
      replace xb := xb.call hb5
      replace h := h.call hb5
      replace sha := sha.call hb5
      replace nearB := gCall nearB hb5
      have w5z := nearB.size
      replace low := gCall low hb5
      clear hb5 wg PL n4
      have ys : (wldA (.slice Ab kb cb') mb).size = (wldA (.slice none 0 0) zeroL).size := wld_size hmb
      have yo : (wldA (.slice Ab kb cb') mb).all (·.oneCell') = true := wldA_one _
      replace sha := sha.call (gAlloc (Below.refl _ _) (.cells (wldA (.slice Ab kb cb') mb) 31))
      replace shb := shb.call (gAlloc (Below.refl _ _) (.cells (wldA (.slice Ab kb cb') mb) 31))
      replace nearB := gAlloc nearB (.cells (wldA (.slice Ab kb cb') mb) 31)
      have yb := boxNext low 31 (wldA (.slice Ab kb cb') mb)
      replace low := gAlloc low (.cells (wldA (.slice Ab kb cb') mb) 31)
      replace cb := cb.alloc (.cells (wldA (.slice Ab kb cb') mb) 31)
      replace wb := wb.alloc (.cells (wldA (.slice Ab kb cb') mb) 31)
      replace qb := qb.alloc (.cells (wldA (.slice Ab kb cb') mb) 31)
      replace xb := xb.alloc (.cells (wldA (.slice Ab kb cb') mb) 31)
      replace h := h.alloc (.cells (wldA (.slice Ab kb cb') mb) 31)
      try simp only [World.size_alloc] at yb
      have xr := xb.range
      have yr := yb.range
      replace sha := sha.call (gAlloc (Below.refl _ _) (.cells (wldA (.slice Aa ka ca) ma ++ wldA (.slice Ab kb cb') mb) 31))
      replace shb := shb.call (gAlloc (Below.refl _ _) (.cells (wldA (.slice Aa ka ca) ma ++ wldA (.slice Ab kb cb') mb) 31))
      replace nearB := gAlloc nearB (.cells (wldA (.slice Aa ka ca) ma ++ wldA (.slice Ab kb cb') mb) 31)
      have zb := boxNext low 31 (wldA (.slice Aa ka ca) ma ++ wldA (.slice Ab kb cb') mb)
      replace low := gAlloc low (.cells (wldA (.slice Aa ka ca) ma ++ wldA (.slice Ab kb cb') mb) 31)
      replace cb := cb.alloc (.cells (wldA (.slice Aa ka ca) ma ++ wldA (.slice Ab kb cb') mb) 31)
      replace wb := wb.alloc (.cells (wldA (.slice Aa ka ca) ma ++ wldA (.slice Ab kb cb') mb) 31)
      replace qb := qb.alloc (.cells (wldA (.slice Aa ka ca) ma ++ wldA (.slice Ab kb cb') mb) 31)
      replace h := h.alloc (.cells (wldA (.slice Aa ka ca) ma ++ wldA (.slice Ab kb cb') mb) 31)
      try simp only [World.size_alloc] at zb
      have WL := Lib.hid (Wls.two hma hmb zb sha shb)
      have OWN := Lib.hid (show World.ownsRow ((w5.alloc (.cells (wldA (.slice Ab kb cb') mb) 31)).alloc (.cells (wldA (.slice Aa ka ca) ma ++ wldA (.slice Ab kb cb') mb) 31)) wB.heap.size 31 65 (.slice (some ⟨w5.heap.size + 1, 0, none⟩) 2 2) 2 (wldA (.slice Aa ka ca) ma ++ wldA (.slice Ab kb cb') mb).toList from by
        have s1 : (wldA (.slice Aa ka ca) ma ++ wldA (.slice Ab kb cb') mb).size = 130 := by rw [Array.size_append, wldA_size, wldA_size, hma, hmb]
        refine ⟨by rw [Array.length_toList, s1], .inr ⟨w5.heap.size + 1, 2, _, rfl, ?_, zb, Nat.le_refl _, by unfold maxLen; omega, s1, ?_⟩⟩
        · omega
        · exact List.take_of_length_le (by rw [Array.length_toList, s1]; omega))
      clear sha shb zb
      have wb0 := wb.at_ 0 (wldA_zero _ _)
      by_cases h0 : 0 < css.length
      · have p1 : decide (0 < css.length) = true := decide_eq_true h0
        have p2 : decide ((0 : Int) < css.length) = true := decide_eq_true (by omega)
        go_wp2_with (first | (with_reducible refine wp_newW (tyWorld) ?_) | ((with_reducible refine wp_freshW (tyWorld) (rfl) (ys) (yo) ?_ ?_ ?_); rfl; rfl) | ((with_reducible refine wp_loadW (tyWorld) (xr) (xs) ?_ ?_ ?_); rfl; rfl) | ((with_reducible refine wp_loadW (tyWorld) (yr) (ys) ?_ ?_ ?_); rfl; rfl) | ((with_reducible refine wp_world2 (.slice Aa ka ca) (.slice Ab kb cb') ma mb hma hmb ?_ ?_ ?_); rfl; rfl))
        have hcs : (wldA (.slice Aa ka ca) ma ++ wldA (.slice Ab kb cb') mb).size = 130 := by rw [Array.size_append, wldA_size, wldA_size, hma, hmb]
        clear xb yb xr yr xs ys xo yo p1 p2 wb0
        have w5z2 : wB.heap.size ≤ ((w5.alloc (.cells (wldA (.slice Ab kb cb') mb) 31)).alloc (.cells (wldA (.slice Aa ka ca) ma ++ wldA (.slice Ab kb cb') mb) 31)).heap.size := by simp; omega
        generalize hcw : wldA (.slice Aa ka ca) ma ++ wldA (.slice Ab kb cb') mb = cur0 at *
        generalize hgw : w5.heap.size + 1 = gw0 at *
        generalize (w5.alloc (.cells (wldA (.slice Ab kb cb') mb) 31)).alloc (.cells cur0 31) = wM at *
        clear hcw hgw
        obtain ⟨A0, c0', e0', k1', k2', k3'⟩ := h
        simp only [Value.slice.injEq, true_and] at e0'
        obtain ⟨rfl, rfl⟩ := e0'
        obtain ⟨b1, o1, rfl, hb1, hc1⟩ := k3' h0
        have hx0 : css[0]? = some css[0] := List.getElem?_eq_getElem _
        generalize css[0] = ss at hx0
        obtain ⟨A', c', ce, cs⟩ := hc1 0 ss hx0
        rw [Nat.add_zero] at ce
        have PU := Lib.hid fun w hw => put_shape n s y b (.slice A' ss.length c') ss x w hw
        have TK := Lib.hid fun w hw => take_shape n s y b (.slice A' ss.length c') ss x.ln w hw
        have CSM := Lib.hid cs
        have CEM := Lib.hid ce
        have i1 : (0 : Int) < css.length := by omega
        clear hc1 k3' hx0 cs ce H3 H1
        have nearM := Below.refl wM.heap.size wM
        have LOWM := Lib.hid low
        clear low
        have a0 := cb.at_ 0 rfl
        have a1 := cb.at_ 1 rfl
        have a2 := cb.at_ 2 rfl
        have a3 := cb.at_ 3 rfl
        have v0 := wb.at_ 0 (wldA_zero _ _)
        have q0 := qb.at_ 0 rfl
        have q1 := qb.at_ 1 rfl
        have q2 := qb.at_ 2 rfl
        have q3 := qb.at_ 3 rfl
        have q4 := qb.at_ 4 rfl
        have q5 := qb.at_ 5 rfl
        have ce := CEM.out
        refine wp_region_noPanic ?_
        refine wp_region_held_drew (S := fun w' => w'.cell? ⟨w.heap.size, 0, none⟩ = some (.int .i64 n) ∧ w'.cell? ⟨w.heap.size, 1, none⟩ = some (.int .i64 s) ∧ w'.cell? ⟨w.heap.size, 2, none⟩ = some (.int .i64 y) ∧ w'.cell? ⟨w.heap.size, 3, none⟩ = some (.int .i64 b) ∧ w'.cell? ⟨w.heap.size + 1, 0, none⟩ = some (.slice (some ⟨b1, o1, none⟩) css.length cp) ∧ w'.cell? ⟨b1, o1, none⟩ = some (.slice A' ss.length c') ∧ w'.cell? ⟨w.heap.size + 1 + 1 + 1, 0, none⟩ = some (.int .i64 x.st) ∧ w'.cell? ⟨w.heap.size + 1 + 1 + 1, 1, none⟩ = some (.int .i64 x.ln) ∧ w'.cell? ⟨w.heap.size + 1 + 1 + 1, 2, none⟩ = some (.int .u64 x.a) ∧ w'.cell? ⟨w.heap.size + 1 + 1 + 1, 3, none⟩ = some (.int .u64 x.b) ∧ w'.cell? ⟨w.heap.size + 1 + 1 + 1, 4, none⟩ = some (.int .u64 x.c) ∧ w'.cell? ⟨w.heap.size + 1 + 1 + 1, 5, none⟩ = some (.int .u64 x.d)) (by kernel_rfl) ⟨drewC a0, drewC a1, drewC a2, drewC a3, drewC v0, drewC ce, drewC q0, drewC q1, drewC q2, drewC q3, drewC q4, drewC q5⟩ (fun hHeld => ?_)
        clear a0 a1 a2 a3 v0 q0 q1 q2 q3 q4 q5 ce
        replace cb := cb.drew
        replace wb := wb.drew
        replace qb := qb.drew
        have cs := CSM.out.drew
        replace nearM := nearM.drew
        refine takeFirst (i := 0) (v := ?_) rfl (by kernel_rfl) (by kernel_rfl) (by kernel_rfl) (by rfl) (fun _ _ _ h => h) ?_ (by assumption) ?_
        rotate_left
        · (intro w hSw; go_simp; try (with_reducible rfl))
        try simp only [Act.put, List.setIfInBounds_toArray, List.set_cons_zero, List.set_cons_succ]
        refine takeFirst (i := 1) (v := ?_) rfl (by kernel_rfl) (by kernel_rfl) (by kernel_rfl) (by rfl) (fun _ _ _ h => h) ?_ (by assumption) ?_
        rotate_left
        · (intro w hSw; go_simp; try (with_reducible rfl))
        try simp only [Act.put, List.setIfInBounds_toArray, List.set_cons_zero, List.set_cons_succ]
        refine takeFirst (i := 2) (v := ?_) rfl (by kernel_rfl) (by kernel_rfl) (by kernel_rfl) (by rfl) (fun _ _ _ h => h) ?_ (by assumption) ?_
        rotate_left
        · (intro w hSw; go_simp; try (with_reducible rfl))
        try simp only [Act.put, List.setIfInBounds_toArray, List.set_cons_zero, List.set_cons_succ]
        refine takeFirst (i := 3) (v := ?_) rfl (by kernel_rfl) (by kernel_rfl) (by kernel_rfl) (by rfl) (fun _ _ _ h => h) ?_ (by assumption) ?_
        rotate_left
        · (intro w hSw; go_simp; try (with_reducible rfl))
        try simp only [Act.put, List.setIfInBounds_toArray, List.set_cons_zero, List.set_cons_succ]
        refine takeFirst (i := 4) (v := ?_) rfl (by kernel_rfl) (by kernel_rfl) (by kernel_rfl) (by rfl) (fun _ _ _ h => h) ?_ (by assumption) ?_
        rotate_left
        · (intro w hSw; go_simp; try (with_reducible rfl))
        try simp only [Act.put, List.setIfInBounds_toArray, List.set_cons_zero, List.set_cons_succ]
        refine takeFirst (i := 5) (v := ?_) rfl (by kernel_rfl) (by kernel_rfl) (by kernel_rfl) (by rfl) (fun _ _ _ h => h) ?_ (by assumption) ?_
        rotate_left
        · (intro w hSw; go_simp; try (with_reducible rfl))
        try simp only [Act.put, List.setIfInBounds_toArray, List.set_cons_zero, List.set_cons_succ]
        generalize wM.drew = wN at *
        have near := Below.refl wN.heap.size wN
        apply shareP (M := fun g A2 c2 k2 z2 E3 wz => NewS wN g A2 c2 k2 wz)
        · intro hE
          refine stepTwo (i1 := 6) (i2 := 11) (by kernel_rfl) rfl rfl (by rfl) (by rfl) (fun K hK => ?_) (fun K hK => ?_)
          · go_simp
            (with_reducible refine (PU.out _ cs).mono ?_); rintro e wy ⟨⟨A2, c2, k2, z2, E3, rfl, sh⟩, hb⟩
            replace near := gCall near hb
            have NS := NewS.after near sh
            clear hb
            try clear hNow
            have hNow := (And.intro (callC near hHeld.1) (And.intro (callC near hHeld.2.1) (And.intro (callC near hHeld.2.2.1) (And.intro (callC near hHeld.2.2.2.1) (And.intro (callC near hHeld.2.2.2.2.1) (And.intro (callC near hHeld.2.2.2.2.2.1) (And.intro (callC near hHeld.2.2.2.2.2.2.1) (And.intro (callC near hHeld.2.2.2.2.2.2.2.1) (And.intro (callC near hHeld.2.2.2.2.2.2.2.2.1) (And.intro (callC near hHeld.2.2.2.2.2.2.2.2.2.1) (And.intro (callC near hHeld.2.2.2.2.2.2.2.2.2.2.1) (callC near hHeld.2.2.2.2.2.2.2.2.2.2.2))))))))))))
            refine hK.out _ _ hNow ?_
            clear hK K
            try simp only [Act.put]
            try simp only [List.setIfInBounds_toArray, List.set_cons_zero, List.set_cons_succ]
            refine takeFirst (i := 7) (v := ?_) rfl (by kernel_rfl) (by kernel_rfl) (by kernel_rfl) (by rfl) (fun _ _ _ h => h) ?_ (by assumption) ?_
            rotate_left
            · (intro w hSw; go_simp; try (with_reducible rfl))
            try simp only [Act.put, List.setIfInBounds_toArray, List.set_cons_zero, List.set_cons_succ]
            refine takeFirst (i := 8) (v := ?_) rfl (by kernel_rfl) (by kernel_rfl) (by kernel_rfl) (by rfl) (fun _ _ _ h => h) ?_ (by assumption) ?_
            rotate_left
            · (intro w hSw; go_simp; try (with_reducible rfl))
            try simp only [Act.put, List.setIfInBounds_toArray, List.set_cons_zero, List.set_cons_succ]
            refine takeFirst (i := 9) (v := ?_) rfl (by kernel_rfl) (by kernel_rfl) (by kernel_rfl) (by rfl) (fun _ _ _ h => h) ?_ (by assumption) ?_
            rotate_left
            · (intro w hSw; go_simp; try (with_reducible rfl))
            try simp only [Act.put, List.setIfInBounds_toArray, List.set_cons_zero, List.set_cons_succ]
            refine takeFirst (i := 10) (v := ?_) rfl (by kernel_rfl) (by kernel_rfl) (by kernel_rfl) (by rfl) (fun _ _ _ h => h) ?_ (by assumption) ?_
            rotate_left
            · (intro w hSw; go_simp; try (with_reducible rfl))
            try simp only [Act.put, List.setIfInBounds_toArray, List.set_cons_zero, List.set_cons_succ]
            refine stepNext (i := 11) (by kernel_rfl) rfl (by rfl) (fun K hK => ?_)
            refine op_newW tyWay ?_
            replace near := gAlloc near (.cells zeroA 51)
            try clear hNow
            have hNow := (And.intro (callC near hHeld.1) (And.intro (callC near hHeld.2.1) (And.intro (callC near hHeld.2.2.1) (And.intro (callC near hHeld.2.2.2.1) (And.intro (callC near hHeld.2.2.2.2.1) (And.intro (callC near hHeld.2.2.2.2.2.1) (And.intro (callC near hHeld.2.2.2.2.2.2.1) (And.intro (callC near hHeld.2.2.2.2.2.2.2.1) (And.intro (callC near hHeld.2.2.2.2.2.2.2.2.1) (And.intro (callC near hHeld.2.2.2.2.2.2.2.2.2.1) (And.intro (callC near hHeld.2.2.2.2.2.2.2.2.2.2.1) (callC near hHeld.2.2.2.2.2.2.2.2.2.2.2))))))))))))
            refine hK.out _ _ hNow ?_
            clear hK K
            try simp only [Act.put]
            try simp only [List.setIfInBounds_toArray, List.set_cons_zero, List.set_cons_succ]
            generalize wy.alloc (.cells zeroA 51) = wz at *
            generalize wy.heap.size = ga at *
            refine relist (l2 := #[true, true, true, true, true, true, true, true, true, true, true, true, false, false, false]) (by kernel_rfl) ?_
            exact hE ga A2 c2 k2 z2 E3 _ NS
          · refine op_newW tyWay ?_
            have box := Box.new wN 51 zeroA
            have sz2 : (wN.alloc (.cells zeroA 51)).heap.size = wN.heap.size + 1 := by simp
            replace near := gAlloc near (.cells zeroA 51)
            try clear hNow
            have hNow := (And.intro (callC near hHeld.1) (And.intro (callC near hHeld.2.1) (And.intro (callC near hHeld.2.2.1) (And.intro (callC near hHeld.2.2.2.1) (And.intro (callC near hHeld.2.2.2.2.1) (And.intro (callC near hHeld.2.2.2.2.2.1) (And.intro (callC near hHeld.2.2.2.2.2.2.1) (And.intro (callC near hHeld.2.2.2.2.2.2.2.1) (And.intro (callC near hHeld.2.2.2.2.2.2.2.2.1) (And.intro (callC near hHeld.2.2.2.2.2.2.2.2.2.1) (And.intro (callC near hHeld.2.2.2.2.2.2.2.2.2.2.1) (callC near hHeld.2.2.2.2.2.2.2.2.2.2.2))))))))))))
            refine hK.out _ _ hNow ?_
            clear hK K
            try simp only [Act.put]
            try simp only [List.setIfInBounds_toArray, List.set_cons_zero, List.set_cons_succ]
            clear hNow
            have cs2 := cs.call near
            generalize wN.alloc (.cells zeroA 51) = wx at *
            generalize hga : wN.heap.size = ga at box sz2 ⊢
            have HGA := Lib.hid hga
            have SZ := Lib.hid sz2
            clear hga sz2
            refine stepNext (i := 6) (by kernel_rfl) rfl (by rfl) (fun K hK => ?_)
            go_simp
            (with_reducible refine (PU.out _ cs2).mono ?_); rintro e wy ⟨⟨A2, c2, k2, z2, E3, rfl, sh⟩, hb⟩
            replace near := gCall near hb
            rw [SZ.out] at sh
            have NS := NewS.before near HGA.out (box.call hb) sh
            clear hb
            try clear hNow
            have hNow := (And.intro (callC near hHeld.1) (And.intro (callC near hHeld.2.1) (And.intro (callC near hHeld.2.2.1) (And.intro (callC near hHeld.2.2.2.1) (And.intro (callC near hHeld.2.2.2.2.1) (And.intro (callC near hHeld.2.2.2.2.2.1) (And.intro (callC near hHeld.2.2.2.2.2.2.1) (And.intro (callC near hHeld.2.2.2.2.2.2.2.1) (And.intro (callC near hHeld.2.2.2.2.2.2.2.2.1) (And.intro (callC near hHeld.2.2.2.2.2.2.2.2.2.1) (And.intro (callC near hHeld.2.2.2.2.2.2.2.2.2.2.1) (callC near hHeld.2.2.2.2.2.2.2.2.2.2.2))))))))))))
            refine hK.out _ _ hNow ?_
            clear hK K
            try simp only [Act.put]
            try simp only [List.setIfInBounds_toArray, List.set_cons_zero, List.set_cons_succ]
            refine takeFirst (i := 7) (v := ?_) rfl (by kernel_rfl) (by kernel_rfl) (by kernel_rfl) (by rfl) (fun _ _ _ h => h) ?_ (by assumption) ?_
            rotate_left
            · (intro w hSw; go_simp; try (with_reducible rfl))
            try simp only [Act.put, List.setIfInBounds_toArray, List.set_cons_zero, List.set_cons_succ]
            refine takeFirst (i := 8) (v := ?_) rfl (by kernel_rfl) (by kernel_rfl) (by kernel_rfl) (by rfl) (fun _ _ _ h => h) ?_ (by assumption) ?_
            rotate_left
            · (intro w hSw; go_simp; try (with_reducible rfl))
            try simp only [Act.put, List.setIfInBounds_toArray, List.set_cons_zero, List.set_cons_succ]
            refine takeFirst (i := 9) (v := ?_) rfl (by kernel_rfl) (by kernel_rfl) (by kernel_rfl) (by rfl) (fun _ _ _ h => h) ?_ (by assumption) ?_
            rotate_left
            · (intro w hSw; go_simp; try (with_reducible rfl))
            try simp only [Act.put, List.setIfInBounds_toArray, List.set_cons_zero, List.set_cons_succ]
            refine takeFirst (i := 10) (v := ?_) rfl (by kernel_rfl) (by kernel_rfl) (by kernel_rfl) (by rfl) (fun _ _ _ h => h) ?_ (by assumption) ?_
            rotate_left
            · (intro w hSw; go_simp; try (with_reducible rfl))
            try simp only [Act.put, List.setIfInBounds_toArray, List.set_cons_zero, List.set_cons_succ]
            refine relist (l2 := #[true, true, true, true, true, true, true, true, true, true, true, true, false, false, false]) (by kernel_rfl) ?_
            exact hE ga A2 c2 k2 z2 E3 _ NS
        intro gx A2 c2 k2 z2 E3 wz mid
        obtain ⟨near2, gnew, zb, shz⟩ := mid
        have mz := nearM.size
        have n2 := near2.size
        have qlt := qb.lt
        have bl := block_lt_of_cell hHeld.2.2.2.2.2.1
        dsimp only at bl
        replace cb := cb.call near2
        replace wb := wb.call near2
        replace qb := qb.call near2
        replace nearM := gCall nearM near2
        obtain ⟨hh0, hh1, hh2, hh3, hh4, hh5, hh6, hh7, hh8, hh9, hh10, hh11⟩ := hHeld
        have hHeld := (And.intro (callC near2 hh0) (And.intro (callC near2 hh1) (And.intro (callC near2 hh2) (And.intro (callC near2 hh3) (And.intro (callC near2 hh4) (And.intro (callC near2 hh5) (And.intro (callC near2 hh6) (And.intro (callC near2 hh7) (And.intro (callC near2 hh8) (And.intro (callC near2 hh9) (And.intro (callC near2 hh10) (callC near2 hh11))))))))))))
        clear hh0 hh1 hh2 hh3 hh4 hh5 hh6 hh7 hh8 hh9 hh10 hh11
        clear near cs near2
        refine takeFirst (i := 12) (v := ?_) rfl (by kernel_rfl) (by kernel_rfl) (by kernel_rfl) (by rfl) (fun _ _ _ h => h) ?_ (by assumption) ?_
        rotate_left
        · (intro w hSw; go_simp; try (with_reducible rfl))
        try simp only [Act.put, List.setIfInBounds_toArray, List.set_cons_zero, List.set_cons_succ]
        refine stepNext (i := 13) (by kernel_rfl) rfl (by rfl) (fun K hK => ?_)
        refine wp_store_box 51 (.tmp 23) (.tmp 91) rfl _ _ rfl rfl zb (tyWay.size.trans rfl) rfl (way_one z2) ?_
        intro w8 zb8 st8
        have shP := shz _ st8
        have sz8' : wz.heap.size ≤ w8.heap.size := Nat.le_of_eq st8.size.symm
        replace cb := st8.box cb (by omega)
        replace wb := st8.box wb (by omega)
        replace qb := st8.box qb (by omega)
        replace nearM := st8.low nearM (by omega)
        replace shP := shP.more (show wB.heap.size ≤ wN.heap.size by omega)
        obtain ⟨hh0, hh1, hh2, hh3, hh4, hh5, hh6, hh7, hh8, hh9, hh10, hh11⟩ := hHeld
        have hHeld := (And.intro (st8.cell (by dsimp only; omega) hh0) (And.intro (st8.cell (by dsimp only; omega) hh1) (And.intro (st8.cell (by dsimp only; omega) hh2) (And.intro (st8.cell (by dsimp only; omega) hh3) (And.intro (st8.cell (by dsimp only; omega) hh4) (And.intro (st8.cell (by dsimp only; omega) hh5) (And.intro (st8.cell (by dsimp only; omega) hh6) (And.intro (st8.cell (by dsimp only; omega) hh7) (And.intro (st8.cell (by dsimp only; omega) hh8) (And.intro (st8.cell (by dsimp only; omega) hh9) (And.intro (st8.cell (by dsimp only; omega) hh10) (st8.cell (by dsimp only; omega) hh11))))))))))))
        clear hh0 hh1 hh2 hh3 hh4 hh5 hh6 hh7 hh8 hh9 hh10 hh11
        clear st8 zb shz zb8
        refine hK.out _ _ hHeld ?_
        clear hK K
        try simp only [Act.put]
        try simp only [List.setIfInBounds_toArray, List.set_cons_zero, List.set_cons_succ]
        refine takeFirst (i := 14) (v := ?_) rfl (by kernel_rfl) (by kernel_rfl) (by kernel_rfl) (by rfl) (fun _ _ _ h => h) ?_ (by assumption) ?_
        rotate_left
        · (intro w hSw; go_simp; try (with_reducible rfl))
        try simp only [Act.put, List.setIfInBounds_toArray, List.set_cons_zero, List.set_cons_succ]
        refine wpAnyH_done (by kernel_rfl) ?_ _
        refine NoPanic.normal ?_
        clear hHeld
        go_wp2_with fail
        have a0 := cb.at_ 0 rfl
        have a1 := cb.at_ 1 rfl
        have a2 := cb.at_ 2 rfl
        have a3 := cb.at_ 3 rfl
        have v0 := wb.at_ 0 (wldA_zero _ _)
        have q1 := qb.at_ 1 rfl
        have ce := callC nearM CEM.out
        have sz8 : wN.heap.size ≤ w8.heap.size := by omega
        refine wp_region_noPanic ?_
        refine wp_region_held_drew (S := fun w' => w'.cell? ⟨w.heap.size, 0, none⟩ = some (.int .i64 n) ∧ w'.cell? ⟨w.heap.size, 1, none⟩ = some (.int .i64 s) ∧ w'.cell? ⟨w.heap.size, 2, none⟩ = some (.int .i64 y) ∧ w'.cell? ⟨w.heap.size, 3, none⟩ = some (.int .i64 b) ∧ w'.cell? ⟨w.heap.size + 1, 0, none⟩ = some (.slice (some ⟨b1, o1, none⟩) css.length cp) ∧ w'.cell? ⟨b1, o1, none⟩ = some (.slice A' ss.length c') ∧ w'.cell? ⟨w.heap.size + 1 + 1 + 1, 1, none⟩ = some (.int .i64 x.ln)) (by kernel_rfl) ⟨drewC a0, drewC a1, drewC a2, drewC a3, drewC v0, drewC ce, drewC q1⟩ (fun hHeld => ?_)
        clear a0 a1 a2 a3 v0 q1 ce
        have cs := (CSM.out.call nearM).drew
        replace nearM := nearM.drew
        replace shP := shP.call (Below.refl _ _).drew
        replace qb := qb.drew
        refine takeFirst (i := 0) (v := ?_) rfl (by kernel_rfl) (by kernel_rfl) (by kernel_rfl) (by rfl) (fun _ _ _ h => h) ?_ (by assumption) ?_
        rotate_left
        · (intro w hSw; go_simp; try (with_reducible rfl))
        try simp only [Act.put, List.setIfInBounds_toArray, List.set_cons_zero, List.set_cons_succ]
        refine takeFirst (i := 1) (v := ?_) rfl (by kernel_rfl) (by kernel_rfl) (by kernel_rfl) (by rfl) (fun _ _ _ h => h) ?_ (by assumption) ?_
        rotate_left
        · (intro w hSw; go_simp; try (with_reducible rfl))
        try simp only [Act.put, List.setIfInBounds_toArray, List.set_cons_zero, List.set_cons_succ]
        refine takeFirst (i := 2) (v := ?_) rfl (by kernel_rfl) (by kernel_rfl) (by kernel_rfl) (by rfl) (fun _ _ _ h => h) ?_ (by assumption) ?_
        rotate_left
        · (intro w hSw; go_simp; try (with_reducible rfl))
        try simp only [Act.put, List.setIfInBounds_toArray, List.set_cons_zero, List.set_cons_succ]
        refine takeFirst (i := 3) (v := ?_) rfl (by kernel_rfl) (by kernel_rfl) (by kernel_rfl) (by rfl) (fun _ _ _ h => h) ?_ (by assumption) ?_
        rotate_left
        · (intro w hSw; go_simp; try (with_reducible rfl))
        try simp only [Act.put, List.setIfInBounds_toArray, List.set_cons_zero, List.set_cons_succ]
        refine takeFirst (i := 4) (v := ?_) rfl (by kernel_rfl) (by kernel_rfl) (by kernel_rfl) (by rfl) (fun _ _ _ h => h) ?_ (by assumption) ?_
        rotate_left
        · (intro w hSw; go_simp; try (with_reducible rfl))
        try simp only [Act.put, List.setIfInBounds_toArray, List.set_cons_zero, List.set_cons_succ]
        refine takeFirst (i := 5) (v := ?_) rfl (by kernel_rfl) (by kernel_rfl) (by kernel_rfl) (by rfl) (fun _ _ _ h => h) ?_ (by assumption) ?_
        rotate_left
        · (intro w hSw; go_simp; try (with_reducible rfl))
        try simp only [Act.put, List.setIfInBounds_toArray, List.set_cons_zero, List.set_cons_succ]
        refine takeFirst (i := 6) (v := ?_) rfl (by kernel_rfl) (by kernel_rfl) (by kernel_rfl) (by rfl) (fun _ _ _ h => h) ?_ (by assumption) ?_
        rotate_left
        · (intro w hSw; go_simp; try (with_reducible rfl))
        try simp only [Act.put, List.setIfInBounds_toArray, List.set_cons_zero, List.set_cons_succ]
        have sz9 : w8.heap.size ≤ w8.drew.heap.size := by simp
        generalize w8.drew = wP at *
        have near := Below.refl wP.heap.size wP
        apply shareP (M := fun g A3 c3 k3 z3 E4 wz => NewS wP g A3 c3 k3 wz)
        · intro hE
          refine stepTwo (i1 := 7) (i2 := 12) (by kernel_rfl) rfl rfl (by rfl) (by rfl) (fun K hK => ?_) (fun K hK => ?_)
          · go_simp
            (with_reducible refine (TK.out _ cs).mono ?_); rintro e wy ⟨⟨A3, c3, k3, z3, E4, rfl, sh⟩, hb⟩
            replace near := gCall near hb
            have NS := NewS.after near sh
            clear hb
            try clear hNow
            have hNow := (And.intro (callC near hHeld.1) (And.intro (callC near hHeld.2.1) (And.intro (callC near hHeld.2.2.1) (And.intro (callC near hHeld.2.2.2.1) (And.intro (callC near hHeld.2.2.2.2.1) (And.intro (callC near hHeld.2.2.2.2.2.1) (callC near hHeld.2.2.2.2.2.2)))))))
            refine hK.out _ _ hNow ?_
            clear hK K
            try simp only [Act.put]
            try simp only [List.setIfInBounds_toArray, List.set_cons_zero, List.set_cons_succ]
            refine takeFirst (i := 8) (v := ?_) rfl (by kernel_rfl) (by kernel_rfl) (by kernel_rfl) (by rfl) (fun _ _ _ h => h) ?_ (by assumption) ?_
            rotate_left
            · (intro w hSw; go_simp; try (with_reducible rfl))
            try simp only [Act.put, List.setIfInBounds_toArray, List.set_cons_zero, List.set_cons_succ]
            refine takeFirst (i := 9) (v := ?_) rfl (by kernel_rfl) (by kernel_rfl) (by kernel_rfl) (by rfl) (fun _ _ _ h => h) ?_ (by assumption) ?_
            rotate_left
            · (intro w hSw; go_simp; try (with_reducible rfl))
            try simp only [Act.put, List.setIfInBounds_toArray, List.set_cons_zero, List.set_cons_succ]
            refine takeFirst (i := 10) (v := ?_) rfl (by kernel_rfl) (by kernel_rfl) (by kernel_rfl) (by rfl) (fun _ _ _ h => h) ?_ (by assumption) ?_
            rotate_left
            · (intro w hSw; go_simp; try (with_reducible rfl))
            try simp only [Act.put, List.setIfInBounds_toArray, List.set_cons_zero, List.set_cons_succ]
            refine takeFirst (i := 11) (v := ?_) rfl (by kernel_rfl) (by kernel_rfl) (by kernel_rfl) (by rfl) (fun _ _ _ h => h) ?_ (by assumption) ?_
            rotate_left
            · (intro w hSw; go_simp; try (with_reducible rfl))
            try simp only [Act.put, List.setIfInBounds_toArray, List.set_cons_zero, List.set_cons_succ]
            refine stepNext (i := 12) (by kernel_rfl) rfl (by rfl) (fun K hK => ?_)
            refine op_newW tyWay ?_
            replace near := gAlloc near (.cells zeroA 51)
            try clear hNow
            have hNow := (And.intro (callC near hHeld.1) (And.intro (callC near hHeld.2.1) (And.intro (callC near hHeld.2.2.1) (And.intro (callC near hHeld.2.2.2.1) (And.intro (callC near hHeld.2.2.2.2.1) (And.intro (callC near hHeld.2.2.2.2.2.1) (callC near hHeld.2.2.2.2.2.2)))))))
            refine hK.out _ _ hNow ?_
            clear hK K
            try simp only [Act.put]
            try simp only [List.setIfInBounds_toArray, List.set_cons_zero, List.set_cons_succ]
            generalize wy.alloc (.cells zeroA 51) = wz' at *
            generalize wy.heap.size = ga at *
            refine relist (l2 := #[true, true, true, true, true, true, true, true, true, true, true, true, true, false, false, false]) (by kernel_rfl) ?_
            exact hE ga A3 c3 k3 z3 E4 _ NS
          · refine op_newW tyWay ?_
            have box := Box.new wP 51 zeroA
            have sz2 : (wP.alloc (.cells zeroA 51)).heap.size = wP.heap.size + 1 := by simp
            replace near := gAlloc near (.cells zeroA 51)
            try clear hNow
            have hNow := (And.intro (callC near hHeld.1) (And.intro (callC near hHeld.2.1) (And.intro (callC near hHeld.2.2.1) (And.intro (callC near hHeld.2.2.2.1) (And.intro (callC near hHeld.2.2.2.2.1) (And.intro (callC near hHeld.2.2.2.2.2.1) (callC near hHeld.2.2.2.2.2.2)))))))
            refine hK.out _ _ hNow ?_
            clear hK K
            try simp only [Act.put]
            try simp only [List.setIfInBounds_toArray, List.set_cons_zero, List.set_cons_succ]
            clear hNow
            have cs2 := cs.call near
            generalize wP.alloc (.cells zeroA 51) = wx at *
            generalize hga : wP.heap.size = ga at box sz2 ⊢
            have HGA := Lib.hid hga
            have SZ := Lib.hid sz2
            clear hga sz2
            refine stepNext (i := 7) (by kernel_rfl) rfl (by rfl) (fun K hK => ?_)
            go_simp
            (with_reducible refine (TK.out _ cs2).mono ?_); rintro e wy ⟨⟨A3, c3, k3, z3, E4, rfl, sh⟩, hb⟩
            replace near := gCall near hb
            rw [SZ.out] at sh
            have NS := NewS.before near HGA.out (box.call hb) sh
            clear hb
            try clear hNow
            have hNow := (And.intro (callC near hHeld.1) (And.intro (callC near hHeld.2.1) (And.intro (callC near hHeld.2.2.1) (And.intro (callC near hHeld.2.2.2.1) (And.intro (callC near hHeld.2.2.2.2.1) (And.intro (callC near hHeld.2.2.2.2.2.1) (callC near hHeld.2.2.2.2.2.2)))))))
            refine hK.out _ _ hNow ?_
            clear hK K
            try simp only [Act.put]
            try simp only [List.setIfInBounds_toArray, List.set_cons_zero, List.set_cons_succ]
            refine takeFirst (i := 8) (v := ?_) rfl (by kernel_rfl) (by kernel_rfl) (by kernel_rfl) (by rfl) (fun _ _ _ h => h) ?_ (by assumption) ?_
            rotate_left
            · (intro w hSw; go_simp; try (with_reducible rfl))
            try simp only [Act.put, List.setIfInBounds_toArray, List.set_cons_zero, List.set_cons_succ]
            refine takeFirst (i := 9) (v := ?_) rfl (by kernel_rfl) (by kernel_rfl) (by kernel_rfl) (by rfl) (fun _ _ _ h => h) ?_ (by assumption) ?_
            rotate_left
            · (intro w hSw; go_simp; try (with_reducible rfl))
            try simp only [Act.put, List.setIfInBounds_toArray, List.set_cons_zero, List.set_cons_succ]
            refine takeFirst (i := 10) (v := ?_) rfl (by kernel_rfl) (by kernel_rfl) (by kernel_rfl) (by rfl) (fun _ _ _ h => h) ?_ (by assumption) ?_
            rotate_left
            · (intro w hSw; go_simp; try (with_reducible rfl))
            try simp only [Act.put, List.setIfInBounds_toArray, List.set_cons_zero, List.set_cons_succ]
            refine takeFirst (i := 11) (v := ?_) rfl (by kernel_rfl) (by kernel_rfl) (by kernel_rfl) (by rfl) (fun _ _ _ h => h) ?_ (by assumption) ?_
            rotate_left
            · (intro w hSw; go_simp; try (with_reducible rfl))
            try simp only [Act.put, List.setIfInBounds_toArray, List.set_cons_zero, List.set_cons_succ]
            refine relist (l2 := #[true, true, true, true, true, true, true, true, true, true, true, true, true, false, false, false]) (by kernel_rfl) ?_
            exact hE ga A3 c3 k3 z3 E4 _ NS
        intro gx2 A3 c3 k3 z3 E4 wz' mid
        obtain ⟨near2, gnew2, zb, shz⟩ := mid
        have mz2 := nearM.size
        have n3 := near2.size
        have bl2 := block_lt_of_cell hHeld.2.2.2.2.2.1
        have bl3 := block_lt_of_cell hHeld.2.2.2.2.2.2
        dsimp only at bl2 bl3
        have nearP := near2
        replace nearM := gCall nearM near2
        obtain ⟨hh0, hh1, hh2, hh3, hh4, hh5, hh6⟩ := hHeld
        have hHeld := (And.intro (callC near2 hh0) (And.intro (callC near2 hh1) (And.intro (callC near2 hh2) (And.intro (callC near2 hh3) (And.intro (callC near2 hh4) (And.intro (callC near2 hh5) (callC near2 hh6)))))))
        clear hh0 hh1 hh2 hh3 hh4 hh5 hh6
        clear near cs near2
        refine takeFirst (i := 13) (v := ?_) rfl (by kernel_rfl) (by kernel_rfl) (by kernel_rfl) (by rfl) (fun _ _ _ h => h) ?_ (by assumption) ?_
        rotate_left
        · (intro w hSw; go_simp; try (with_reducible rfl))
        try simp only [Act.put, List.setIfInBounds_toArray, List.set_cons_zero, List.set_cons_succ]
        refine stepNext (i := 14) (by kernel_rfl) rfl (by rfl) (fun K hK => ?_)
        refine wp_store_box 51 (.tmp 26) (.tmp 103) rfl _ _ rfl rfl zb (tyWay.size.trans rfl) rfl (way_one z3) ?_
        intro w9 zb9 st9
        have shT := (shz _ st9).more (show wB.heap.size ≤ wP.heap.size by omega)
        replace nearP := st9.low nearP (by omega)
        replace shP := shP.call nearP
        replace nearM := st9.low nearM (by omega)
        have sz10 : wz'.heap.size ≤ w9.heap.size := Nat.le_of_eq st9.size.symm
        obtain ⟨hh0, hh1, hh2, hh3, hh4, hh5, hh6⟩ := hHeld
        have hHeld := (And.intro (st9.cell (by dsimp only; omega) hh0) (And.intro (st9.cell (by dsimp only; omega) hh1) (And.intro (st9.cell (by dsimp only; omega) hh2) (And.intro (st9.cell (by dsimp only; omega) hh3) (And.intro (st9.cell (by dsimp only; omega) hh4) (And.intro (st9.cell (by dsimp only; omega) hh5) (st9.cell (by dsimp only; omega) hh6)))))))
        clear hh0 hh1 hh2 hh3 hh4 hh5 hh6
        clear st9 zb shz zb9 nearP
        refine hK.out _ _ hHeld ?_
        clear hK K
        try simp only [Act.put]
        try simp only [List.setIfInBounds_toArray, List.set_cons_zero, List.set_cons_succ]
        refine takeFirst (i := 15) (v := ?_) rfl (by kernel_rfl) (by kernel_rfl) (by kernel_rfl) (by rfl) (fun _ _ _ h => h) ?_ (by assumption) ?_
        rotate_left
        · (intro w hSw; go_simp; try (with_reducible rfl))
        try simp only [Act.put, List.setIfInBounds_toArray, List.set_cons_zero, List.set_cons_succ]
        refine wpAnyH_done (by kernel_rfl) ?_ _
        refine NoPanic.normal ?_
        clear hHeld cb wb qb CSM CEM PU TK
        have m9 := nearM.size
        replace WL := Lib.hid (WL.out.call nearM)
        replace nearB := gCall nearB nearM
        have own9 := own_below OWN.out nearM
        have hz9 : wB.heap.size ≤ w9.heap.size := by omega
        have pb := Box.new w9 55 #[.slice A2 k2 c2, .slice A3 k3 c3]
        have al1 := gAlloc (Below.refl w9.heap.size w9) (.cells #[.slice A2 k2 c2, .slice A3 k3 c3] 55)
        replace shP := shP.call al1
        replace shT := shT.call al1
        have shN := ShC.pair hz9 pb shP shT
        have al2 := gAlloc al1 (.cells (wldA (.slice (some ⟨w9.heap.size, 0, none⟩) 2 2) zeroL) 31)
        have shN2 := shN.call (gAlloc (Below.refl _ _) (.cells (wldA (.slice (some ⟨w9.heap.size, 0, none⟩) 2 2) zeroL) 31))
        replace WL := Lib.hid (WL.out.call al2)
        replace nearB := gCall nearB al2
        replace own9 := own_below own9 al2
        have nb := boxNext al1 31 (wldA (.slice (some ⟨w9.heap.size, 0, none⟩) 2 2) zeroL)
        try simp only [World.size_alloc] at nb
        obtain ⟨iw, wi, wz0, wz1, wz2'⟩ := info_parts info_world
        have WI := Lib.hid wi
        have WZ := Lib.hid (And.intro wz0 (And.intro wz1 wz2'))
        have sz11 : w9.heap.size + 1 + 1 ≤ ((w9.alloc (.cells #[.slice A2 k2 c2, .slice A3 k3 c3] 55)).alloc (.cells (wldA (.slice (some ⟨w9.heap.size, 0, none⟩) 2 2) zeroL) 31)).heap.size := by simp
        clear shP shT shN pb al1 al2 wi wz0 wz1 wz2' OWN nearM
        have ln65 : (wldA (.slice (some ⟨w9.heap.size, 0, none⟩) 2 2) zeroL).toList.length = 1 * 65 := by rw [Array.length_toList, wldA_size, zeroL_length]
        have OWN9 := Lib.hid own9
        have NB := Lib.hid nb
        clear nb
        go_wp2_with (first | ((with_reducible refine wp_nomem (some ⟨w9.heap.size, 0, none⟩) 2 2 ?_ ?_); rfl) | ((with_reducible refine wp_world1 (.slice (some ⟨w9.heap.size, 0, none⟩) 2 2) zeroL zeroL_length ?_ ?_); rfl) | (at_builtin; refine pauseH ?_))
        refine Lib.hid ?_
        have hzs65 : (wldV (.slice none 0 0) zeroL).cells.size = 65 := by rw [wv_cells]; exact zero_size
        refine wpList_append_own _ rfl (.tmp 105) (.tmp 110) 80 rfl wB.heap.size 31 iw (wldV (.slice none 0 0) zeroL) 65 536 Try.underlying80 WI.out WZ.out.1 WZ.out.2.1 WZ.out.2.2 hzs65 (by decide) (.slice (some ⟨gw0, 0, none⟩) 2 2) 2 cur0.toList rfl OWN9.out ⟨(w9.alloc (.cells #[.slice A2 k2 c2, .slice A3 k3 c3] 55)).heap.size, 0, none⟩ 1 1 (wldA (.slice (some ⟨w9.heap.size, 0, none⟩) 2 2) zeroL).toList rfl ln65 ?n1 ?n2 ?n3 ?n4 ?n5 ?_
        case n1 =>
          intro i u hu
          have e : (⟨(w9.alloc (.cells #[.slice A2 k2 c2, .slice A3 k3 c3] 55)).heap.size, 0, none⟩ : Addr).add i = ⟨w9.heap.size + 1, i, none⟩ := by cases i <;> simp [Addr.add]
          rw [e]
          rw [Array.getElem?_toList] at hu
          exact NB.out.at_ i hu
        case n2 =>
          intro u hu
          have := wldA_one (A := some ⟨w9.heap.size, 0, none⟩) (n := 2) (c := 2) zeroL
          rw [Array.all_eq_true_iff_forall_mem] at this
          exact this u (Array.mem_toList_iff.1 hu)
        case n3 => unfold maxLen; omega
        case n4 => omega
        case n5 => omega
        intro v' w11 own11 grow11 hnil
        have hne : v' ≠ .slice none 0 0 := fun e => by have := (hnil.1 e).1; cases this
        have each : ∀ A c k, ShC _ wB.heap.size (.slice A k c) k → ShC w11 wB.heap.size (.slice A k c) k := fun A c k sh => sh.map fun g t cs _ ht b => b.grown grow11 (own_ne OWN9.out b ht)
        obtain ⟨gw, cap3, cur, rfl, hcap, hcapm, wl3⟩ := Wls.three (gw := gw0) WL.out rfl hcs zeroL_length own11 hne each (each _ _ _ shN2)
        replace nearB := nearB.grown grow11 (by omega) (fun g e => (OWN9.out.lt _ e).1)
        replace WL := Lib.hid wl3
        clear wl3 own11 grow11 hnil hne each OWN9 NB shN2 WI WZ own9
        go_wp2_with fail
        (with_reducible refine (SM.out _ nearB).mono ?_); rintro e w7 ⟨rfl, hb7⟩
        replace nearB := gCall nearB hb7
        replace WL := Lib.hid (WL.out.call hb7)
        clear hb7
        try clear low
        have n7 := nearB.size
        go_wp2_with fail
        go_loopw [116] (fun a wx => ∃ j : Nat, j ≤ 3 ∧ a = .int .i64 j ∧ Hid (Wls wx wB.heap.size gw 3 cur) ∧ Below wB.heap.size wB wx) (fun a _ => 3 - (intOf a).toNat)
        case atStart => exact ⟨0, Nat.zero_le _, rfl, WL, nearB⟩
        case round =>
          clear WL nearB n7
          obtain ⟨j, hj, rfl, WL, nearB⟩ := hrel
          by_cases hlt : j < 3
          · obtain ⟨Aj, cj, kj, mj, hmj, hcur, shj⟩ := WL.out.each j hlt
            have rg : wr.rangeAt gw (j * 65) (wldA (.slice Aj kj cj) mj).toList := fun i u hu => by
              rw [WL.out.box.cell]
              rw [Array.getElem?_toList] at hu
              exact hcur i u hu
            have sj : (wldA (.slice Aj kj cj) mj).size = (wldA (.slice none 0 0) zeroL).size := wld_size hmj
            have oj : (wldA (.slice Aj kj cj) mj).all (·.oneCell') = true := wldA_one _
            have j0 : (0 : Int) ≤ j := by omega
            have j1 : (j : Int) < 3 := by omega
            have SJ := Lib.hid (shj.call (gAlloc (Below.refl _ _) (.cells (wldA (.slice Aj kj cj) mj) 31)))
            have yb := Box.new wr 31 (wldA (.slice Aj kj cj) mj)
            have y0 := yb.at_ 0 (wldA_zero _ _)
            have nz := nearB.size
            replace WL := Lib.hid (WL.out.call (gAlloc (Below.refl _ _) (.cells (wldA (.slice Aj kj cj) mj) 31)))
            replace nearB := gAlloc nearB (.cells (wldA (.slice Aj kj cj) mj) 31)
            clear hcur shj
            go_wp2_with (first | (with_reducible refine wp_newW (tyWorld) ?_) | ((with_reducible refine wp_freshW (tyWorld) (rfl) (sj) (oj) ?_ ?_ ?_); rfl; rfl) | ((with_reducible refine wp_loadW (tyWorld) (rg) (sj) ?_ ?_ ?_); rfl; rfl))
            clear yb y0 rg sj oj
            go_loopw [123] (fun a wx => ∃ i : Nat, i ≤ kj ∧ a = .int .i64 i ∧ Hid (Wls wx wB.heap.size gw 3 cur) ∧ Hid (ShC wx wB.heap.size (.slice Aj kj cj) kj) ∧ Below wB.heap.size wB wx) (fun a _ => kj - (intOf a).toNat)
            case atStart => exact ⟨0, Nat.zero_le _, rfl, WL, SJ, nearB⟩
            case round =>
              clear WL SJ nearB
              obtain ⟨i, hi, rfl, WL, SJ, nearB⟩ := hrel
              by_cases hlt2 : i < kj
              · obtain ⟨⟨_, e0⟩ | ⟨gc, capc, cuc, ec, _, bc, c1, c2, hc⟩⟩ := SJ.out
                · exact absurd e0 (by omega)
                simp only [Value.slice.injEq, true_and] at ec
                obtain ⟨rfl, rfl⟩ := ec
                obtain ⟨u, ku, hu, shu⟩ := hc i hlt2
                obtain ⟨Au, cu, rfl⟩ := shu.shape
                have uc := bc.at_ i hu
                have SU := Lib.hid shu
                have i0' : (0 : Int) ≤ i := by omega
                have i1' : (i : Int) < kj := by omega
                unfold maxLen at c2
                clear hc hu shu bc
                go_wp2_with fail
                clear uc
                go_loopw [129] (fun a wx => ∃ q : Nat, q ≤ ku ∧ a = .int .i64 q ∧ Hid (Wls wx wB.heap.size gw 3 cur) ∧ Hid (ShC wx wB.heap.size (.slice (some ⟨gc, 0, none⟩) kj cj) kj) ∧ Hid (ShR wx wB.heap.size (.slice Au ku cu) ku) ∧ Below wB.heap.size wB wx) (fun a _ => ku - (intOf a).toNat)
                case atStart => exact ⟨0, Nat.zero_le _, rfl, WL, SJ, SU, nearB⟩
                case round =>
                  clear WL SJ SU nearB
                  obtain ⟨q, hq, rfl, WL, SJ, SU, nearB⟩ := hrel
                  by_cases hlt3 : q < ku
                  · obtain ⟨⟨_, e0⟩ | ⟨gr, capr, cur2, er, _, br, r1, r2, hr⟩⟩ := SU.out
                    · exact absurd e0 (by omega)
                    simp only [Value.slice.injEq, true_and] at er
                    obtain ⟨rfl, rfl⟩ := er
                    obtain ⟨u2, k2, fa, fb, fc, v0, v1, v2, v3, sh2⟩ := hr q hlt3
                    obtain ⟨A2, c2', rfl⟩ := sh2.shape
                    have e0 := br.at_ (q * 4) v0
                    have e1 := br.at_ (q * 4 + 1) v1
                    have e2 := br.at_ (q * 4 + 2) v2
                    have e3 := br.at_ (q * 4 + 3) v3
                    have q0 : (0 : Int) ≤ q := by omega
                    have q1 : (q : Int) < ku := by omega
                    unfold maxLen at r2
                    have more := gAlloc (Below.refl wr.heap.size wr) (.cells (rowA (.slice A2 k2 c2') fa fb fc) 78)
                    have S2 := Lib.hid (sh2.call more)
                    replace WL := Lib.hid (WL.out.call more)
                    replace SJ := Lib.hid (SJ.out.call more)
                    replace SU := Lib.hid (SU.out.call more)
                    replace nearB := gAlloc nearB (.cells (rowA (.slice A2 k2 c2') fa fb fc) 78)
                    have rb := Box.new wr 78 (rowA (.slice A2 k2 c2') fa fb fc)
                    clear hr v0 v1 v2 v3 sh2 br more
                    simp only [rowA] at rb
                    have rb0 := rb.at_ 0 rfl
                    go_wp2_with fail
                    clear e0 e1 e2 e3 rb0
                    go_loopw [136] (fun a wx => ∃ p : Nat, p ≤ k2 ∧ a = .int .i64 p ∧ Hid (Wls wx wB.heap.size gw 3 cur) ∧ Hid (ShC wx wB.heap.size (.slice (some ⟨gc, 0, none⟩) kj cj) kj) ∧ Hid (ShR wx wB.heap.size (.slice (some ⟨gr, 0, none⟩) ku cu) ku) ∧ Hid (ShW wx wB.heap.size (.slice A2 k2 c2') k2) ∧
                      Box wx wr.heap.size 78 #[.slice A2 k2 c2', .bool fa, .bool fb, .bool fc] ∧ Below wB.heap.size wB wx) (fun a _ => k2 - (intOf a).toNat)
                    case atStart => exact ⟨0, Nat.zero_le _, rfl, WL, SJ, SU, S2, rb, nearB⟩
                    case round =>
                      clear WL SJ SU S2 rb nearB
                      obtain ⟨p, hp, rfl, WL, SJ, SU, S2, rb, nearB⟩ := hrel
                      by_cases hlt4 : p < k2
                      · obtain ⟨⟨_, e0⟩ | ⟨gy, capy, cuy, ey, hBy, bx, y1, y2, hy⟩⟩ := S2.out
                        · exact absurd e0 (by omega)
                        simp only [Value.slice.injEq, true_and] at ey
                        obtain ⟨rfl, rfl⟩ := ey
                        obtain ⟨zz, hzz⟩ := hy p hlt4
                        have zc := bx.at_ (p * 6 + 1) hzz
                        have zlt : p * 6 + 1 < cuy.size := by
                          rcases Nat.lt_or_ge (p * 6 + 1) cuy.size with h | h
                          · exact h
                          · rw [Array.getElem?_eq_none h] at hzz; cases hzz
                        have p0 : (0 : Int) ≤ p := by omega
                        have p1 : (p : Int) < k2 := by omega
                        unfold maxLen at y2
                        clear hy hzz
                        have rb_0 := rb.at_ 0 rfl
                        have zf := bx.frozen (p * 6 + 1)
                        go_wp2_with fail
                        have st9 : Stored wr gy (wr.setCell ⟨gy, p * 6 + 1, none⟩ (.int .i64 (wrap64 (zz + 1)))) := Stored.cell1 wr ⟨gy, p * 6 + 1, none⟩ _
                        have bx9 := bx.set (p * 6 + 1) (.int .i64 (wrap64 (zz + 1)))
                        have rb9 := st9.box rb (box_ne rb bx (by decide))
                        have near9 := st9.low nearB hBy
                        have WL9 := Lib.hid (WL.out.bump bx bx9 st9)
                        have SJ9 := Lib.hid (SJ.out.bump bx bx9 st9)
                        have SU9 := Lib.hid (SU.out.bump bx bx9 st9)
                        have S29 := Lib.hid (S2.out.bump bx bx9 st9)
                        go_roundw
                        case rel => exact ⟨p + 1, by omega, by go_num, WL9, SJ9, SU9, S29, rb9, near9⟩
                        case measure => simp [intOf]; omega
                      · go_wp2_with fail
                        go_roundw
                        case rel => exact ⟨q + 1, by omega, by go_num, WL, SJ, SU, nearB⟩
                        case measure => simp [intOf]; omega
                  · go_wp2_with fail
                    go_roundw
                    case rel => exact ⟨i + 1, by omega, by go_num, WL, SJ, nearB⟩
                    case measure => simp [intOf]; omega
              · go_wp2_with fail
                go_roundw
                case rel => exact ⟨j + 1, by omega, by go_num, WL, nearB⟩
                case measure => simp [intOf]; omega
          · go_wp2_with fail
            (with_reducible refine (SM.out _ nearB).mono ?_); rintro e w8 ⟨rfl, hb8⟩
            have lowE := gCall LOWB.out (gCall nearB hb8)
            clear hb8
            go_wp2_with fail
            go_ret
            exact ⟨rfl, lowE⟩
      · have p1 : decide (0 < css.length) = false := decide_eq_false h0
        have p2 : decide ((0 : Int) < css.length) = false := decide_eq_false (by omega)
        go_wp2_with (first | (with_reducible refine wp_newW (tyWorld) ?_) | ((with_reducible refine wp_freshW (tyWorld) (rfl) (ys) (yo) ?_ ?_ ?_); rfl; rfl) | ((with_reducible refine wp_loadW (tyWorld) (xr) (xs) ?_ ?_ ?_); rfl; rfl) | ((with_reducible refine wp_loadW (tyWorld) (yr) (ys) ?_ ?_ ?_); rfl; rfl) | ((with_reducible refine wp_world2 (.slice Aa ka ca) (.slice Ab kb cb') ma mb hma hmb ?_ ?_ ?_); rfl; rfl))
        clear h cb wb qb xb yb xr yr wb0 OWN p1 p2
        generalize wldA (.slice Aa ka ca) ma ++ wldA (.slice Ab kb cb') mb = cur at *
        generalize w5.heap.size + 1 = gw at *
        (with_reducible refine (SM.out _ nearB).mono ?_); rintro e w7 ⟨rfl, hb7⟩
        replace nearB := gCall nearB hb7
        replace WL := Lib.hid (WL.out.call hb7)
        clear hb7
        try clear low
        have n7 := nearB.size
        go_wp2_with fail
        go_loopw [116] (fun a wx => ∃ j : Nat, j ≤ 2 ∧ a = .int .i64 j ∧ Hid (Wls wx wB.heap.size gw 2 cur) ∧ Below wB.heap.size wB wx) (fun a _ => 2 - (intOf a).toNat)
        case atStart => exact ⟨0, Nat.zero_le _, rfl, WL, nearB⟩
        case round =>
          clear WL nearB n7
          obtain ⟨j, hj, rfl, WL, nearB⟩ := hrel
          by_cases hlt : j < 2
          · obtain ⟨Aj, cj, kj, mj, hmj, hcur, shj⟩ := WL.out.each j hlt
            have rg : wr.rangeAt gw (j * 65) (wldA (.slice Aj kj cj) mj).toList := fun i u hu => by
              rw [WL.out.box.cell]
              rw [Array.getElem?_toList] at hu
              exact hcur i u hu
            have sj : (wldA (.slice Aj kj cj) mj).size = (wldA (.slice none 0 0) zeroL).size := wld_size hmj
            have oj : (wldA (.slice Aj kj cj) mj).all (·.oneCell') = true := wldA_one _
            have j0 : (0 : Int) ≤ j := by omega
            have j1 : (j : Int) < 2 := by omega
            have SJ := Lib.hid (shj.call (gAlloc (Below.refl _ _) (.cells (wldA (.slice Aj kj cj) mj) 31)))
            have yb := Box.new wr 31 (wldA (.slice Aj kj cj) mj)
            have y0 := yb.at_ 0 (wldA_zero _ _)
            have nz := nearB.size
            replace WL := Lib.hid (WL.out.call (gAlloc (Below.refl _ _) (.cells (wldA (.slice Aj kj cj) mj) 31)))
            replace nearB := gAlloc nearB (.cells (wldA (.slice Aj kj cj) mj) 31)
            clear hcur shj
            go_wp2_with (first | (with_reducible refine wp_newW (tyWorld) ?_) | ((with_reducible refine wp_freshW (tyWorld) (rfl) (sj) (oj) ?_ ?_ ?_); rfl; rfl) | ((with_reducible refine wp_loadW (tyWorld) (rg) (sj) ?_ ?_ ?_); rfl; rfl))
            clear yb y0 rg sj oj
            go_loopw [123] (fun a wx => ∃ i : Nat, i ≤ kj ∧ a = .int .i64 i ∧ Hid (Wls wx wB.heap.size gw 2 cur) ∧ Hid (ShC wx wB.heap.size (.slice Aj kj cj) kj) ∧ Below wB.heap.size wB wx) (fun a _ => kj - (intOf a).toNat)
            case atStart => exact ⟨0, Nat.zero_le _, rfl, WL, SJ, nearB⟩
            case round =>
              clear WL SJ nearB
              obtain ⟨i, hi, rfl, WL, SJ, nearB⟩ := hrel
              by_cases hlt2 : i < kj
              · obtain ⟨⟨_, e0⟩ | ⟨gc, capc, cuc, ec, _, bc, c1, c2, hc⟩⟩ := SJ.out
                · exact absurd e0 (by omega)
                simp only [Value.slice.injEq, true_and] at ec
                obtain ⟨rfl, rfl⟩ := ec
                obtain ⟨u, ku, hu, shu⟩ := hc i hlt2
                obtain ⟨Au, cu, rfl⟩ := shu.shape
                have uc := bc.at_ i hu
                have SU := Lib.hid shu
                have i0' : (0 : Int) ≤ i := by omega
                have i1' : (i : Int) < kj := by omega
                unfold maxLen at c2
                clear hc hu shu bc
                go_wp2_with fail
                clear uc
                go_loopw [129] (fun a wx => ∃ q : Nat, q ≤ ku ∧ a = .int .i64 q ∧ Hid (Wls wx wB.heap.size gw 2 cur) ∧ Hid (ShC wx wB.heap.size (.slice (some ⟨gc, 0, none⟩) kj cj) kj) ∧ Hid (ShR wx wB.heap.size (.slice Au ku cu) ku) ∧ Below wB.heap.size wB wx) (fun a _ => ku - (intOf a).toNat)
                case atStart => exact ⟨0, Nat.zero_le _, rfl, WL, SJ, SU, nearB⟩
                case round =>
                  clear WL SJ SU nearB
                  obtain ⟨q, hq, rfl, WL, SJ, SU, nearB⟩ := hrel
                  by_cases hlt3 : q < ku
                  · obtain ⟨⟨_, e0⟩ | ⟨gr, capr, cur2, er, _, br, r1, r2, hr⟩⟩ := SU.out
                    · exact absurd e0 (by omega)
                    simp only [Value.slice.injEq, true_and] at er
                    obtain ⟨rfl, rfl⟩ := er
                    obtain ⟨u2, k2, fa, fb, fc, v0, v1, v2, v3, sh2⟩ := hr q hlt3
                    obtain ⟨A2, c2', rfl⟩ := sh2.shape
                    have e0 := br.at_ (q * 4) v0
                    have e1 := br.at_ (q * 4 + 1) v1
                    have e2 := br.at_ (q * 4 + 2) v2
                    have e3 := br.at_ (q * 4 + 3) v3
                    have q0 : (0 : Int) ≤ q := by omega
                    have q1 : (q : Int) < ku := by omega
                    unfold maxLen at r2
                    have more := gAlloc (Below.refl wr.heap.size wr) (.cells (rowA (.slice A2 k2 c2') fa fb fc) 78)
                    have S2 := Lib.hid (sh2.call more)
                    replace WL := Lib.hid (WL.out.call more)
                    replace SJ := Lib.hid (SJ.out.call more)
                    replace SU := Lib.hid (SU.out.call more)
                    replace nearB := gAlloc nearB (.cells (rowA (.slice A2 k2 c2') fa fb fc) 78)
                    have rb := Box.new wr 78 (rowA (.slice A2 k2 c2') fa fb fc)
                    clear hr v0 v1 v2 v3 sh2 br more
                    simp only [rowA] at rb
                    have rb0 := rb.at_ 0 rfl
                    go_wp2_with fail
                    clear e0 e1 e2 e3 rb0
                    go_loopw [136] (fun a wx => ∃ p : Nat, p ≤ k2 ∧ a = .int .i64 p ∧ Hid (Wls wx wB.heap.size gw 2 cur) ∧ Hid (ShC wx wB.heap.size (.slice (some ⟨gc, 0, none⟩) kj cj) kj) ∧ Hid (ShR wx wB.heap.size (.slice (some ⟨gr, 0, none⟩) ku cu) ku) ∧ Hid (ShW wx wB.heap.size (.slice A2 k2 c2') k2) ∧
                      Box wx wr.heap.size 78 #[.slice A2 k2 c2', .bool fa, .bool fb, .bool fc] ∧ Below wB.heap.size wB wx) (fun a _ => k2 - (intOf a).toNat)
                    case atStart => exact ⟨0, Nat.zero_le _, rfl, WL, SJ, SU, S2, rb, nearB⟩
                    case round =>
                      clear WL SJ SU S2 rb nearB
                      obtain ⟨p, hp, rfl, WL, SJ, SU, S2, rb, nearB⟩ := hrel
                      by_cases hlt4 : p < k2
                      · obtain ⟨⟨_, e0⟩ | ⟨gy, capy, cuy, ey, hBy, bx, y1, y2, hy⟩⟩ := S2.out
                        · exact absurd e0 (by omega)
                        simp only [Value.slice.injEq, true_and] at ey
                        obtain ⟨rfl, rfl⟩ := ey
                        obtain ⟨zz, hzz⟩ := hy p hlt4
                        have zc := bx.at_ (p * 6 + 1) hzz
                        have zlt : p * 6 + 1 < cuy.size := by
                          rcases Nat.lt_or_ge (p * 6 + 1) cuy.size with h | h
                          · exact h
                          · rw [Array.getElem?_eq_none h] at hzz; cases hzz
                        have p0 : (0 : Int) ≤ p := by omega
                        have p1 : (p : Int) < k2 := by omega
                        unfold maxLen at y2
                        clear hy hzz
                        have rb_0 := rb.at_ 0 rfl
                        have zf := bx.frozen (p * 6 + 1)
                        go_wp2_with fail
                        have st9 : Stored wr gy (wr.setCell ⟨gy, p * 6 + 1, none⟩ (.int .i64 (wrap64 (zz + 1)))) := Stored.cell1 wr ⟨gy, p * 6 + 1, none⟩ _
                        have bx9 := bx.set (p * 6 + 1) (.int .i64 (wrap64 (zz + 1)))
                        have rb9 := st9.box rb (box_ne rb bx (by decide))
                        have near9 := st9.low nearB hBy
                        have WL9 := Lib.hid (WL.out.bump bx bx9 st9)
                        have SJ9 := Lib.hid (SJ.out.bump bx bx9 st9)
                        have SU9 := Lib.hid (SU.out.bump bx bx9 st9)
                        have S29 := Lib.hid (S2.out.bump bx bx9 st9)
                        go_roundw
                        case rel => exact ⟨p + 1, by omega, by go_num, WL9, SJ9, SU9, S29, rb9, near9⟩
                        case measure => simp [intOf]; omega
                      · go_wp2_with fail
                        go_roundw
                        case rel => exact ⟨q + 1, by omega, by go_num, WL, SJ, SU, nearB⟩
                        case measure => simp [intOf]; omega
                  · go_wp2_with fail
                    go_roundw
                    case rel => exact ⟨i + 1, by omega, by go_num, WL, SJ, nearB⟩
                    case measure => simp [intOf]; omega
              · go_wp2_with fail
                go_roundw
                case rel => exact ⟨j + 1, by omega, by go_num, WL, nearB⟩
                case measure => simp [intOf]; omega
          · go_wp2_with fail
            (with_reducible refine (SM.out _ nearB).mono ?_); rintro e w8 ⟨rfl, hb8⟩
            have lowE := gCall LOWB.out (gCall nearB hb8)
            clear hb8
            go_wp2_with fail
            go_ret
            exact ⟨rfl, lowE⟩

set_option maxRecDepth 10000 in
/-- A world that can be read, and its bulk. -/
theorem openB {H : Type} {enc : TypeId × Value → H} {W : World} {base : Nat} {v : Value} {d : DataW H} {p : List MemPlace} (hv : Value.okWide Try.prog W .any base 31 v) (h : DataW.Trod enc Try.prog W 0 (fun _ => true) true 31 v d p) :
    ∃ u m css, v = wldV u m ∧ m.length = 64 ∧ Ks W u css ∧ szW css ≤ Rows.uptoBulk d := by
  obtain ⟨u, m, css, rfl, hm, ks⟩ := openWorld hv h
  obtain ⟨k, h⟩ := h
  have h2 : DataW.trod enc Try.prog W 0 (fun _ => true) true k 31 (u :: m.map (Value.int .u64)) = some (d, p) := by simpa [Value.cells, wldA] using h
  have hb := world_bulk ks h2
  change _ ≤ Rows.uptoBulk d at hb
  exact ⟨u, m, css, rfl, hm, ks, by omega⟩

set_option maxRecDepth 100000 in
theorem lifted (os : Os) (started : os.Started) (H : Type) (enc : TypeId × Value → H) (F : Stop.Interp) :
    ReturnsInHanded {} Try.checked os 7 .any ((Rows.OpenSpec.upto Rows.worldOwnSpec).pre6 enc Try.prog Try.f7 Rows.worldOwnUptoRow.domain false) (((Rows.OpenSpec.upto Rows.worldOwnSpec).at F).post enc Try.prog Try.f7 false true false false) := by
  refine returnsInHanded_of_cond (C := Try.checked) (s := Rows.OpenSpec.upto Rows.worldOwnSpec) (k := Rows.uptoSmall) rfl own started (by kernel_rfl) Try.func7
    (OpenSpec.witness (enc := enc) (C := Try.checked) (s := Rows.OpenSpec.upto Rows.worldOwnSpec) (k := Rows.uptoSmall) rfl false ⟨#[], #[cfg 2 1 1 1, wldV (.slice none 0 0) zeroL, (⟨0, 0, 0, 0⟩ : Dd).val, wy0.val], []⟩ 8 (by kernel_rfl) (by kernel_rfl) (by kernel_rfl)
      (x := ([.agg [.lit (.int .i64 2), .lit (.int .i64 1), .lit (.int .i64 1), .lit (.int .i64 1)], .agg [.nil, .agg (List.replicate 16 (.agg (List.replicate 4 (.lit (.int .u64 0)))))], .agg [.lit (.int .i64 0), .lit (.int .i64 0), .lit (.int .i64 0), .lit (.int .u64 0)],
        .agg [.lit (.int .i64 0), .lit (.int .i64 0), .agg (List.replicate 4 (.lit (.int .u64 0)))]], [], [])) (by kernel_rfl) rfl (by kernel_rfl)) ?_
  intro W base args ds gs before hval0 hW _ hk _
  have hval : ∀ (j : Nat) t v, Try.f7.params[j]? = some t → args[j]? = some v → Value.okWide Try.prog W .any base t v := hval0
  have hW' := hW
  obtain ⟨p, q, hA0, hV, rfl, hfz, hnd⟩ := hW
  have hA : DataW.TrodAll enc Try.prog W 0 (fun _ => true) true Try.f7.params.toList args.toList ds p := hA0
  rw [Try.params7] at hA hval
  obtain ⟨v0, vs0, d0, ds0, p0, q0, hargs, rfl, rfl, h0, r0⟩ := trodAll_cons hA
  obtain ⟨v1, vs1, d1, ds1, p1, q1, rfl, rfl, rfl, h1, r1⟩ := trodAll_cons r0
  obtain ⟨v2, vs2, d2, ds2, p2, q2, rfl, rfl, rfl, h2, r2⟩ := trodAll_cons r1
  obtain ⟨v3, vs3, d3, ds3, p3, q3, rfl, rfl, rfl, h3, r3⟩ := trodAll_cons r2
  obtain ⟨rfl, rfl, rfl⟩ := trodAll_nil r3
  obtain rfl : args = #[v0, v1, v2, v3] := by cases args; simp_all
  have k0 := openCfg (hval 0 23 v0 rfl rfl) h0
  have k1 := openB (hval 1 31 v1 rfl rfl) h1
  have k2 := openDeed (hval 2 34 v2 rfl rfl) h2
  have k3 := openWay (hval 3 51 v3 rfl rfl) h3
  obtain ⟨rfl, rfl⟩ := trodVars_none hV
  clear hA0 hval0
  obtain ⟨n, s, y, b, rfl, _⟩ := k0
  obtain ⟨u, m, css, rfl, hm, ks, hz⟩ := k1
  obtain ⟨⟨dn, dk, da, dv⟩, rfl⟩ := k2
  obtain ⟨x, rfl⟩ := k3
  have hb : Rows.uptoBulkAll ([d0, d1, d2, d3] ++ ([] : List (DataW H))) ≤ 1048576 := of_decide_eq_true hk
  simp only [List.append_nil, Rows.uptoBulkAll] at hb
  refine (walk1 n s y b u m css dn dk da dv x W ks hm (by omega)).mono fun e W' ⟨he, bel⟩ => ⟨_, he, ?_⟩
  exact law_post (by kernel_rfl) (by kernel_rfl) rfl hW' rfl rfl rfl bel

theorem over : Rows.worldOwnUptoRow.holds Try.pinned (Rows.OpenSpec.upto Rows.worldOwnSpec) :=
  OpenClaim.holds_of_cond 7 Try.f7 rfl rfl rfl rfl rfl rfl rfl ⟨rfl, rfl, rfl, rfl, rfl⟩ rfl rfl rfl rfl rfl (by kernel_rfl) Try.func7 (by kernel_rfl)
    (of_decide_eq_true (by kernel_rfl)) (by unfold Func.isWrapper; first | (rw [if_pos (by decide +kernel)]; kernel_rfl) | (rw [if_neg (by decide +kernel)]; exact ⟨rfl, rfl⟩))
    (fun os started H enc _ F => lifted os started H enc F)
end Go.Proofs.Ytahoadfofleacaa.worldOwn
namespace Go.Proofs.Ytahoadfofleacaa
theorem worldOwnUpto_holds : Rows.WorldOwnUptoSaid := worldOwn.over
#print axioms worldOwnUpto_holds
end Go.Proofs.Ytahoadfofleacaa
