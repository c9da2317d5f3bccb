/-
Proved: what Split of package prog returns, for all operations that can be read; it changes nothing that was there. No condition.
-/
import Derived.Test.YtckmcfpeemkdoaaSplitFacts
import Derived.Test.YtckmcfpeemkdoaaProgFns
import Derived.Test.YtckmcfpeemkdoaaRegion
namespace Go.Proofs.Ytckmcfpeemkdoaa
open Go.ChangeShapes Go.WideShapes Go.ChangeAt Go.RowKit Go.Joins

theorem deed_laid (w : World) (t : TypeId) (x : Dd) (g q : Nat) (u : Value) (hg : g = w.heap.size) (h : x.cells[q]? = some u) : (w.alloc (.cells x.arr t)).cell? ((⟨g, 0, none⟩ : Addr).add q) = some u := by
  subst hg
  have e : (⟨w.heap.size, 0, none⟩ : Addr).add q = ⟨w.heap.size, q, none⟩ := by cases q <;> simp [Addr.add]
  rw [e, (Box.new w t x.arr).cell, ← h]
  simp [Dd.arr]
theorem deed_cells1 (x : Dd) : ∀ u ∈ x.cells, u.oneCell' = true := by
  intro u hu
  simp [Dd.cells] at hu
  rcases hu with rfl | rfl | rfl | rfl <;> rfl

theorem split_bad (n s y b : Int) (v : Value) (l : List Dd) (w : World) (h : Ds w v l) (hE : cfgB n s y b = false ∨ 200 < l.length) :
    Calls Try.prog 7 #[cfg n s y b, v] w fun e w' => e = .returned (.tuple #[.slice none 0 0, .int .i64 (splitE n s y b l)]) ∧ Below w.heap.size w w' := by
  obtain ⟨A, c, rfl⟩ := h.el.shape
  have low := Below.refl w.heap.size w
  have cb := boxNext low 23 #[.int .i64 n, .int .i64 s, .int .i64 y, .int .i64 b]
  replace low := gAlloc low (.cells #[.int .i64 n, .int .i64 s, .int .i64 y, .int .i64 b] 23)
  try simp only [World.size_alloc] at cb
  cases hB : cfgB n s y b with
  | false =>
    have C := Lib.hid fun w => check_bad n s y b w hB
    rw [show splitE n s y b l = 4 by unfold splitE; rw [if_pos hB]]
    clear hB hE
    go_enter Try.func7, Try.ntmps7
    go_wp2_with fail
    (with_reducible refine (C.out _).mono ?_); rintro e w1 ⟨rfl, hb⟩
    replace cb := cb.call hb
    replace low := gCall low hb
    clear hb
    go_wp2_with fail
    go_ret2
    exact ⟨rfl, low⟩
  | true =>
    have C := Lib.hid fun w => check_ok n s y b w hB
    have hl : 200 < l.length := by
      rcases hE with h | h
      · rw [hB] at h; cases h
      · exact h
    have hl' : (200 : Int) < l.length := by omega
    rw [show splitE n s y b l = 2 by unfold splitE; rw [if_neg (by rw [hB]; simp), if_pos hl]]
    clear hB hE
    go_enter Try.func7, Try.ntmps7
    go_wp2_with fail
    (with_reducible refine (C.out _).mono ?_); rintro e w1 ⟨rfl, hb⟩
    replace cb := cb.call hb
    replace low := gCall low hb
    clear hb
    go_wp2_with fail
    go_ret2
    exact ⟨rfl, low⟩

/-- What Split gives: E is its error. -/
def SplitIs (n : Nat) (l : List Dd) (E : Int) (e : Ending) (w : World) : Prop :=
  (E ≠ 0 ∧ e = .returned (.tuple #[.slice none 0 0, .int .i64 E])) ∨ (E = 0 ∧ ∃ v, e = .returned (.tuple #[v, .int .i64 0]) ∧ Ps w v (splitL n l))

set_option maxRecDepth 10000 in
set_option maxHeartbeats 4000000 in
theorem split_any (n s y b : Int) (v : Value) (l : List Dd) (w : World) (h : Ds w v l) (hB : cfgB n s y b = true) (hl : l.length ≤ 200) :
    Calls Try.prog 7 #[cfg n s y b, v] w fun e w' => SplitIs n.toNat l (splitE n s y b l) e w' ∧ Below w.heap.size w w' := by
  have C := Lib.hid fun w => check_ok n s y b w hB
  rw [show splitE n s y b l = errS n l by unfold splitE; rw [if_neg (by rw [hB]; simp), if_neg (by omega)]]
  obtain ⟨m, rfl, m2, m8⟩ : ∃ m : Nat, n = m ∧ 2 ≤ m ∧ m ≤ 8 := by
    have := cfgB_iff.1 hB
    exact ⟨n.toNat, by omega, by omega, by omega⟩
  obtain ⟨_, A, c, rfl, g1, g2, g3⟩ := h
  have G3 := Lib.hid g3
  have hl' : (l.length : Int) ≤ 200 := by omega
  unfold maxLen at g2
  obtain ⟨i0, hi, hz0, hz1, hz2⟩ := info_parts info_deed
  have HI := Lib.hid hi
  have HZ := Lib.hid (And.intro hz0 (And.intro hz1 hz2))
  have MK := fun w => make_progs m m8 w
  generalize hT : errS m l = T
  have HT := Lib.hid hT
  simp only [Int.toNat_natCast]
  clear hB g3 hi hz0 hz1 hz2 hT
  have low := Below.refl w.heap.size w
  have cb := boxNext low 23 #[.int .i64 m, .int .i64 s, .int .i64 y, .int .i64 b]
  replace low := gAlloc low (.cells #[.int .i64 m, .int .i64 s, .int .i64 y, .int .i64 b] 23)
  try simp only [World.size_alloc] at cb
  go_enter Try.func7, Try.ntmps7
  go_wp2_with fail
  (with_reducible refine (C.out _).mono ?_); rintro e w1 ⟨rfl, hb⟩
  replace cb := cb.call hb
  replace low := gCall low hb
  clear hb
  have zz := low.size
  have zc := cb.lt
  have cb_0 := cb.at_ 0 rfl
  have cb_1 := cb.at_ 1 rfl
  have cb_2 := cb.at_ 2 rfl
  have cb_3 := cb.at_ 3 rfl
  go_wp2_with fail
  clear cb_0 cb_1 cb_2 cb_3
  have hb := boxNext low 26 (List.replicate m (Value.slice none 0 0)).toArray
  replace low := gAlloc low (.cells (List.replicate m (Value.slice none 0 0)).toArray 26)
  replace cb := cb.alloc (.cells (List.replicate m (Value.slice none 0 0)).toArray 26)
  try simp only [World.size_alloc] at hb
  have HLD := Lib.hid (HeldD.start (w1.alloc (.cells (List.replicate m (Value.slice none 0 0)).toArray 26)) w.heap.size m)
  have HB := Lib.hid hb
  clear hb C MK
  go_loopw [24] (fun i wr => ∃ j : Nat, j ≤ l.length ∧ i = .int .i64 j ∧ Hid (errS m (l.drop j) = T) ∧ Hid (∃ us, Box wr w1.heap.size 26 us.toArray ∧ HeldD wr w.heap.size m us (l.take j)) ∧ Box wr w.heap.size 23 #[.int .i64 m, .int .i64 s, .int .i64 y, .int .i64 b] ∧ Below w.heap.size w wr) (fun i _ => l.length - (intOf i).toNat)
  case atStart => exact ⟨0, Nat.zero_le _, rfl, Lib.hid (by rw [List.drop_zero]; exact HT.out), Lib.hid ⟨_, HB.out, HLD.out⟩, cb, low⟩
  case round =>
    clear cb low HB HLD
    obtain ⟨j, hj, rfl, hs, hus, cb, low⟩ := hrel
    by_cases hlt : j < l.length
    · obtain ⟨us, hb, hld⟩ := hus.out
      clear hus
      obtain ⟨b2, o2, rfl, hb2, hc2⟩ := G3.out (by omega)
      have hd : l[j]? = some l[j] := List.getElem?_eq_getElem _
      generalize l[j] = d at hd
      obtain ⟨c0, c1, c2, c3⟩ := deedAt_of hc2 hb2 low hd
      have e := hs.out
      rw [errS_at hd] at e
      have E := Lib.hid e
      have DF := Lib.hid fun w => atomicRight_any d w
      have D0 := Lib.hid (show deedE d = 0 → 0 ≤ d.nd from fun h => (deedE_ok h).1.1)
      have TK := Lib.hid (show l.take (j + 1) = l.take j ++ [d] by rw [List.take_add_one, hd]; rfl)
      have PL0 := Lib.hid (show (l.take j).length ≤ 200 by rw [List.length_take]; omega)
      generalize l.take j = P at *
      generalize hde : deedE d = de at DF E D0
      obtain ⟨dn, dk, da, dv⟩ := d
      simp only at c0 c1 c2 c3 E D0
      have j0 : (0 : Int) ≤ j := by omega
      have j1 : (j : Int) < l.length := by omega
      have lz := low.size
      have hbl := hb.lt
      clear hd hc2 hs e hde
      have HLD := Lib.hid (hld.alloc (.cells #[.int .i64 dn, .int .i64 dk, .int .i64 da, .int .u64 dv] 30))
      have HL0 := Lib.hid hld
      clear hld
      have db := boxNext low 30 #[.int .i64 dn, .int .i64 dk, .int .i64 da, .int .u64 dv]
      replace low := gAlloc low (.cells #[.int .i64 dn, .int .i64 dk, .int .i64 da, .int .u64 dv] 30)
      replace cb := cb.alloc (.cells #[.int .i64 dn, .int .i64 dk, .int .i64 da, .int .u64 dv] 30)
      replace hb := hb.alloc (.cells #[.int .i64 dn, .int .i64 dk, .int .i64 da, .int .u64 dv] 30)
      try simp only [World.size_alloc] at db
      have hxl : wr.heap.size = wr.heap.size := rfl
      go_wp2_with fail
      (with_reducible refine (DF.out _).mono ?_); rintro e w2 ⟨rfl, hb3⟩
      replace db := db.call hb3
      replace cb := cb.call hb3
      replace hb := hb.call hb3
      replace HLD := Lib.hid (HLD.out.call hb3)
      replace low := gCall low hb3
      clear hb3 c0 c1 c2 c3 DF
      by_cases h0 : de = 0
      · subst h0
        have dn0 := D0.out rfl
        by_cases h4 : (m : Int) ≤ dn
        · obtain rfl : 4 = T := by
            have := E.out
            simpa [h4] using this
          have h4' : decide ((m : Int) ≤ dn) = true := decide_eq_true h4
          clear E
          have cb_0 := cb.at_ 0 rfl
          have cb_1 := cb.at_ 1 rfl
          have cb_2 := cb.at_ 2 rfl
          have cb_3 := cb.at_ 3 rfl
          have db_0 := db.at_ 0 rfl
          have db_1 := db.at_ 1 rfl
          have db_2 := db.at_ 2 rfl
          have db_3 := db.at_ 3 rfl
          go_wp2_with fail
          go_ret2
          exact ⟨.inl ⟨by decide, rfl⟩, low⟩
        · have NX := Lib.hid (show errS m (l.drop (j + 1)) = T by
            have := E.out
            simpa [h4] using this)
          have h4' : decide ((m : Int) ≤ dn) = false := decide_eq_false h4
          obtain ⟨q, rfl⟩ : ∃ q : Nat, dn = q := ⟨dn.toNat, by omega⟩
          have qm : q < m := by omega
          have qm' : (q : Int) < m := by omega
          have h4n : decide (m ≤ q) = false := decide_eq_false (by omega)
          have hq : q < us.length := by rw [HLD.out.len]; exact qm
          have hu : us[q]? = some us[q] := List.getElem?_eq_getElem _
          generalize us[q] = u at hu
          have HU := Lib.hid hu
          have hcu : us.toArray[q]? = some u := by rw [List.getElem?_toArray]; exact hu
          have PL := Lib.hid (Nat.le_trans (onD_length q P) PL0.out)
          have q0 : (0 : Int) ≤ q := by omega
          have OL := Lib.hid fun g e => (HL0.out.own q u HU.out).1.lt g e
          clear hu E D0 h4 PL0 HL0
          have cb_0 := cb.at_ 0 rfl
          have cb_1 := cb.at_ 1 rfl
          have cb_2 := cb.at_ 2 rfl
          have cb_3 := cb.at_ 3 rfl
          have db_0 := db.at_ 0 rfl
          have db_1 := db.at_ 1 rfl
          have db_2 := db.at_ 2 rfl
          have db_3 := db.at_ 3 rfl
          go_wp2_with fail
          clear cb_0 cb_1 cb_2 cb_3 db_0 db_1 db_2 db_3
          have hqc := hb.at_ q hcu
          generalize hgx : wr.heap.size = gx at *
          have x0 : w2.cell? ⟨gx, 0, none⟩ = some (.int .i64 (q : Int)) := db.at_ 0 rfl
          have x1 : w2.cell? ⟨gx, 1, none⟩ = some (.int .i64 dk) := db.at_ 1 rfl
          have x2 : w2.cell? ⟨gx, 2, none⟩ = some (.int .i64 da) := db.at_ 2 rfl
          have x3 : w2.cell? ⟨gx, 3, none⟩ = some (.int .u64 dv) := db.at_ 3 rfl
          refine wp_region_noPanic ?_
          refine wp_region_held_drew (S := fun w' => w'.cell? ⟨gx, 0, none⟩ = some (.int .i64 (q : Int)) ∧ w'.cell? ⟨gx, 1, none⟩ = some (.int .i64 dk) ∧ w'.cell? ⟨gx, 2, none⟩ = some (.int .i64 da) ∧ w'.cell? ⟨gx, 3, none⟩ = some (.int .u64 dv)) (by kernel_rfl) ⟨drewC x0, drewC x1, drewC x2, drewC x3⟩ (fun hHeld => ?_)
          clear x0 x1 x2 x3
          refine takeFirst (i := 0) (v := ?_) rfl (by kernel_rfl) (by kernel_rfl) (by kernel_rfl) (by rfl) (fun _ _ _ h => h) ?_ (by assumption) ?_
          rotate_left
          · (intro w hSw; go_simp; try (with_reducible rfl))
          try simp only [Act.put, List.setIfInBounds_toArray, List.set_cons_zero, List.set_cons_succ]
          refine takeFirst (i := 1) (v := ?_) rfl (by kernel_rfl) (by kernel_rfl) (by kernel_rfl) (by rfl) (fun _ _ _ h => h) ?_ (by assumption) ?_
          rotate_left
          · (intro w hSw; go_simp; try (with_reducible rfl))
          try simp only [Act.put, List.setIfInBounds_toArray, List.set_cons_zero, List.set_cons_succ]
          refine takeFirst (i := 2) (v := ?_) rfl (by kernel_rfl) (by kernel_rfl) (by kernel_rfl) (by rfl) (fun _ _ _ h => h) ?_ (by assumption) ?_
          rotate_left
          · (intro w hSw; go_simp; try (with_reducible rfl))
          try simp only [Act.put, List.setIfInBounds_toArray, List.set_cons_zero, List.set_cons_succ]
          refine takeFirst (i := 3) (v := ?_) rfl (by kernel_rfl) (by kernel_rfl) (by kernel_rfl) (by rfl) (fun _ _ _ h => h) ?_ (by assumption) ?_
          rotate_left
          · (intro w hSw; go_simp; try (with_reducible rfl))
          try simp only [Act.put, List.setIfInBounds_toArray, List.set_cons_zero, List.set_cons_succ]
          refine takeFirst (i := 4) (v := ?_) rfl (by kernel_rfl) (by kernel_rfl) (by kernel_rfl) (by rfl) (fun _ _ _ h => h) ?_ (by assumption) ?_
          rotate_left
          · (intro w hSw; go_simp; try (with_reducible rfl))
          try simp only [Act.put, List.setIfInBounds_toArray, List.set_cons_zero, List.set_cons_succ]
          refine takeFirst (i := 5) (v := ?_) rfl (by kernel_rfl) (by kernel_rfl) (by kernel_rfl) (by rfl) (fun _ _ _ h => h) ?_ (by assumption) ?_
          rotate_left
          · (intro w hSw; go_simp; try (with_reducible rfl))
          try simp only [Act.put, List.setIfInBounds_toArray, List.set_cons_zero, List.set_cons_succ]
          refine takeFirst (i := 6) (v := ?_) rfl (by kernel_rfl) (by kernel_rfl) (by kernel_rfl) (by rfl) (fun _ _ _ h => h) ?_ (by assumption) ?_
          rotate_left
          · (intro w hSw; go_simp; try (with_reducible rfl))
          try simp only [Act.put, List.setIfInBounds_toArray, List.set_cons_zero, List.set_cons_succ]
          refine takeFirst (i := 8) (v := ?_) rfl (by kernel_rfl) (by kernel_rfl) (by kernel_rfl) (by rfl) (fun _ _ _ h => h) ?_ (by assumption) ?_
          rotate_left
          · (intro w hSw; go_simp; try (with_reducible rfl))
          try simp only [Act.put, List.setIfInBounds_toArray, List.set_cons_zero, List.set_cons_succ]
          have hld := (HLD.out.alloc (.cells #[.int .i64 (q : Int), .int .i64 dk, .int .i64 da, .int .u64 dv] 30)).drew
          have own := (hld.own q u HU.out).1
          have hb2 := (hb.alloc (.cells #[.int .i64 (q : Int), .int .i64 dk, .int .i64 da, .int .u64 dv] 30)).drew
          have cb2 := (cb.alloc (.cells #[.int .i64 (q : Int), .int .i64 dk, .int .i64 da, .int .u64 dv] 30)).drew
          have xb2 := (db.alloc (.cells #[.int .i64 (q : Int), .int .i64 dk, .int .i64 da, .int .u64 dv] 30)).drew
          have low2 := (gAlloc low (.cells #[.int .i64 (q : Int), .int .i64 dk, .int .i64 da, .int .u64 dv] 30)).drew
          have lo2 := low2.size
          have e2 : us.toArray.size = m := by rw [List.size_toArray]; exact hld.len
          have news := Lib.hid fun i u' h => deed_laid w2 30 ⟨(q : Int), dk, da, dv⟩ w2.heap.size i u' rfl h
          clear HLD hb cb db low
          refine stepTwo (i1 := 7) (i2 := 9) (by kernel_rfl) rfl rfl (by rfl) (by rfl) (fun K hK => ?_) (fun K hK => ?_)
          · go_simp
            refine hK.out _ _ hHeld ?_
            clear hK K
            try simp only [Act.put]
            try simp only [List.setIfInBounds_toArray, List.set_cons_zero, List.set_cons_succ]
            refine stepNext (i := 9) (by kernel_rfl) rfl (by rfl) (fun K hK => ?_)
            go_simp
            obtain ⟨hh0, hh1, hh2, hh3⟩ := hHeld
            have hHeld := (And.intro (drewC (allocC (.cells #[.int .i64 (q : Int), .int .i64 dk, .int .i64 da, .int .u64 dv] 30) hh0)) (And.intro (drewC (allocC (.cells #[.int .i64 (q : Int), .int .i64 dk, .int .i64 da, .int .u64 dv] 30) hh1)) (And.intro (drewC (allocC (.cells #[.int .i64 (q : Int), .int .i64 dk, .int .i64 da, .int .u64 dv] 30) hh2)) (drewC (allocC (.cells #[.int .i64 (q : Int), .int .i64 dk, .int .i64 da, .int .u64 dv] 30) hh3)))))
            clear hh0 hh1 hh2 hh3
            refine hK.out _ _ hHeld ?_
            clear hK K
            try simp only [Act.put]
            try simp only [List.setIfInBounds_toArray, List.set_cons_zero, List.set_cons_succ]
            refine stepNext (i := 10) (by kernel_rfl) rfl (by rfl) (fun K hK => ?_)
            refine wp_append_own _ (.tmp 45) (.tmp 47) 26 rfl w.heap.size 30 i0 (.agg #[.int .i64 0, .int .i64 0, .int .i64 0, .int .u64 0]) 4 32 Try.underlying26 HI.out HZ.out.1 HZ.out.2.1 HZ.out.2.2 rfl (by decide) _ _ _ rfl own ⟨w2.heap.size, 0, none⟩ 1 1 (Dd.cells ⟨(q : Int), dk, da, dv⟩) rfl rfl news.out (deed_cells1 _) ?f3 ?f4 ?f5 ?_
            case f3 => have := PL.out; unfold maxLen; omega
            case f4 => have := PL.out; omega
            case f5 => omega
            intro v4 w4 own4 grow4 _
            have hb4 := hb2.grown grow4 (own_ne own hb2 (by decide))
            have cb4 := cb2.grown grow4 (own_ne own cb2 (by decide))
            have hld4 := hld.push HU.out (c := ⟨(q : Int), dk, da, dv⟩) rfl own4 grow4
            have low4 : Below w.heap.size w w4 := low2.grown grow4 (by omega) (fun g e => by have := own.lt _ e; omega)
            obtain ⟨A4, c4, rfl⟩ := own_shape own4
            obtain ⟨hh0, hh1, hh2, hh3⟩ := hHeld
            have hHeld := (And.intro (grow4.cell hh0 (fun e => Nat.lt_irrefl _ (OL.out _ e.symm).2)) (And.intro (grow4.cell hh1 (fun e => Nat.lt_irrefl _ (OL.out _ e.symm).2)) (And.intro (grow4.cell hh2 (fun e => Nat.lt_irrefl _ (OL.out _ e.symm).2)) (grow4.cell hh3 (fun e => Nat.lt_irrefl _ (OL.out _ e.symm).2)))))
            clear hh0 hh1 hh2 hh3
            refine hK.out _ _ hHeld ?_
            clear hK K
            try simp only [Act.put]
            try simp only [List.setIfInBounds_toArray, List.set_cons_zero, List.set_cons_succ]
            refine takeFirst (i := 11) (v := ?_) rfl (by kernel_rfl) (by kernel_rfl) (by kernel_rfl) (by rfl) (fun _ _ _ h => h) ?_ (by assumption) ?_
            rotate_left
            · (intro w hSw; go_simp; try (with_reducible rfl))
            try simp only [Act.put, List.setIfInBounds_toArray, List.set_cons_zero, List.set_cons_succ]
            refine stepNext (i := 12) (by kernel_rfl) rfl (by rfl) (fun K hK => ?_)
            have hq4 := hb4.at_ q hcu
            have hf4 := hb4.frozen q
            go_simp
            have st5 : Stored w4 w1.heap.size (w4.setCell ⟨w1.heap.size, q, none⟩ (.slice A4 ((onD q P).length + 1) c4)) := Stored.cell1 w4 ⟨w1.heap.size, q, none⟩ _
            have hb5 := hb4.set q (.slice A4 ((onD q P).length + 1) c4)
            rw [List.setIfInBounds_toArray] at hb5
            have cb5 := st5.box cb4 (by omega)
            have HLD5 := Lib.hid (hld4.stored hb4 (by decide) st5)
            have low5 := st5.low low4 (by omega)
            have zx := Nat.lt_of_lt_of_le xb2.lt grow4.size
            obtain ⟨hh0, hh1, hh2, hh3⟩ := hHeld
            have hHeld := (And.intro (st5.cell (by dsimp only; omega) hh0) (And.intro (st5.cell (by dsimp only; omega) hh1) (And.intro (st5.cell (by dsimp only; omega) hh2) (st5.cell (by dsimp only; omega) hh3))))
            clear hh0 hh1 hh2 hh3
            clear st5 hld4 hb4 cb4 low4 hq4 hf4 grow4 own4 own hld hb2 cb2 xb2 low2
            generalize w4.setCell ⟨w1.heap.size, q, none⟩ (.slice A4 ((onD q P).length + 1) c4) = w5 at *
            refine hK.out _ _ hHeld ?_
            clear hK K
            try simp only [Act.put]
            try simp only [List.setIfInBounds_toArray, List.set_cons_zero, List.set_cons_succ]
            clear hHeld
            refine wpAnyH_done (by kernel_rfl) ?_ _
            refine NoPanic.normal ?_
            go_wp2_with fail
            go_roundw
            case rel => exact ⟨j + 1, by omega, by go_num, NX, Lib.hid ⟨_, hb5, by rw [TK.out]; exact HLD5.out⟩, cb5, low5⟩
            case measure => simp [intOf]; omega
          · go_simp
            obtain ⟨hh0, hh1, hh2, hh3⟩ := hHeld
            have hHeld := (And.intro (drewC (allocC (.cells #[.int .i64 (q : Int), .int .i64 dk, .int .i64 da, .int .u64 dv] 30) hh0)) (And.intro (drewC (allocC (.cells #[.int .i64 (q : Int), .int .i64 dk, .int .i64 da, .int .u64 dv] 30) hh1)) (And.intro (drewC (allocC (.cells #[.int .i64 (q : Int), .int .i64 dk, .int .i64 da, .int .u64 dv] 30) hh2)) (drewC (allocC (.cells #[.int .i64 (q : Int), .int .i64 dk, .int .i64 da, .int .u64 dv] 30) hh3)))))
            clear hh0 hh1 hh2 hh3
            refine hK.out _ _ hHeld ?_
            clear hK K
            try simp only [Act.put]
            try simp only [List.setIfInBounds_toArray, List.set_cons_zero, List.set_cons_succ]
            have hqc2 := hb2.at_ q hcu
            refine stepNext (i := 7) (by kernel_rfl) rfl (by rfl) (fun K hK => ?_)
            go_simp
            refine hK.out _ _ hHeld ?_
            clear hK K
            try simp only [Act.put]
            try simp only [List.setIfInBounds_toArray, List.set_cons_zero, List.set_cons_succ]
            refine stepNext (i := 10) (by kernel_rfl) rfl (by rfl) (fun K hK => ?_)
            refine wp_append_own _ (.tmp 45) (.tmp 47) 26 rfl w.heap.size 30 i0 (.agg #[.int .i64 0, .int .i64 0, .int .i64 0, .int .u64 0]) 4 32 Try.underlying26 HI.out HZ.out.1 HZ.out.2.1 HZ.out.2.2 rfl (by decide) _ _ _ rfl own ⟨w2.heap.size, 0, none⟩ 1 1 (Dd.cells ⟨(q : Int), dk, da, dv⟩) rfl rfl news.out (deed_cells1 _) ?f3 ?f4 ?f5 ?_
            case f3 => have := PL.out; unfold maxLen; omega
            case f4 => have := PL.out; omega
            case f5 => omega
            intro v4 w4 own4 grow4 _
            have hb4 := hb2.grown grow4 (own_ne own hb2 (by decide))
            have cb4 := cb2.grown grow4 (own_ne own cb2 (by decide))
            have hld4 := hld.push HU.out (c := ⟨(q : Int), dk, da, dv⟩) rfl own4 grow4
            have low4 : Below w.heap.size w w4 := low2.grown grow4 (by omega) (fun g e => by have := own.lt _ e; omega)
            obtain ⟨A4, c4, rfl⟩ := own_shape own4
            obtain ⟨hh0, hh1, hh2, hh3⟩ := hHeld
            have hHeld := (And.intro (grow4.cell hh0 (fun e => Nat.lt_irrefl _ (OL.out _ e.symm).2)) (And.intro (grow4.cell hh1 (fun e => Nat.lt_irrefl _ (OL.out _ e.symm).2)) (And.intro (grow4.cell hh2 (fun e => Nat.lt_irrefl _ (OL.out _ e.symm).2)) (grow4.cell hh3 (fun e => Nat.lt_irrefl _ (OL.out _ e.symm).2)))))
            clear hh0 hh1 hh2 hh3
            refine hK.out _ _ hHeld ?_
            clear hK K
            try simp only [Act.put]
            try simp only [List.setIfInBounds_toArray, List.set_cons_zero, List.set_cons_succ]
            refine takeFirst (i := 11) (v := ?_) rfl (by kernel_rfl) (by kernel_rfl) (by kernel_rfl) (by rfl) (fun _ _ _ h => h) ?_ (by assumption) ?_
            rotate_left
            · (intro w hSw; go_simp; try (with_reducible rfl))
            try simp only [Act.put, List.setIfInBounds_toArray, List.set_cons_zero, List.set_cons_succ]
            refine stepNext (i := 12) (by kernel_rfl) rfl (by rfl) (fun K hK => ?_)
            have hq4 := hb4.at_ q hcu
            have hf4 := hb4.frozen q
            go_simp
            have st5 : Stored w4 w1.heap.size (w4.setCell ⟨w1.heap.size, q, none⟩ (.slice A4 ((onD q P).length + 1) c4)) := Stored.cell1 w4 ⟨w1.heap.size, q, none⟩ _
            have hb5 := hb4.set q (.slice A4 ((onD q P).length + 1) c4)
            rw [List.setIfInBounds_toArray] at hb5
            have cb5 := st5.box cb4 (by omega)
            have HLD5 := Lib.hid (hld4.stored hb4 (by decide) st5)
            have low5 := st5.low low4 (by omega)
            have zx := Nat.lt_of_lt_of_le xb2.lt grow4.size
            obtain ⟨hh0, hh1, hh2, hh3⟩ := hHeld
            have hHeld := (And.intro (st5.cell (by dsimp only; omega) hh0) (And.intro (st5.cell (by dsimp only; omega) hh1) (And.intro (st5.cell (by dsimp only; omega) hh2) (st5.cell (by dsimp only; omega) hh3))))
            clear hh0 hh1 hh2 hh3
            clear st5 hld4 hb4 cb4 low4 hq4 hf4 grow4 own4 own hld hb2 cb2 xb2 low2
            generalize w4.setCell ⟨w1.heap.size, q, none⟩ (.slice A4 ((onD q P).length + 1) c4) = w5 at *
            refine hK.out _ _ hHeld ?_
            clear hK K
            try simp only [Act.put]
            try simp only [List.setIfInBounds_toArray, List.set_cons_zero, List.set_cons_succ]
            clear hHeld
            refine wpAnyH_done (by kernel_rfl) ?_ _
            refine NoPanic.normal ?_
            go_wp2_with fail
            go_roundw
            case rel => exact ⟨j + 1, by omega, by go_num, NX, Lib.hid ⟨_, hb5, by rw [TK.out]; exact HLD5.out⟩, cb5, low5⟩
            case measure => simp [intOf]; omega
      · obtain rfl : de = T := by
          have := E.out
          simpa [h0] using this
        have h0' : (de != 0) = true := by simpa using h0
        have H0 := Lib.hid h0
        clear h0 E
        go_wp2_with fail
        go_ret2
        exact ⟨.inl ⟨H0.out, rfl⟩, low⟩
    · obtain rfl : j = l.length := by omega
      obtain ⟨us, hb, hld⟩ := hus.out
      obtain rfl : 0 = T := by
        have := hs.out
        rw [List.drop_length] at this
        exact this
      rw [List.take_length] at hld
      have PS := Lib.hid (hld.ps hb (by unfold maxLen; omega))
      clear hus hb hld hs
      go_wp2_with fail
      go_ret2
      exact ⟨.inr ⟨rfl, _, rfl, PS.out⟩, low⟩
end Go.Proofs.Ytckmcfpeemkdoaa
