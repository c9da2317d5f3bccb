/-
Proved: what Logs of package tally returns, for every list of events that can be read; it changes nothing that was there. No condition.
-/
import Derived.Test.YtcegjehoejgofaaTally
import Derived.Test.YtcegjehoejgofaaEvTolds
import Derived.Test.YtcegjehoejgofaaRegion
namespace Go.Proofs.Ytcegjehoejgofaa
open Go.ChangeShapes Go.WideShapes Go.ChangeAt Go.RowKit Go.Joins

theorem blocks_ne {w : World} {g g' : Nat} {t t' : TypeId} {cs cs' : Array Value} (h : Box w g t cs) (h' : Box w g' t' cs') (ht : t ≠ t') : g ≠ g' := by
  rintro rfl
  unfold Box at h h'
  rw [h] at h'
  cases h'
  exact ht rfl
theorem info_logs : (Try.prog.info? 48).map (fun i => (i.zero, i.size, i.bytes)) = some (some (.slice none 0 0), 1, 24) := by kernel_rfl
/-- So many empty logs. -/
def nilA (n : Nat) : Array Value := (List.replicate n (.slice none 0 0)).toArray
theorem make_tolds (n : Nat) (hn : n ≤ 8) (w : World) : (Instr.makeSlice 30 (.int .i64 n) (.int .i64 n)).run Try.prog w = .ok (.slice (some ⟨w.heap.size, 0, none⟩) n n) (w.alloc (.cells (nilA n) 48)) := by
  unfold nilA
  obtain ⟨i0, hi, hz0, hz1, hz2⟩ := info_parts info_logs
  have := run_make w 30 48 i0 (.slice none 0 0) Try.underlying30 hi hz0 .i64 .i64 n n (by omega) (Int.le_refl _) (by rw [hz2]; omega) (by omega)
  rw [this, hz1]
  have e : madeCells (Value.slice none 0 0).cells n = (List.replicate n (.slice none 0 0)).toArray := by
    apply Array.ext_getElem?
    intro i
    simp [madeCells, Value.cells]
    by_cases h : i < n <;> simp [h, Nat.mod_one]
  simp [e]
theorem told_new2 (w : World) (t : TypeId) (x : Td) (g q : Nat) (u : Value) (hg : g = w.heap.size) (h : x.cells[q]? = some u) : (w.alloc (.cells x.arr t)).cell? ((⟨g, 0, none⟩ : Addr).add q) = some u := by
  subst hg
  have e : (⟨w.heap.size, 0, none⟩ : Addr).add q = ⟨w.heap.size, q, none⟩ := by cases q <;> simp [Addr.add]
  rw [e, (Box.new w t x.arr).cell, ← h]
  simp [Td.arr]
/-- What Logs gives. -/
def LogsIs (E n : Int) (l : List Ev) (e : Ending) (w' : World) : Prop :=
  ∃ A m c, e = .returned (.tuple #[.slice A m c, .int .i64 E]) ∧ ((E ≠ 0 ∧ A = none ∧ m = 0 ∧ c = 0) ∨ (E = 0 ∧ m = n.toNat ∧ elT.RR w' (.slice A m c) (logsL n l)))
set_option maxRecDepth 10000 in
set_option maxHeartbeats 8000000 in
theorem tallyLogs_is (n s y b : Int) (v : Value) (l : List Ev) (w : World) (h : elE.R w v l) :
    Calls Try.prog 5 #[cfg n s y b, v] w fun e w' => LogsIs (tallyE n s y b l) n l e w' ∧ Below w.heap.size w w' := by
  have CK := Lib.hid fun w h => tallyCheck_any n s y b v l w h
  have HR := Lib.hid h
  by_cases hE : tallyE n s y b l = 0
  · obtain ⟨hc, hl, hn⟩ := tallyE_zero.1 hE
    have hn8 := cfgB_iff.1 hc
    have ND := Lib.hid (nodeE_zero.1 hn)
    rw [hE] at CK ⊢
    obtain ⟨i0, hi, hz0, hz1, hz2⟩ := info_parts info_told
    have HI := Lib.hid hi
    have HZ := Lib.hid (And.intro hz0 (And.intro hz1 hz2))
    obtain ⟨N, rfl⟩ : ∃ N : Nat, n = N := ⟨n.toNat, by omega⟩
    have hN : N ≤ 8 := by omega
    have hN2 : 2 ≤ N := by omega
    have MK := fun w => make_tolds N hN w
    obtain ⟨_, A, c, rfl, g1, g2, g3⟩ := h
    have G3 := Lib.hid g3
    unfold maxLen at g2
    clear hE hc hn hn8 hi hz0 hz1 hz2 g3
    have low := Below.refl w.heap.size w
    have cb := boxNext low 23 #[.int .i64 (N : Int), .int .i64 s, .int .i64 y, .int .i64 b]
    replace low := gAlloc low (.cells #[.int .i64 (N : Int), .int .i64 s, .int .i64 y, .int .i64 b] 23)
    try simp only [World.size_alloc] at cb
    go_enter Try.func5, Try.ntmps5
    go_wp2_with fail
    (with_reducible refine (CK.out _ (HR.out.call low)).mono ?_); rintro e w1 ⟨rfl, hb⟩
    replace cb := cb.call hb
    replace low := gCall low hb
    clear hb CK HR
    have gB := low.size
    have cb_0 := cb.at_ 0 rfl
    have cb_1 := cb.at_ 1 rfl
    have cb_2 := cb.at_ 2 rfl
    have cb_3 := cb.at_ 3 rfl
    have hb := Box.new w1 48 (nilA N)
    replace low := gAlloc low (.cells (nilA N) 48)
    have SD := Side.start keyT (w1.alloc (.cells (nilA N) 48)) w.heap.size N
    go_wp2_with fail
    clear cb_0 cb_1 cb_2 cb_3
    clear MK cb
    generalize w1.alloc (.cells (nilA N) 48) = wq at *
    generalize w1.heap.size = g8 at *
    have SD0 := Lib.hid SD
    have HB0 := Lib.hid hb
    clear SD hb
    go_loopw [22] (fun i wr => ∃ j : Nat, j ≤ l.length ∧ i = .int .i64 j ∧ Hid (∃ us, Box wr g8 48 us.toArray ∧ Side keyT wr w.heap.size N us (evTd (l.take j))) ∧ Below w.heap.size w wr) (fun i _ => l.length - (intOf i).toNat)
    case atStart => exact ⟨0, Nat.zero_le _, rfl, Lib.hid ⟨_, HB0.out, SD0.out⟩, low⟩
    case round =>
      clear low SD0 HB0
      obtain ⟨j, hj, rfl, hus, low⟩ := hrel
      by_cases hlt : j < l.length
      · obtain ⟨us, hb, sd⟩ := hus.out
        clear hus
        obtain ⟨b2, o2, rfl, hb2, hc2⟩ := G3.out (by omega)
        have hx : l[j]? = some l[j] := List.getElem?_eq_getElem _
        generalize l[j] = x at hx
        obtain ⟨c0, c1, c2, c3, c4, c5⟩ := evAt_of hc2 hb2 low hx
        have TK := Lib.hid (evTd_more hx)
        have PL0 := Lib.hid (show (evTd (l.take j)).length ≤ 200 by rw [evTd_length, List.length_take]; omega)
        have nd := ND.out x (List.mem_of_getElem? hx)
        have nd2 := (deedE_ok nd.1).1
        generalize evTd (l.take j) = P at *
        obtain ⟨⟨dn, dk, da, dv⟩, tv, bv⟩ := x
        simp only at c0 c1 c2 c3 c4 c5 nd nd2 TK
        obtain ⟨q, rfl⟩ : ∃ q : Nat, dn = q := ⟨dn.toNat, by omega⟩
        have q0 : (0 : Int) ≤ q := by omega
        have q8 : (q : Int) < N := nd.2
        have hq : q < us.length := by rw [sd.len]; omega
        have hu : us[q]? = some us[q] := List.getElem?_eq_getElem _
        generalize us[q] = u at hu
        have HU := Lib.hid hu
        have hcu : us.toArray[q]? = some u := by rw [List.getElem?_toArray]; exact hu
        have PL := Lib.hid (Nat.le_trans (KeyEl.on_length (E := keyT) q P) PL0.out)
        have j0 : (0 : Int) ≤ j := by omega
        have j1 : (j : Int) < l.length := by omega
        have lz := low.size
        have hbl := hb.lt
        have SD := Lib.hid (sd.alloc (.cells #[.int .i64 (q : Int), .int .i64 dk, .int .i64 da, .int .u64 dv, .int .u64 tv, .bool bv] 43))
        clear hx hc2 hu nd nd2 sd PL0
        have db := boxNext low 43 #[.int .i64 (q : Int), .int .i64 dk, .int .i64 da, .int .u64 dv, .int .u64 tv, .bool bv]
        replace low := gAlloc low (.cells #[.int .i64 (q : Int), .int .i64 dk, .int .i64 da, .int .u64 dv, .int .u64 tv, .bool bv] 43)
        replace hb := hb.alloc (.cells #[.int .i64 (q : Int), .int .i64 dk, .int .i64 da, .int .u64 dv, .int .u64 tv, .bool bv] 43)
        try simp only [World.size_alloc] at db
        have db_0 := db.at_ 0 rfl
        have db_1 := db.at_ 1 rfl
        have db_2 := db.at_ 2 rfl
        have db_3 := db.at_ 3 rfl
        have db_4 := db.at_ 4 rfl
        go_wp2_with fail
        clear db_0 db_1 db_2 db_3 db_4
        clear c0 c1 c2 c3 c4 c5
        have hqc := hb.at_ q hcu
        generalize wr.alloc (.cells #[.int .i64 (q : Int), .int .i64 dk, .int .i64 da, .int .u64 dv, .int .u64 tv, .bool bv] 43) = wy at *
        generalize wr.heap.size = gx at *
        have x0 : wy.cell? ⟨gx, 0, none⟩ = some (.int .i64 (q : Int)) := db.at_ 0 rfl
        have x1 : wy.cell? ⟨gx, 1, none⟩ = some (.int .i64 dk) := db.at_ 1 rfl
        have x2 : wy.cell? ⟨gx, 2, none⟩ = some (.int .i64 da) := db.at_ 2 rfl
        have x3 : wy.cell? ⟨gx, 3, none⟩ = some (.int .u64 dv) := db.at_ 3 rfl
        have x4 : wy.cell? ⟨gx, 4, none⟩ = some (.int .u64 tv) := db.at_ 4 rfl
        refine wp_region_noPanic ?_
        refine wp_region_held_drew (S := fun w' => w'.cell? ⟨gx, 0, none⟩ = some (.int .i64 (q : Int)) ∧ w'.cell? ⟨gx, 1, none⟩ = some (.int .i64 dk) ∧ w'.cell? ⟨gx, 2, none⟩ = some (.int .i64 da) ∧ w'.cell? ⟨gx, 3, none⟩ = some (.int .u64 dv) ∧ w'.cell? ⟨gx, 4, none⟩ = some (.int .u64 tv)) (by kernel_rfl) ⟨drewC x0, drewC x1, drewC x2, drewC x3, drewC x4⟩ (fun hHeld => ?_)
        clear x0 x1 x2 x3 x4
        refine takeFirst (i := 0) (v := ?_) rfl (by kernel_rfl) (by kernel_rfl) (by kernel_rfl) (by rfl) (fun _ _ _ h => h) ?_ (by assumption) ?_
        rotate_left
        · (intro w hSw; go_simp; try (with_reducible rfl))
        try simp only [Act.put, List.setIfInBounds_toArray, List.set_cons_zero, List.set_cons_succ]
        refine takeFirst (i := 1) (v := ?_) rfl (by kernel_rfl) (by kernel_rfl) (by kernel_rfl) (by rfl) (fun _ _ _ h => h) ?_ (by assumption) ?_
        rotate_left
        · (intro w hSw; go_simp; try (with_reducible rfl))
        try simp only [Act.put, List.setIfInBounds_toArray, List.set_cons_zero, List.set_cons_succ]
        refine takeFirst (i := 2) (v := ?_) rfl (by kernel_rfl) (by kernel_rfl) (by kernel_rfl) (by rfl) (fun _ _ _ h => h) ?_ (by assumption) ?_
        rotate_left
        · (intro w hSw; go_simp; try (with_reducible rfl))
        try simp only [Act.put, List.setIfInBounds_toArray, List.set_cons_zero, List.set_cons_succ]
        refine takeFirst (i := 3) (v := ?_) rfl (by kernel_rfl) (by kernel_rfl) (by kernel_rfl) (by rfl) (fun _ _ _ h => h) ?_ (by assumption) ?_
        rotate_left
        · (intro w hSw; go_simp; try (with_reducible rfl))
        try simp only [Act.put, List.setIfInBounds_toArray, List.set_cons_zero, List.set_cons_succ]
        refine takeFirst (i := 4) (v := ?_) rfl (by kernel_rfl) (by kernel_rfl) (by kernel_rfl) (by rfl) (fun _ _ _ h => h) ?_ (by assumption) ?_
        rotate_left
        · (intro w hSw; go_simp; try (with_reducible rfl))
        try simp only [Act.put, List.setIfInBounds_toArray, List.set_cons_zero, List.set_cons_succ]
        refine takeFirst (i := 6) (v := ?_) rfl (by kernel_rfl) (by kernel_rfl) (by kernel_rfl) (by rfl) (fun _ _ _ h => h) ?_ (by assumption) ?_
        rotate_left
        · (intro w hSw; go_simp; try (with_reducible rfl))
        try simp only [Act.put, List.setIfInBounds_toArray, List.set_cons_zero, List.set_cons_succ]
        refine takeFirst (i := 7) (v := ?_) rfl (by kernel_rfl) (by kernel_rfl) (by kernel_rfl) (by rfl) (fun _ _ _ h => h) ?_ (by assumption) ?_
        rotate_left
        · (intro w hSw; go_simp; try (with_reducible rfl))
        try simp only [Act.put, List.setIfInBounds_toArray, List.set_cons_zero, List.set_cons_succ]
        refine takeFirst (i := 8) (v := ?_) rfl (by kernel_rfl) (by kernel_rfl) (by kernel_rfl) (by rfl) (fun _ _ _ h => h) ?_ (by assumption) ?_
        rotate_left
        · (intro w hSw; go_simp; try (with_reducible rfl))
        try simp only [Act.put, List.setIfInBounds_toArray, List.set_cons_zero, List.set_cons_succ]
        refine takeFirst (i := 9) (v := ?_) rfl (by kernel_rfl) (by kernel_rfl) (by kernel_rfl) (by rfl) (fun _ _ _ h => h) ?_ (by assumption) ?_
        rotate_left
        · (intro w hSw; go_simp; try (with_reducible rfl))
        try simp only [Act.put, List.setIfInBounds_toArray, List.set_cons_zero, List.set_cons_succ]
        refine takeFirst (i := 10) (v := ?_) rfl (by kernel_rfl) (by kernel_rfl) (by kernel_rfl) (by rfl) (fun _ _ _ h => h) ?_ (by assumption) ?_
        rotate_left
        · (intro w hSw; go_simp; try (with_reducible rfl))
        try simp only [Act.put, List.setIfInBounds_toArray, List.set_cons_zero, List.set_cons_succ]
        have sd2 := (SD.out.alloc (.cells #[.int .i64 (q : Int), .int .i64 dk, .int .i64 da, .int .u64 dv, .int .u64 tv] 52)).drew
        have own : ((wy.alloc (.cells #[.int .i64 (q : Int), .int .i64 dk, .int .i64 da, .int .u64 dv, .int .u64 tv] 52)).drew).ownsRow w.heap.size 52 5 u (keyT.on q P).length (elT.C (keyT.on q P)) := (sd2.own q u HU.out).1
        have hb2 := (hb.alloc (.cells #[.int .i64 (q : Int), .int .i64 dk, .int .i64 da, .int .u64 dv, .int .u64 tv] 52)).drew
        have xb2 := (db.alloc (.cells #[.int .i64 (q : Int), .int .i64 dk, .int .i64 da, .int .u64 dv, .int .u64 tv] 52)).drew
        have low2 := (gAlloc low (.cells #[.int .i64 (q : Int), .int .i64 dk, .int .i64 da, .int .u64 dv, .int .u64 tv] 52)).drew
        have news := Lib.hid fun i u' h => told_new2 wy 52 ⟨⟨(q : Int), dk, da, dv⟩, tv⟩ wy.heap.size i u' rfl h
        have lo2 := low2.size
        clear SD hb db low
        refine stepTwo (i1 := 5) (i2 := 11) (by kernel_rfl) rfl rfl (by rfl) (by rfl) (fun K hK => ?_) (fun K hK => ?_)
        · go_simp
          refine hK.out _ _ hHeld ?_
          clear hK K
          try simp only [Act.put]
          try simp only [List.setIfInBounds_toArray, List.set_cons_zero, List.set_cons_succ]
          refine stepNext (i := 11) (by kernel_rfl) rfl (by rfl) (fun K hK => ?_)
          go_simp
          obtain ⟨hh0, hh1, hh2, hh3, hh4⟩ := hHeld
          have hHeld := (And.intro (drewC (allocC (.cells #[.int .i64 (q : Int), .int .i64 dk, .int .i64 da, .int .u64 dv, .int .u64 tv] 52) hh0)) (And.intro (drewC (allocC (.cells #[.int .i64 (q : Int), .int .i64 dk, .int .i64 da, .int .u64 dv, .int .u64 tv] 52) hh1)) (And.intro (drewC (allocC (.cells #[.int .i64 (q : Int), .int .i64 dk, .int .i64 da, .int .u64 dv, .int .u64 tv] 52) hh2)) (And.intro (drewC (allocC (.cells #[.int .i64 (q : Int), .int .i64 dk, .int .i64 da, .int .u64 dv, .int .u64 tv] 52) hh3)) (drewC (allocC (.cells #[.int .i64 (q : Int), .int .i64 dk, .int .i64 da, .int .u64 dv, .int .u64 tv] 52) hh4))))))
          clear hh0 hh1 hh2 hh3 hh4
          refine hK.out _ _ hHeld ?_
          clear hK K
          try simp only [Act.put]
          try simp only [List.setIfInBounds_toArray, List.set_cons_zero, List.set_cons_succ]
          refine stepNext (i := 12) (by kernel_rfl) rfl (by rfl) (fun K hK => ?_)
          refine wp_append_own _ (.tmp 34) (.tmp 40) 48 rfl w.heap.size 52 i0 (.agg #[.int .i64 0, .int .i64 0, .int .i64 0, .int .u64 0, .int .u64 0]) 5 40 Try.underlying48 HI.out HZ.out.1 HZ.out.2.1 HZ.out.2.2 rfl (by decide) _ _ _ rfl own ⟨wy.heap.size, 0, none⟩ 1 1 (Td.cells ⟨⟨(q : Int), dk, da, dv⟩, tv⟩) rfl rfl news.out (elT.one _) ?f3 ?f4 ?f5 ?_
          case f3 => have := PL.out; unfold maxLen; omega
          case f4 => have := PL.out; omega
          case f5 => exact lo2
          intro v4 w4 own4 grow4 _
          have hb4 := hb2.grown grow4 (own_ne own hb2 (by decide))
          have sd4 := sd2.push HU.out (c := ⟨⟨(q : Int), dk, da, dv⟩, tv⟩) rfl own4 grow4
          have low4 : Below w.heap.size w w4 := low2.grown grow4 lo2 (fun g e => (own.lt _ e).1)
          obtain ⟨A4, c4, rfl⟩ := own_shape own4
          obtain ⟨hh0, hh1, hh2, hh3, hh4⟩ := hHeld
          have nx := own_ne own xb2 (show 43 ≠ 52 by decide)
          have hHeld := And.intro (grow4.cell hh0 nx) (And.intro (grow4.cell hh1 nx) (And.intro (grow4.cell hh2 nx) (And.intro (grow4.cell hh3 nx) (grow4.cell hh4 nx))))
          have xb4 := xb2.grown grow4 nx
          clear hh0 hh1 hh2 hh3 hh4
          refine hK.out _ _ hHeld ?_
          clear hK K
          try simp only [Act.put]
          try simp only [List.setIfInBounds_toArray, List.set_cons_zero, List.set_cons_succ]
          refine takeFirst (i := 13) (v := ?_) rfl (by kernel_rfl) (by kernel_rfl) (by kernel_rfl) (by rfl) (fun _ _ _ h => h) ?_ (by assumption) ?_
          rotate_left
          · (intro w hSw; go_simp; try (with_reducible rfl))
          try simp only [Act.put, List.setIfInBounds_toArray, List.set_cons_zero, List.set_cons_succ]
          refine stepNext (i := 14) (by kernel_rfl) rfl (by rfl) (fun K hK => ?_)
          have hq4 := hb4.at_ q hcu
          have hf4 := hb4.frozen q
          go_simp
          have st5 : Stored w4 g8 (w4.setCell ⟨g8, q, none⟩ (.slice A4 ((keyT.on q P).length + 1) c4)) := Stored.cell1 w4 ⟨g8, q, none⟩ _
          have hb5 := hb4.set q (.slice A4 ((keyT.on q P).length + 1) c4)
          rw [List.setIfInBounds_toArray] at hb5
          have SD5 := Lib.hid (sd4.stored hb4 (show 48 ≠ 52 by decide) st5)
          have low5 := st5.low low4 gB
          obtain ⟨hh0, hh1, hh2, hh3, hh4⟩ := hHeld
          have gxn := blocks_ne xb4 hb4 (by decide)
          have hHeld := And.intro (st5.cell (by exact gxn) hh0) (And.intro (st5.cell (by exact gxn) hh1) (And.intro (st5.cell (by exact gxn) hh2) (And.intro (st5.cell (by exact gxn) hh3) (st5.cell (by exact gxn) hh4))))
          clear hh0 hh1 hh2 hh3 hh4 st5 sd4 hb4 low4 hq4 hf4 grow4 own4 own sd2 hb2 xb2 xb4 low2 nx gxn
          generalize w4.setCell ⟨g8, q, none⟩ (.slice A4 ((keyT.on q P).length + 1) c4) = w5 at *
          refine hK.out _ _ hHeld ?_
          clear hK K
          try simp only [Act.put]
          try simp only [List.setIfInBounds_toArray, List.set_cons_zero, List.set_cons_succ]
          clear hHeld
          refine wpAnyH_done (by kernel_rfl) ?_ _
          refine NoPanic.normal ?_
          go_wp2_with fail
          go_roundw
          case rel => exact ⟨j + 1, by omega, by go_num, Lib.hid ⟨_, hb5, by rw [TK.out]; exact SD5.out⟩, low5⟩
          case measure => simp [intOf]; omega
        · go_simp
          obtain ⟨hh0, hh1, hh2, hh3, hh4⟩ := hHeld
          have hHeld := (And.intro (drewC (allocC (.cells #[.int .i64 (q : Int), .int .i64 dk, .int .i64 da, .int .u64 dv, .int .u64 tv] 52) hh0)) (And.intro (drewC (allocC (.cells #[.int .i64 (q : Int), .int .i64 dk, .int .i64 da, .int .u64 dv, .int .u64 tv] 52) hh1)) (And.intro (drewC (allocC (.cells #[.int .i64 (q : Int), .int .i64 dk, .int .i64 da, .int .u64 dv, .int .u64 tv] 52) hh2)) (And.intro (drewC (allocC (.cells #[.int .i64 (q : Int), .int .i64 dk, .int .i64 da, .int .u64 dv, .int .u64 tv] 52) hh3)) (drewC (allocC (.cells #[.int .i64 (q : Int), .int .i64 dk, .int .i64 da, .int .u64 dv, .int .u64 tv] 52) hh4))))))
          clear hh0 hh1 hh2 hh3 hh4
          refine hK.out _ _ hHeld ?_
          clear hK K
          try simp only [Act.put]
          try simp only [List.setIfInBounds_toArray, List.set_cons_zero, List.set_cons_succ]
          have hqc2 := hb2.at_ q hcu
          refine stepNext (i := 5) (by kernel_rfl) rfl (by rfl) (fun K hK => ?_)
          go_simp
          refine hK.out _ _ hHeld ?_
          clear hK K
          try simp only [Act.put]
          try simp only [List.setIfInBounds_toArray, List.set_cons_zero, List.set_cons_succ]
          refine stepNext (i := 12) (by kernel_rfl) rfl (by rfl) (fun K hK => ?_)
          refine wp_append_own _ (.tmp 34) (.tmp 40) 48 rfl w.heap.size 52 i0 (.agg #[.int .i64 0, .int .i64 0, .int .i64 0, .int .u64 0, .int .u64 0]) 5 40 Try.underlying48 HI.out HZ.out.1 HZ.out.2.1 HZ.out.2.2 rfl (by decide) _ _ _ rfl own ⟨wy.heap.size, 0, none⟩ 1 1 (Td.cells ⟨⟨(q : Int), dk, da, dv⟩, tv⟩) rfl rfl news.out (elT.one _) ?f3 ?f4 ?f5 ?_
          case f3 => have := PL.out; unfold maxLen; omega
          case f4 => have := PL.out; omega
          case f5 => exact lo2
          intro v4 w4 own4 grow4 _
          have hb4 := hb2.grown grow4 (own_ne own hb2 (by decide))
          have sd4 := sd2.push HU.out (c := ⟨⟨(q : Int), dk, da, dv⟩, tv⟩) rfl own4 grow4
          have low4 : Below w.heap.size w w4 := low2.grown grow4 lo2 (fun g e => (own.lt _ e).1)
          obtain ⟨A4, c4, rfl⟩ := own_shape own4
          obtain ⟨hh0, hh1, hh2, hh3, hh4⟩ := hHeld
          have nx := own_ne own xb2 (show 43 ≠ 52 by decide)
          have hHeld := And.intro (grow4.cell hh0 nx) (And.intro (grow4.cell hh1 nx) (And.intro (grow4.cell hh2 nx) (And.intro (grow4.cell hh3 nx) (grow4.cell hh4 nx))))
          have xb4 := xb2.grown grow4 nx
          clear hh0 hh1 hh2 hh3 hh4
          refine hK.out _ _ hHeld ?_
          clear hK K
          try simp only [Act.put]
          try simp only [List.setIfInBounds_toArray, List.set_cons_zero, List.set_cons_succ]
          refine takeFirst (i := 13) (v := ?_) rfl (by kernel_rfl) (by kernel_rfl) (by kernel_rfl) (by rfl) (fun _ _ _ h => h) ?_ (by assumption) ?_
          rotate_left
          · (intro w hSw; go_simp; try (with_reducible rfl))
          try simp only [Act.put, List.setIfInBounds_toArray, List.set_cons_zero, List.set_cons_succ]
          refine stepNext (i := 14) (by kernel_rfl) rfl (by rfl) (fun K hK => ?_)
          have hq4 := hb4.at_ q hcu
          have hf4 := hb4.frozen q
          go_simp
          have st5 : Stored w4 g8 (w4.setCell ⟨g8, q, none⟩ (.slice A4 ((keyT.on q P).length + 1) c4)) := Stored.cell1 w4 ⟨g8, q, none⟩ _
          have hb5 := hb4.set q (.slice A4 ((keyT.on q P).length + 1) c4)
          rw [List.setIfInBounds_toArray] at hb5
          have SD5 := Lib.hid (sd4.stored hb4 (show 48 ≠ 52 by decide) st5)
          have low5 := st5.low low4 gB
          obtain ⟨hh0, hh1, hh2, hh3, hh4⟩ := hHeld
          have gxn := blocks_ne xb4 hb4 (by decide)
          have hHeld := And.intro (st5.cell (by exact gxn) hh0) (And.intro (st5.cell (by exact gxn) hh1) (And.intro (st5.cell (by exact gxn) hh2) (And.intro (st5.cell (by exact gxn) hh3) (st5.cell (by exact gxn) hh4))))
          clear hh0 hh1 hh2 hh3 hh4 st5 sd4 hb4 low4 hq4 hf4 grow4 own4 own sd2 hb2 xb2 xb4 low2 nx gxn
          generalize w4.setCell ⟨g8, q, none⟩ (.slice A4 ((keyT.on q P).length + 1) c4) = w5 at *
          refine hK.out _ _ hHeld ?_
          clear hK K
          try simp only [Act.put]
          try simp only [List.setIfInBounds_toArray, List.set_cons_zero, List.set_cons_succ]
          clear hHeld
          refine wpAnyH_done (by kernel_rfl) ?_ _
          refine NoPanic.normal ?_
          go_wp2_with fail
          go_roundw
          case rel => exact ⟨j + 1, by omega, by go_num, Lib.hid ⟨_, hb5, by rw [TK.out]; exact SD5.out⟩, low5⟩
          case measure => simp [intOf]; omega
      · obtain rfl : j = l.length := by omega
        obtain ⟨us, hb, sd⟩ := hus.out
        rw [List.take_length] at sd
        have RR := sd.rr hb (by unfold maxLen; omega)
        clear hus hb sd
        go_wp2_with fail
        go_ret2
        exact ⟨⟨_, _, _, rfl, .inr ⟨rfl, rfl, RR⟩⟩, low⟩
  · generalize hT : tallyE n s y b l = E at *
    have hE' : (E != 0) = true := by simpa using hE
    have HE := Lib.hid hE
    obtain ⟨A, c, rfl⟩ := h.shape
    clear hE hT h
    have low := Below.refl w.heap.size w
    go_enter Try.func5, Try.ntmps5
    go_wp2_with fail
    (with_reducible refine (CK.out _ (HR.out.alloc _)).mono ?_); rintro e w1 ⟨rfl, hb⟩
    replace low := gCall (gAlloc low _) hb
    clear hb CK HR
    go_wp2_with fail
    go_ret2
    exact ⟨⟨_, _, _, rfl, .inl ⟨HE.out, rfl, rfl, rfl⟩⟩, low⟩
end Go.Proofs.Ytcegjehoejgofaa
