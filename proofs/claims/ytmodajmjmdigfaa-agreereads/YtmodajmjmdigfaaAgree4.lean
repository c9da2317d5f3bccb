/-
Proved: what Value, Holders and Flat of package agree return, for every world that can be read; they change nothing that was there. No condition.
-/
import Derived.Test.YtmodajmjmdigfaaAgree3
import Derived.Test.YtmodajmjmdigfaaBank2
namespace Go.Proofs.Ytmodajmjmdigfaa
open Go.ChangeShapes Go.WideShapes Go.ChangeAt Go.RowKit Go.Joins

abbrev lnA (x : L4) : Array Value := #[.int .u64 x.a, .int .u64 x.b, .int .u64 x.c, .int .u64 x.d]
abbrev ln0 : Array Value := #[.int .u64 0, .int .u64 0, .int .u64 0, .int .u64 0]
theorem tyLine : Ty 30 ln0 := ⟨by kernel_rfl, ⟨_, Try.underlying30, rfl⟩, fun w => by kernel_rfl⟩

theorem ln0_one : ln0.all (·.oneCell') = true := by simp [Value.oneCell']
theorem lnA_one (x : L4) : (lnA x).all (·.oneCell') = true := by simp [Value.oneCell']


set_option maxHeartbeats 1000000 in
theorem value_bad (n s y b : Int) (v : Value) (m : List Int) (css : List (List St)) (k : Int) (w : World) (h : Ks w v css) (hm : m.length = 64) (he : cohE n s y b css m ≠ 0) :
    Calls Try.prog 36 #[cfg n s y b, wldV v m, .int .i64 k] w fun e w' => e = .returned (.tuple #[line 0 0 0 0, .int .i64 (cohE n s y b css m)]) ∧ Below w.heap.size w w' := by
  have F := Lib.hid fun w hw => coherent_bad n s y b v m css w hw hm he
  generalize cohE n s y b css m = E at F he ⊢
  generalize cohL n s y b css m = L at F
  have he' : (E != 0) = true := by simpa using he
  clear he
  have low := Below.refl w.heap.size w
  have cb := boxNext low 44 (cfgA n s y b)
  replace low := gAlloc low (.cells (cfgA n s y b) 44)
  replace h := h.alloc (.cells (cfgA n s y b) 44)
  try simp only [World.size_alloc] at cb
  have wb := boxNext low 79 (wldA v m)
  replace low := gAlloc low (.cells (wldA v m) 79)
  replace cb := cb.alloc (.cells (wldA v m) 79)
  replace h := h.alloc (.cells (wldA v m) 79)
  try simp only [World.size_alloc] at wb
  have ob := boxNext low 30 ln0
  replace low := gAlloc low (.cells ln0 30)
  replace cb := cb.alloc (.cells ln0 30)
  replace wb := wb.alloc (.cells ln0 30)
  replace h := h.alloc (.cells ln0 30)
  try simp only [World.size_alloc] at ob
  have wr := wb.range
  go_enter Try.func36, Try.ntmps36
  go_wp2_with (first | ((with_reducible refine wp_loadW (tyWorld) (wr) (wld_size hm) ?_ ?_ ?_); rfl; rfl))
  (with_reducible refine (F.out _ h).mono ?_); rintro e w1 ⟨rfl, hb⟩
  replace ob := ob.call hb
  replace low := gCall low hb
  clear hb cb wb wr
  have z1 := ob.lt
  have hb := boxNext low 112 nil16
  replace low := gAlloc low (.cells nil16 112)
  replace ob := ob.alloc (.cells nil16 112)
  try simp only [World.size_alloc] at hb
  go_wp2_with (first | (with_reducible refine wp_newW (tyCopies) ?_) | ((with_reducible refine wp_freshW (tyCopies) (rfl) (rfl) (nil16_one) ?_ ?_ ?_); rfl; rfl) | ((with_reducible refine wp_storeW (tyLine) (ob) (rfl) (rfl) (ln0_one) ?_ ?_ ?_); rfl; rfl))
  intro w2 ob2 st
  replace low := st.low low (by omega)
  clear ob st
  go_wp2_with fail
  exact bodyPost_ret (v := .tuple #[line 0 0 0 0, .int .i64 E]) (results_first tyLine Try.results36 rfl rfl ob2 rfl) rfl ⟨rfl, low⟩
set_option maxHeartbeats 1000000 in
theorem value_out (n s y b : Int) (v : Value) (m : List Int) (css : List (List St)) (k : Int) (w : World) (h : Ks w v css) (hm : m.length = 64) (he : cohE n s y b css m = 0) (hk : k < 0 ∨ 15 < k) :
    Calls Try.prog 36 #[cfg n s y b, wldV v m, .int .i64 k] w fun e w' => e = .returned (.tuple #[line 0 0 0 0, .int .i64 4]) ∧ Below w.heap.size w w' := by
  have F := Lib.hid fun w hw => coherent_ok n s y b v m css w hw hm he
  have R := Lib.hid fun w => bankRead_out m k hk w
  clear he hk
  have low := Below.refl w.heap.size w
  have cb := boxNext low 44 (cfgA n s y b)
  replace low := gAlloc low (.cells (cfgA n s y b) 44)
  replace h := h.alloc (.cells (cfgA n s y b) 44)
  try simp only [World.size_alloc] at cb
  have wb := boxNext low 79 (wldA v m)
  replace low := gAlloc low (.cells (wldA v m) 79)
  replace cb := cb.alloc (.cells (wldA v m) 79)
  replace h := h.alloc (.cells (wldA v m) 79)
  try simp only [World.size_alloc] at wb
  have ob := boxNext low 30 ln0
  replace low := gAlloc low (.cells ln0 30)
  replace cb := cb.alloc (.cells ln0 30)
  replace wb := wb.alloc (.cells ln0 30)
  replace h := h.alloc (.cells ln0 30)
  try simp only [World.size_alloc] at ob
  have wr := wb.range
  go_enter Try.func36, Try.ntmps36
  go_wp2_with (first | ((with_reducible refine wp_loadW (tyWorld) (wr) (wld_size hm) ?_ ?_ ?_); rfl; rfl))
  (with_reducible refine (F.out _ h).mono ?_); rintro e w1 ⟨⟨us, rfl, hds⟩, hb⟩
  replace ob := ob.call hb
  replace wb := wb.call hb
  replace low := gCall low hb
  clear hb cb wr
  have u16 := hds.size
  have one := hds.one
  have hb := boxNext low 112 us.toArray
  replace low := gAlloc low (.cells us.toArray 112)
  replace ob := ob.alloc (.cells us.toArray 112)
  replace wb := wb.alloc (.cells us.toArray 112)
  try simp only [World.size_alloc] at hb
  have wm := wld_mem wb
  go_wp2_with (first | (with_reducible refine wp_newW (tyCopies) ?_) | ((with_reducible refine wp_freshW (tyCopies) (rfl) (u16) (one) ?_ ?_ ?_); rfl; rfl) | ((with_reducible refine wp_loadW (tyMem) (wm) (mem_zsize hm) ?_ ?_ ?_); rfl; rfl))
  (with_reducible refine (R.out _).mono ?_); rintro e w2 ⟨rfl, hb2⟩
  replace ob := ob.call hb2
  replace low := gCall low hb2
  clear hb2 wm wb hb
  have z1 := ob.lt
  have lb := boxNext low 30 ln0
  replace low := gAlloc low (.cells ln0 30)
  replace ob := ob.alloc (.cells ln0 30)
  try simp only [World.size_alloc] at lb
  go_wp2_with ((with_reducible refine wp_storeW (tyLine) (ob) (rfl) (rfl) (ln0_one) ?_ ?_ ?_); rfl; rfl)
  intro w3 ob3 st
  replace low := st.low low (by omega)
  clear ob st
  go_wp2_with fail
  exact bodyPost_ret (v := .tuple #[line 0 0 0 0, .int .i64 4]) (results_first tyLine Try.results36 rfl rfl ob3 rfl) rfl ⟨rfl, low⟩
set_option maxRecDepth 10000 in
set_option maxHeartbeats 1000000 in
theorem value_ok (n s y b : Int) (v : Value) (m : List Int) (css : List (List St)) (k : Nat) (w : World) (h : Ks w v css) (hm : m.length = 64) (he : cohE n s y b css m = 0) (hk : k < 16) :
    Calls Try.prog 36 #[cfg n s y b, wldV v m, .int .i64 k] w fun e w' => e = .returned (.tuple #[(valL (onL k (copN css css.length)) (l4 m k)).val, .int .i64 0]) ∧ Below w.heap.size w w' := by
  have F := Lib.hid fun w hw => coherent_ok n s y b v m css w hw hm he
  have R := Lib.hid fun w => bankRead_ok m hm k hk w
  clear he
  generalize copN css css.length = P at F ⊢
  generalize hz : valL (onL k P) (l4 m k) = z
  have HZ := Lib.hid hz
  clear hz
  have low := Below.refl w.heap.size w
  have cb := boxNext low 44 (cfgA n s y b)
  replace low := gAlloc low (.cells (cfgA n s y b) 44)
  replace h := h.alloc (.cells (cfgA n s y b) 44)
  try simp only [World.size_alloc] at cb
  have wb := boxNext low 79 (wldA v m)
  replace low := gAlloc low (.cells (wldA v m) 79)
  replace cb := cb.alloc (.cells (wldA v m) 79)
  replace h := h.alloc (.cells (wldA v m) 79)
  try simp only [World.size_alloc] at wb
  have ob := boxNext low 30 ln0
  replace low := gAlloc low (.cells ln0 30)
  replace cb := cb.alloc (.cells ln0 30)
  replace wb := wb.alloc (.cells ln0 30)
  replace h := h.alloc (.cells ln0 30)
  try simp only [World.size_alloc] at ob
  have wr := wb.range
  go_enter Try.func36, Try.ntmps36
  go_wp2_with (first | ((with_reducible refine wp_loadW (tyWorld) (wr) (wld_size hm) ?_ ?_ ?_); rfl; rfl))
  (with_reducible refine (F.out _ h).mono ?_); rintro e w1 ⟨⟨us, rfl, hds⟩, hb⟩
  replace ob := ob.call hb
  replace wb := wb.call hb
  replace low := gCall low hb
  clear hb cb wr
  have z0 := ob.lt
  have u16 := hds.size
  have one := hds.one
  have hb := boxNext low 112 us.toArray
  replace low := gAlloc low (.cells us.toArray 112)
  replace ob := ob.alloc (.cells us.toArray 112)
  replace wb := wb.alloc (.cells us.toArray 112)
  replace hds := hds.alloc (.cells us.toArray 112)
  try simp only [World.size_alloc] at hb
  have wm := wld_mem wb
  go_wp2_with (first | (with_reducible refine wp_newW (tyCopies) ?_) | ((with_reducible refine wp_freshW (tyCopies) (rfl) (u16) (one) ?_ ?_ ?_); rfl; rfl) | ((with_reducible refine wp_loadW (tyMem) (wm) (mem_zsize hm) ?_ ?_ ?_); rfl; rfl))
  (with_reducible refine (R.out _).mono ?_); rintro e w2 ⟨rfl, hb2⟩
  replace ob := ob.call hb2
  replace hb := hb.call hb2
  replace hds := hds.call hb2
  replace low := gCall low hb2
  clear hb2 wm wb
  have z1 := ob.lt
  have hu : us[k]? = some (us[k]'(by have := hds.len; omega)) := List.getElem?_eq_getElem _
  generalize us[k]'(by have := hds.len; omega) = u at hu
  have cps := hds.cps k u hu
  have hcu : us.toArray[k]? = some u := by rw [List.getElem?_toArray]; exact hu
  obtain ⟨A, c, rfl⟩ : ∃ A c, u = .slice A (onL k P).length c := by obtain ⟨_, A, c, e, _⟩ := cps; exact ⟨A, c, e⟩
  have VA := Lib.hid fun w hw => valueOf_any (.slice A (onL k P).length c) (onL k P) (l4 m k) w hw
  rw [HZ.out] at VA
  simp only [l4] at VA
  clear hu hds R F
  have lb := boxNext low 30 #[.int .u64 (wd m (k * 4)), .int .u64 (wd m (k * 4 + 1)), .int .u64 (wd m (k * 4 + 2)), .int .u64 (wd m (k * 4 + 3))]
  replace low := gAlloc low (.cells #[.int .u64 (wd m (k * 4)), .int .u64 (wd m (k * 4 + 1)), .int .u64 (wd m (k * 4 + 2)), .int .u64 (wd m (k * 4 + 3))] 30)
  replace ob := ob.alloc (.cells #[.int .u64 (wd m (k * 4)), .int .u64 (wd m (k * 4 + 1)), .int .u64 (wd m (k * 4 + 2)), .int .u64 (wd m (k * 4 + 3))] 30)
  replace hb := hb.alloc (.cells #[.int .u64 (wd m (k * 4)), .int .u64 (wd m (k * 4 + 1)), .int .u64 (wd m (k * 4 + 2)), .int .u64 (wd m (k * 4 + 3))] 30)
  replace cps := cps.alloc (.cells #[.int .u64 (wd m (k * 4)), .int .u64 (wd m (k * 4 + 1)), .int .u64 (wd m (k * 4 + 2)), .int .u64 (wd m (k * 4 + 3))] 30)
  try simp only [World.size_alloc] at lb
  have hc0 := hb.at_ k hcu
  have l0 := lb.at_ 0 rfl
  have l1 := lb.at_ 1 rfl
  have l2 := lb.at_ 2 rfl
  have l3 := lb.at_ 3 rfl
  have k0 : (0 : Int) ≤ k := by omega
  have k1 : (k : Int) < 16 := by omega
  go_wp2_with fail
  refine wp_region_noPanic ?_
  refine wp_region_held_drew (S := fun w' => w'.cell? ⟨w1.heap.size, k, none⟩ = some (.slice A (onL k P).length c) ∧ w'.cell? ⟨w2.heap.size, 0, none⟩ = some (.int .u64 (wd m (k * 4))) ∧ w'.cell? ⟨w2.heap.size, 1, none⟩ = some (.int .u64 (wd m (k * 4 + 1))) ∧ w'.cell? ⟨w2.heap.size, 2, none⟩ = some (.int .u64 (wd m (k * 4 + 2))) ∧ w'.cell? ⟨w2.heap.size, 3, none⟩ = some (.int .u64 (wd m (k * 4 + 3)))) (by kernel_rfl) ⟨drewC hc0, drewC l0, drewC l1, drewC l2, drewC l3⟩ (fun hHeld => ?_)
  clear hc0 l0 l1 l2 l3 lb hb
  refine takeFirst (i := 0) (v := ?_) rfl (by kernel_rfl) (by kernel_rfl) (by kernel_rfl) (by rfl) (fun _ _ _ h => h) ?_ (by assumption) ?_
  rotate_left
  · (intro w hSw; go_simp; try (with_reducible rfl))
  try simp only [Act.put, List.setIfInBounds_toArray, List.set_cons_zero, List.set_cons_succ]
  refine takeFirst (i := 1) (v := ?_) rfl (by kernel_rfl) (by kernel_rfl) (by kernel_rfl) (by rfl) (fun _ _ _ h => h) ?_ (by assumption) ?_
  rotate_left
  · (intro w hSw; go_simp; try (with_reducible rfl))
  try simp only [Act.put, List.setIfInBounds_toArray, List.set_cons_zero, List.set_cons_succ]
  refine takeFirst (i := 2) (v := ?_) rfl (by kernel_rfl) (by kernel_rfl) (by kernel_rfl) (by rfl) (fun _ _ _ h => h) ?_ (by assumption) ?_
  rotate_left
  · (intro w hSw; go_simp; try (with_reducible rfl))
  try simp only [Act.put, List.setIfInBounds_toArray, List.set_cons_zero, List.set_cons_succ]
  refine takeFirst (i := 3) (v := ?_) rfl (by kernel_rfl) (by kernel_rfl) (by kernel_rfl) (by rfl) (fun _ _ _ h => h) ?_ (by assumption) ?_
  rotate_left
  · (intro w hSw; go_simp; try (with_reducible rfl))
  try simp only [Act.put, List.setIfInBounds_toArray, List.set_cons_zero, List.set_cons_succ]
  refine stepNext (i := 4) (by kernel_rfl) rfl (by rfl) (fun K hK => ?_)
  go_simp
  (with_reducible refine (VA.out _ cps.drew).mono ?_); rintro e w4 ⟨rfl, hb4⟩
  replace ob := ob.drew.call hb4
  replace low := gCall low.drew hb4
  obtain ⟨hh0, hh1, hh2, hh3, hh4⟩ := hHeld
  have hHeld := (And.intro (callC hb4 hh0) (And.intro (callC hb4 hh1) (And.intro (callC hb4 hh2) (And.intro (callC hb4 hh3) (callC hb4 hh4)))))
  clear hh0 hh1 hh2 hh3 hh4
  clear hb4 cps VA
  refine hK.out _ _ hHeld ?_
  clear hK K
  try simp only [Act.put]
  try simp only [List.setIfInBounds_toArray, List.set_cons_zero, List.set_cons_succ]
  refine stepNext (i := 5) (by kernel_rfl) rfl (by rfl) (fun K hK => ?_)
  refine wp_store_box 30 (.tmp 6) (.tmp 38) rfl _ (lnA z) rfl rfl ob tyLine.size rfl (lnA_one z) ?_
  intro w5 ob5 st
  replace low := st.low low (by omega)
  have z5 : w1.heap.size ≠ w.heap.size + 1 + 1 ∧ w2.heap.size ≠ w.heap.size + 1 + 1 := by omega
  obtain ⟨hh0, hh1, hh2, hh3, hh4⟩ := hHeld
  have hHeld := (And.intro (st.cell (by dsimp only; omega) hh0) (And.intro (st.cell (by dsimp only; omega) hh1) (And.intro (st.cell (by dsimp only; omega) hh2) (And.intro (st.cell (by dsimp only; omega) hh3) (st.cell (by dsimp only; omega) hh4)))))
  clear hh0 hh1 hh2 hh3 hh4
  clear st ob
  refine hK.out _ _ hHeld ?_
  clear hK K
  try simp only [Act.put]
  try simp only [List.setIfInBounds_toArray, List.set_cons_zero, List.set_cons_succ]
  refine takeFirst (i := 6) (v := ?_) rfl (by kernel_rfl) (by kernel_rfl) (by kernel_rfl) (by rfl) (fun _ _ _ h => h) ?_ (by assumption) ?_
  rotate_left
  · (intro w hSw; go_simp; try (with_reducible rfl))
  try simp only [Act.put, List.setIfInBounds_toArray, List.set_cons_zero, List.set_cons_succ]
  clear hHeld
  refine wpAnyH_done (by kernel_rfl) ?_ _
  refine NoPanic.normal ?_
  go_wp2_with fail
  exact bodyPost_ret (v := .tuple #[z.val, .int .i64 0]) (results_first tyLine Try.results36 rfl rfl ob5 rfl) rfl ⟨rfl, low⟩
end Go.Proofs.Ytmodajmjmdigfaa
