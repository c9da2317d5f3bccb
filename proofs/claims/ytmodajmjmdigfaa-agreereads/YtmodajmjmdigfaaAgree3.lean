/-
Proved: what coherent of package agree returns, for every world that can be read; it changes nothing that was there. No condition.
-/
import Derived.Test.YtmodajmjmdigfaaAgree2
namespace Go.Proofs.Ytmodajmjmdigfaa
open Go.ChangeShapes Go.WideShapes Go.ChangeAt Go.RowKit Go.Joins

/-- The first line that is not coherent; the error of a world, and its line. -/
def badL (P : List Cp) (m : List Int) : Option Nat := (List.range 16).find? fun k => lnE (onL k P) (l4 m k) != 0
def cohE (n s y b : Int) (css : List (List St)) (m : List Int) : Int :=
  if formE n s y b css ≠ 0 then formE n s y b css else match badL (copN css css.length) m with | some k => lnE (onL k (copN css css.length)) (l4 m k) | none => 0
def cohL (n s y b : Int) (css : List (List St)) (m : List Int) : Int :=
  if formE n s y b css ≠ 0 then 0 else match badL (copN css css.length) m with | some k => (k : Int) | none => 0

theorem badL_some {P : List Cp} {m : List Int} {k : Nat} (hk : k < 16) (h0 : ∀ j, j < k → lnE (onL j P) (l4 m j) = 0) (h : lnE (onL k P) (l4 m k) ≠ 0) : badL P m = some k := by
  unfold badL
  rw [List.find?_eq_some_iff_getElem]
  refine ⟨by simpa using h, k, by simpa using hk, by simp, fun j hj => ?_⟩
  simp [h0 j hj]
theorem badL_none {P : List Cp} {m : List Int} (h : ∀ j, j < 16 → lnE (onL j P) (l4 m j) = 0) : badL P m = none := by
  unfold badL
  rw [List.find?_eq_none]
  intro k hk
  simp [h k (by simpa using hk)]
theorem badL_all {P : List Cp} {m : List Int} (h : badL P m = none) : ∀ j, j < 16 → lnE (onL j P) (l4 m j) = 0 := by
  unfold badL at h
  rw [List.find?_eq_none] at h
  intro j hj
  have := h j (by simpa using hj)
  simpa using this
theorem badL_ne {P : List Cp} {m : List Int} {k : Nat} (h : badL P m = some k) : lnE (onL k P) (l4 m k) ≠ 0 := by
  unfold badL at h
  have := List.find?_some h
  simpa using this
theorem cohE_ok {n s y b : Int} {css : List (List St)} {m : List Int} (h : cohE n s y b css m = 0) : formE n s y b css = 0 ∧ ∀ j, j < 16 → lnE (onL j (copN css css.length)) (l4 m j) = 0 := by
  unfold cohE at h
  by_cases h1 : formE n s y b css ≠ 0
  · rw [if_pos h1] at h; exact absurd h h1
  · rw [if_neg h1] at h
    refine ⟨by simpa using h1, ?_⟩
    cases e : badL (copN css css.length) m with
    | none => exact badL_all e
    | some k => rw [e] at h; exact absurd h (badL_ne e)

/-- A line out of a memory's value. -/
theorem index_mem (m : List Int) (hm : m.length = 64) (k : Nat) (hk : k < 16) (w : World) : (Instr.index 77 (memV m) (.int .i64 k)).run Try.prog w = .ok (lineAt m k) w := by
  have hx : (memA m).extract (k * 4) (k * 4 + 4) = #[.int .u64 (wd m (k * 4)), .int .u64 (wd m (k * 4 + 1)), .int .u64 (wd m (k * 4 + 2)), .int .u64 (wd m (k * 4 + 3))] := by
    refine Array.ext_getElem? fun i => ?_
    rw [Array.getElem?_extract]
    match i with
    | 0 => rw [if_pos (by rw [memA_size]; omega), memA_at _ (by omega)]; simp
    | 1 => rw [if_pos (by rw [memA_size]; omega), memA_at _ (by omega)]; simp
    | 2 => rw [if_pos (by rw [memA_size]; omega), memA_at _ (by omega)]; simp
    | 3 => rw [if_pos (by rw [memA_size]; omega), memA_at _ (by omega)]; simp
    | i + 4 => rw [if_neg (by omega)]; simp
  have hu : (underlying 77).run Try.prog w = .ok (.array 16 30) w := by kernel_rfl
  have hs : (sizeOf 30).run Try.prog w = .ok 4 w := by kernel_rfl
  have h1 : (0 : Int) ≤ k ∧ (k : Int) < (16 : Nat) := by omega
  simp [Instr.index, asIntOf, Sem.run_bind, hu, hs, part, h1, hx]
  omega

set_option maxHeartbeats 1000000 in
theorem coherent_form (n s y b : Int) (v : Value) (m : List Int) (css : List (List St)) (w : World) (h : Ks w v css) (hm : m.length = 64) (he : formE n s y b css ≠ 0) :
    Calls Try.prog 67 #[cfg n s y b, wldV v m] w fun e w' => e = .returned (.tuple #[.agg nil16, .int .i64 (formE n s y b css), .int .i64 0]) ∧ Below w.heap.size w w' := by
  have F := Lib.hid fun w hw => collect_bad n s y b v m css w hw hm he
  generalize formE n s y b css = E at F he ⊢
  have he' : (E != 0) = true := by simpa using he
  clear he
  have low := Below.refl w.heap.size w
  have cb := boxNext low 44 (cfgA n s y b)
  replace low := gAlloc low (.cells (cfgA n s y b) 44)
  replace h := h.alloc (.cells (cfgA n s y b) 44)
  try simp only [World.size_alloc] at cb
  have wb := boxNext low 79 (wldA v m)
  replace low := gAlloc low (.cells (wldA v m) 79)
  replace cb := cb.alloc (.cells (wldA v m) 79)
  replace h := h.alloc (.cells (wldA v m) 79)
  try simp only [World.size_alloc] at wb
  have ob := boxNext low 112 nil16
  replace low := gAlloc low (.cells nil16 112)
  replace cb := cb.alloc (.cells nil16 112)
  replace wb := wb.alloc (.cells nil16 112)
  replace h := h.alloc (.cells nil16 112)
  try simp only [World.size_alloc] at ob
  have wr := wb.range
  go_enter Try.func67, Try.ntmps67
  go_wp2_with (first | (with_reducible refine wp_newW (tyCopies) ?_) | ((with_reducible refine wp_loadW (tyWorld) (wr) (wld_size hm) ?_ ?_ ?_); rfl; rfl))
  (with_reducible refine (F.out _ h).mono ?_); rintro e w1 ⟨rfl, hb⟩
  replace ob := ob.call hb
  replace low := gCall low hb
  clear hb cb wb wr
  have z1 := ob.lt
  have hb := boxNext low 112 nil16
  replace low := gAlloc low (.cells nil16 112)
  replace ob := ob.alloc (.cells nil16 112)
  try simp only [World.size_alloc] at hb
  go_wp2_with (first | (with_reducible refine wp_newW (tyCopies) ?_) | ((with_reducible refine wp_freshW (tyCopies) (rfl) (rfl) (nil16_one) ?_ ?_ ?_); rfl; rfl) | (with_reducible refine wp_zeroW (tyCopies) ?_) | ((with_reducible refine wp_storeW (tyCopies) (ob) (rfl) (rfl) (nil16_one) ?_ ?_ ?_); rfl; rfl))
  intro w2 ob2 st
  replace low := st.low low (by omega)
  clear ob st
  go_wp2_with fail
  refine bodyPost_ret (v := .tuple #[.agg nil16, .int .i64 E, .int .i64 0]) (results_first3 tyCopies Try.results67 rfl rfl rfl ob2 rfl) rfl ⟨rfl, low⟩

/-- The slices of copies, for a reader. -/
structure Hds (w : World) (us : List Value) (P : List Cp) : Prop where
  len : us.length = 16
  cps : ∀ (k : Nat) u, us[k]? = some u → Cps w u (onL k P)
theorem Hds.call {w w' : World} {us : List Value} {P : List Cp} (h : Hds w us P) (hb : Below w.heap.size w w') : Hds w' us P := ⟨h.len, fun k u hu => (h.cps k u hu).call hb⟩
theorem Hds.alloc {w : World} {us : List Value} {P : List Cp} (h : Hds w us P) (o : Obj) : Hds (w.alloc o) us P := h.call (gAlloc (Below.refl _ _) o)
theorem Hds.drew {w : World} {us : List Value} {P : List Cp} (h : Hds w us P) : Hds w.drew us P := h.call (Below.refl _ _).drew
theorem Hds.one {w : World} {us : List Value} {P : List Cp} (h : Hds w us P) : us.toArray.all (·.oneCell') = true := all_oneCell_toArray fun v hv => by
  obtain ⟨k, hk, e⟩ := List.getElem_of_mem hv
  obtain ⟨_, A, c, rfl, _⟩ := h.cps k v (by rw [List.getElem?_eq_getElem hk, e])
  rfl
theorem Hds.size {w : World} {us : List Value} {P : List Cp} (h : Hds w us P) : us.toArray.size = nil16.size := by rw [List.size_toArray, h.len, nil16_size]
theorem Held.hds {w : World} {base : Nat} {us : List Value} {P : List Cp} (h : Held w base us P) : Hds w us P := ⟨h.len, fun _ _ hu => h.cps hu⟩

/-- What coherent gives where the structure is right. -/
def CohIs (w : World) (P : List Cp) (m : List Int) (e : Ending) : Prop :=
  (∃ k : Nat, k < 16 ∧ (∀ j, j < k → lnE (onL j P) (l4 m j) = 0) ∧ lnE (onL k P) (l4 m k) ≠ 0 ∧ e = .returned (.tuple #[.agg nil16, .int .i64 (lnE (onL k P) (l4 m k)), .int .i64 k])) ∨
  ((∀ j, j < 16 → lnE (onL j P) (l4 m j) = 0) ∧ ∃ us, e = .returned (.tuple #[.agg us.toArray, .int .i64 0, .int .i64 0]) ∧ Hds w us P)

set_option maxRecDepth 10000 in
set_option maxHeartbeats 4000000 in
theorem coherent_is (n s y b : Int) (v : Value) (m : List Int) (css : List (List St)) (w : World) (h : Ks w v css) (hm : m.length = 64) (he : formE n s y b css = 0) :
    Calls Try.prog 67 #[cfg n s y b, wldV v m] w fun e w' => CohIs w' (copN css css.length) m e ∧ Below w.heap.size w w' := by
  have F := Lib.hid fun w hw => collect_ok n s y b v m css w hw hm he
  generalize copN css css.length = P at F ⊢
  have low := Below.refl w.heap.size w
  have cb := boxNext low 44 (cfgA n s y b)
  replace low := gAlloc low (.cells (cfgA n s y b) 44)
  replace h := h.alloc (.cells (cfgA n s y b) 44)
  try simp only [World.size_alloc] at cb
  have wb := boxNext low 79 (wldA v m)
  replace low := gAlloc low (.cells (wldA v m) 79)
  replace cb := cb.alloc (.cells (wldA v m) 79)
  replace h := h.alloc (.cells (wldA v m) 79)
  try simp only [World.size_alloc] at wb
  have ob := boxNext low 112 nil16
  replace low := gAlloc low (.cells nil16 112)
  replace cb := cb.alloc (.cells nil16 112)
  replace wb := wb.alloc (.cells nil16 112)
  replace h := h.alloc (.cells nil16 112)
  try simp only [World.size_alloc] at ob
  have wr := wb.range
  go_enter Try.func67, Try.ntmps67
  go_wp2_with (first | (with_reducible refine wp_newW (tyCopies) ?_) | ((with_reducible refine wp_loadW (tyWorld) (wr) (wld_size hm) ?_ ?_ ?_); rfl; rfl))
  (with_reducible refine (F.out _ h).mono ?_); rintro e w1 ⟨⟨us, rfl, hld⟩, hb⟩
  replace ob := ob.call hb
  replace wb := wb.call hb
  replace low := gCall low hb
  clear hb cb wr F
  have z1 := ob.lt
  have u16 : us.toArray.size = nil16.size := by rw [List.size_toArray, hld.len, nil16_size]
  have one := us_one hld
  replace hld := hld.alloc (.cells us.toArray 112)
  have hb := boxNext low 112 us.toArray
  replace low := gAlloc low (.cells us.toArray 112)
  replace ob := ob.alloc (.cells us.toArray 112)
  replace wb := wb.alloc (.cells us.toArray 112)
  try simp only [World.size_alloc] at hb
  have HLD := Lib.hid hld
  have wm := wld_mem wb
  clear hld
  go_wp2_with (first | (with_reducible refine wp_newW (tyCopies) ?_) | ((with_reducible refine wp_freshW (tyCopies) (rfl) (u16) (one) ?_ ?_ ?_); rfl; rfl) | ((with_reducible refine wp_loadW (tyMem) (wm) (mem_zsize hm) ?_ ?_ ?_); rfl; rfl))
  generalize (((w.alloc (.cells (cfgA n s y b) 44)).alloc (.cells (wldA v m) 79)).alloc (.cells nil16 112)).heap.size = base at HLD
  go_loopw [24] (fun i wr => ∃ k : Nat, k ≤ 16 ∧ i = .int .i64 k ∧ Hid (∀ j, j < k → lnE (onL j P) (l4 m j) = 0) ∧ Hid (Held wr base us P) ∧ Box wr w1.heap.size 112 us.toArray ∧ Box wr (w.heap.size + 1 + 1) 112 nil16 ∧ Below w.heap.size w wr) (fun i _ => 16 - (intOf i).toNat)
  case atStart => exact ⟨0, by omega, rfl, Lib.hid fun j hj => absurd hj (by omega), HLD, hb, ob, low⟩
  case round =>
    clear h wb hb ob low HLD wm
    obtain ⟨k, hk, rfl, hno, HLD, hb, ob, low⟩ := hrel
    by_cases hlt : k < 16
    · have ix := fun w => index_mem m hm k hlt w
      have k0 : (0 : Int) ≤ k := by omega
      have k1 : (k : Int) < 16 := by omega
      have hu : us[k]? = some (us[k]'(by have := HLD.out.len; omega)) := List.getElem?_eq_getElem _
      generalize us[k]'(by have := HLD.out.len; omega) = u at hu
      have cps := HLD.out.cps hu
      have hcu : us.toArray[k]? = some u := by rw [List.getElem?_toArray]; exact hu
      obtain ⟨A, c, rfl⟩ : ∃ A c, u = .slice A (onL k P).length c := by obtain ⟨_, A, c, e, _⟩ := cps; exact ⟨A, c, e⟩
      have CK := Lib.hid fun w hw => checkLine_any (.slice A (onL k P).length c) (onL k P) (l4 m k) w hw
      have HF := Lib.hid (show lnE (onL k P) (l4 m k) = lnE (onL k P) (l4 m k) from rfl)
      generalize hf : lnE (onL k P) (l4 m k) = f at CK
      replace HF := Lib.hid hf
      clear hf hu
      simp only [l4] at CK
      replace HLD := Lib.hid (HLD.out.alloc (.cells #[.int .u64 (wd m (k * 4)), .int .u64 (wd m (k * 4 + 1)), .int .u64 (wd m (k * 4 + 2)), .int .u64 (wd m (k * 4 + 3))] 30))
      replace cps := cps.alloc (.cells #[.int .u64 (wd m (k * 4)), .int .u64 (wd m (k * 4 + 1)), .int .u64 (wd m (k * 4 + 2)), .int .u64 (wd m (k * 4 + 3))] 30)
      have lb := boxNext low 30 #[.int .u64 (wd m (k * 4)), .int .u64 (wd m (k * 4 + 1)), .int .u64 (wd m (k * 4 + 2)), .int .u64 (wd m (k * 4 + 3))]
      replace low := gAlloc low (.cells #[.int .u64 (wd m (k * 4)), .int .u64 (wd m (k * 4 + 1)), .int .u64 (wd m (k * 4 + 2)), .int .u64 (wd m (k * 4 + 3))] 30)
      replace hb := hb.alloc (.cells #[.int .u64 (wd m (k * 4)), .int .u64 (wd m (k * 4 + 1)), .int .u64 (wd m (k * 4 + 2)), .int .u64 (wd m (k * 4 + 3))] 30)
      replace ob := ob.alloc (.cells #[.int .u64 (wd m (k * 4)), .int .u64 (wd m (k * 4 + 1)), .int .u64 (wd m (k * 4 + 2)), .int .u64 (wd m (k * 4 + 3))] 30)
      try simp only [World.size_alloc] at lb
      have hc0 := hb.at_ k hcu
      have l0 := lb.at_ 0 rfl
      have l1 := lb.at_ 1 rfl
      have l2 := lb.at_ 2 rfl
      have l3 := lb.at_ 3 rfl
      go_wp2_with fail
      refine wp_region_noPanic ?_
      refine wp_region_held_drew (S := fun w' => w'.cell? ⟨w1.heap.size, k, none⟩ = some (.slice A (onL k P).length c) ∧ w'.cell? ⟨wr.heap.size, 0, none⟩ = some (.int .u64 (wd m (k * 4))) ∧ w'.cell? ⟨wr.heap.size, 1, none⟩ = some (.int .u64 (wd m (k * 4 + 1))) ∧ w'.cell? ⟨wr.heap.size, 2, none⟩ = some (.int .u64 (wd m (k * 4 + 2))) ∧ w'.cell? ⟨wr.heap.size, 3, none⟩ = some (.int .u64 (wd m (k * 4 + 3)))) (by kernel_rfl) ⟨drewC hc0, drewC l0, drewC l1, drewC l2, drewC l3⟩ (fun hHeld => ?_)
      clear hc0 l0 l1 l2 l3 lb
      refine takeFirst (i := 0) (v := ?_) rfl (by kernel_rfl) (by kernel_rfl) (by kernel_rfl) (by rfl) (fun _ _ _ h => h) ?_ (by assumption) ?_
      rotate_left
      · (intro w hSw; go_simp; try (with_reducible rfl))
      try simp only [Act.put, List.setIfInBounds_toArray, List.set_cons_zero, List.set_cons_succ]
      refine takeFirst (i := 1) (v := ?_) rfl (by kernel_rfl) (by kernel_rfl) (by kernel_rfl) (by rfl) (fun _ _ _ h => h) ?_ (by assumption) ?_
      rotate_left
      · (intro w hSw; go_simp; try (with_reducible rfl))
      try simp only [Act.put, List.setIfInBounds_toArray, List.set_cons_zero, List.set_cons_succ]
      refine takeFirst (i := 2) (v := ?_) rfl (by kernel_rfl) (by kernel_rfl) (by kernel_rfl) (by rfl) (fun _ _ _ h => h) ?_ (by assumption) ?_
      rotate_left
      · (intro w hSw; go_simp; try (with_reducible rfl))
      try simp only [Act.put, List.setIfInBounds_toArray, List.set_cons_zero, List.set_cons_succ]
      refine takeFirst (i := 3) (v := ?_) rfl (by kernel_rfl) (by kernel_rfl) (by kernel_rfl) (by rfl) (fun _ _ _ h => h) ?_ (by assumption) ?_
      rotate_left
      · (intro w hSw; go_simp; try (with_reducible rfl))
      try simp only [Act.put, List.setIfInBounds_toArray, List.set_cons_zero, List.set_cons_succ]
      refine stepNext (i := 4) (by kernel_rfl) rfl (by rfl) (fun K hK => ?_)
      go_simp
      (with_reducible refine (CK.out _ cps.drew).mono ?_); rintro e w4 ⟨rfl, hb4⟩
      replace hb := hb.drew.call hb4
      replace ob := ob.drew.call hb4
      replace HLD := Lib.hid (HLD.out.drew.call hb4)
      replace low := gCall low.drew hb4
      obtain ⟨hh0, hh1, hh2, hh3, hh4⟩ := hHeld
      have hHeld := (And.intro (callC hb4 hh0) (And.intro (callC hb4 hh1) (And.intro (callC hb4 hh2) (And.intro (callC hb4 hh3) (callC hb4 hh4)))))
      clear hh0 hh1 hh2 hh3 hh4
      clear hb4 cps CK
      refine hK.out _ _ hHeld ?_
      clear hK K
      try simp only [Act.put]
      try simp only [List.setIfInBounds_toArray, List.set_cons_zero, List.set_cons_succ]
      refine takeFirst (i := 5) (v := ?_) rfl (by kernel_rfl) (by kernel_rfl) (by kernel_rfl) (by rfl) (fun _ _ _ h => h) ?_ (by assumption) ?_
      rotate_left
      · (intro w hSw; go_simp; try (with_reducible rfl))
      try simp only [Act.put, List.setIfInBounds_toArray, List.set_cons_zero, List.set_cons_succ]
      clear hHeld
      refine wpAnyH_done (by kernel_rfl) ?_ _
      refine NoPanic.normal ?_
      cases hf : (f != 0)
      · obtain rfl : f = 0 := by simpa using hf
        clear hf
        go_wp2_with fail
        go_roundw
        case rel => exact ⟨k + 1, by omega, by go_num, Lib.hid fun j hj => by
          by_cases e : j < k
          · exact hno.out j e
          · obtain rfl : j = k := by omega
            exact HF.out, HLD, hb, ob, low⟩
        case measure => simp [intOf]; omega
      · have fne : f ≠ 0 := by simpa using hf
        have zb := ob.lt
        go_wp2_with (first | (with_reducible refine wp_zeroW (tyCopies) ?_) | ((with_reducible refine wp_storeW (tyCopies) (ob) (rfl) (rfl) (nil16_one) ?_ ?_ ?_); rfl; rfl))
        intro w5 ob5 st
        replace low := st.low low (by omega)
        clear st
        go_wp2_with fail
        exact bodyPost_ret (v := .tuple #[.agg nil16, .int .i64 f, .int .i64 k]) (results_first3 tyCopies Try.results67 rfl rfl rfl ob5 rfl) rfl ⟨.inl ⟨k, hlt, hno.out, by rw [HF.out]; exact fne, by rw [HF.out]⟩, low⟩
    · obtain rfl : k = 16 := by omega
      have hbr := hb.range
      go_wp2_with (first | ((with_reducible refine wp_loadW (tyCopies) (hbr) (u16) ?_ ?_ ?_); rfl; rfl) | ((with_reducible refine wp_storeW (tyCopies) (ob) (rfl) (u16) (one) ?_ ?_ ?_); rfl; rfl))
      intro w3 ob3 st
      have HL3 := Lib.hid (HLD.out.stored ob (by decide) st)
      replace low := st.low low (by omega)
      clear ob st hb HLD hbr
      go_wp2_with fail
      exact bodyPost_ret (v := .tuple #[.agg us.toArray, .int .i64 0, .int .i64 0]) (results_first3 tyCopies Try.results67 rfl rfl rfl ob3 u16) rfl ⟨.inr ⟨hno.out, us, rfl, HL3.out.hds⟩, low⟩

theorem coherent_bad (n s y b : Int) (v : Value) (m : List Int) (css : List (List St)) (w : World) (h : Ks w v css) (hm : m.length = 64) (he : cohE n s y b css m ≠ 0) :
    Calls Try.prog 67 #[cfg n s y b, wldV v m] w fun e w' => e = .returned (.tuple #[.agg nil16, .int .i64 (cohE n s y b css m), .int .i64 (cohL n s y b css m)]) ∧ Below w.heap.size w w' := by
  by_cases hf : formE n s y b css ≠ 0
  · have := coherent_form n s y b v m css w h hm hf
    unfold cohE cohL
    rwa [if_pos hf, if_pos hf]
  · refine (coherent_is n s y b v m css w h hm (by simpa using hf)).mono ?_
    rintro e w' ⟨hc, hb⟩
    refine ⟨?_, hb⟩
    unfold cohE cohL at *
    rw [if_neg hf] at *
    rw [if_neg hf]
    rcases hc with ⟨k, hk, h0, h1, rfl⟩ | ⟨h0, us, rfl, _⟩
    · rw [badL_some hk h0 h1]
    · rw [badL_none h0] at he
      exact absurd rfl he

theorem coherent_ok (n s y b : Int) (v : Value) (m : List Int) (css : List (List St)) (w : World) (h : Ks w v css) (hm : m.length = 64) (he : cohE n s y b css m = 0) :
    Calls Try.prog 67 #[cfg n s y b, wldV v m] w fun e w' => (∃ us, e = .returned (.tuple #[.agg us.toArray, .int .i64 0, .int .i64 0]) ∧ Hds w' us (copN css css.length)) ∧ Below w.heap.size w w' := by
  obtain ⟨h1, h2⟩ := cohE_ok he
  refine (coherent_is n s y b v m css w h hm h1).mono ?_
  rintro e w' ⟨hc, hb⟩
  refine ⟨?_, hb⟩
  rcases hc with ⟨k, hk, _, h3, _⟩ | ⟨_, us, e, h3⟩
  · exact absurd (h2 k hk) h3
  · exact ⟨us, e, h3⟩
end Go.Proofs.Ytmodajmjmdigfaa
