/-
Proved: what New of package agree returns for every configuration; the closed fact that the statements on worlds ask for first. No condition.
-/
import Derived.Test.YtmodajmjmdigfaaWorlds
import Derived.Test.YtmodajmjmdigfaaCaches
namespace Go.Proofs.Ytmodajmjmdigfaa
open Go.ChangeShapes Go.WideShapes Go.ChangeAt Go.RowKit Go.Joins

abbrev nilW : Array Value := wldA (.slice none 0 0) zeroL
theorem info_cache : (Try.prog.info? 46).map (fun i => (i.zero, i.size, i.bytes)) = some (some (.slice none 0 0), 1, 24) := by kernel_rfl
def nilsA (n : Nat) : Array Value := (List.replicate n (Value.slice none 0 0)).toArray
theorem make_caches (n : Nat) (hn : n ≤ 8) (w : World) : (Instr.makeSlice 75 (.int .i64 n) (.int .i64 n)).run Try.prog w = .ok (.slice (some ⟨w.heap.size, 0, none⟩) n n) (w.alloc (.cells (nilsA n) 46)) := by
  obtain ⟨i0, hi, hz0, hz1, hz2⟩ := info_parts info_cache
  have := run_make w 75 46 i0 (.slice none 0 0) Try.underlying75 hi hz0 .i64 .i64 n n (by omega) (Int.le_refl _) (by rw [hz2]; omega) (by omega)
  rw [this, hz1]
  have e : madeCells (Value.slice none 0 0).cells n = nilsA n := by
    unfold nilsA
    refine Array.ext (by rw [size_madeCells, List.size_toArray, List.length_replicate]) fun i h1 h2 => ?_
    simp [madeCells, Value.cells, Nat.mod_one]
  simp [e]
theorem build_world (g n : Nat) (w : World) : (Instr.build 79 #[(0, .slice (some ⟨g, 0, none⟩) n n), (1, memV zeroL)]).run Try.prog w = .ok (wldV (.slice (some ⟨g, 0, none⟩) n n) zeroL) w := by kernel_rfl

theorem exec_buildW {ρ : Operand → Value} {dst : Option Tmp} {t : TypeId} {pos : String} {after : Array Edge} {gd : Option (Nat × Bool)} {x y : Operand} {g n : Nat} {w : World} (hx : ρ x = .slice (some ⟨g, 0, none⟩) n n) (hy : ρ y = memV zeroL) :
    (execOp ρ ⟨dst, .build 79 #[(0, x), (1, y)], t, pos, after, gd⟩).run Try.prog w = .ok (.value (wldV (.slice (some ⟨g, 0, none⟩) n n) zeroL)) w := by
  unfold execOp
  simp only [List.map_toArray, List.map_cons, List.map_nil, hx, hy, Sem.run_bind, build_world, Result.andThen_ok, Sem.run_pure]

/-- A new variable, as an operation. -/
theorem op_newW {T : TypeId} {z : Array Value} (ty : Ty T z) {dst : Option Tmp} {t : TypeId} {pos : String} {after : Array Edge} {gd : Option (Nat × Bool)} {a : Act} {w : World} {K : Act → World → Prop} {Q : Exit → Act → World → Prop}
    (h : K (a.put dst (.pointer (some ⟨w.heap.size, 0, none⟩))) (w.alloc (.cells z T))) : Oper.wp Try.prog ⟨dst, .alloc T, t, pos, after, gd⟩ a w K Q := by
  unfold Oper.wp execOp
  simp only [Instr.alloc, Sem.run_bind, (zero_of_info ty.info).1, newVar, newRow, run_newObj_alloc, Sem.run_pure, Result.andThen_ok]
  exact h

/-- Between a region's first world and world 'w' two new variables have come up. -/
structure Two (w0 : World) (ta : TypeId) (ca : Array Value) (tb : TypeId) (cb : Array Value) (w : World) (pa pb : Option Nat) : Prop where
  low : Below w0.heap.size w0 w
  fa : ∀ g, pa = some g → w0.heap.size ≤ g ∧ Box w g ta ca
  fb : ∀ g, pb = some g → w0.heap.size ≤ g ∧ Box w g tb cb
  ne : ∀ g g', pa = some g → pb = some g' → g ≠ g'
section
variable {w0 w w' : World} {ta tb : TypeId} {ca cb : Array Value} {pa pb : Option Nat}
theorem Two.start (w : World) (ta : TypeId) (ca : Array Value) (tb : TypeId) (cb : Array Value) : Two w ta ca tb cb w none none :=
  ⟨Below.refl _ _, fun _ h => (by cases h), fun _ h => (by cases h), fun _ _ h => (by cases h)⟩
theorem Two.allocA (h : Two w0 ta ca tb cb w none pb) : Two w0 ta ca tb cb (w.alloc (.cells ca ta)) (some w.heap.size) pb := by
  have hs := h.low.size
  refine ⟨gAlloc h.low _, fun g e => ?_, fun g e => ?_, fun g g' e e' => ?_⟩
  · cases e; exact ⟨hs, Box.new w ta ca⟩
  · obtain ⟨h1, h2⟩ := h.fb g e; exact ⟨h1, h2.alloc _⟩
  · cases e; have := (h.fb g' e').2.lt; omega
theorem Two.allocB (h : Two w0 ta ca tb cb w pa none) : Two w0 ta ca tb cb (w.alloc (.cells cb tb)) pa (some w.heap.size) := by
  have hs := h.low.size
  refine ⟨gAlloc h.low _, fun g e => ?_, fun g e => ?_, fun g g' e e' => ?_⟩
  · obtain ⟨h1, h2⟩ := h.fa g e; exact ⟨h1, h2.alloc _⟩
  · cases e; exact ⟨hs, Box.new w tb cb⟩
  · cases e'; have := (h.fa g e).2.lt; omega
theorem Two.call (h : Two w0 ta ca tb cb w pa pb) (hb : Below w.heap.size w w') : Two w0 ta ca tb cb w' pa pb := by
  refine ⟨gCall h.low hb, fun g e => ?_, fun g e => ?_, h.ne⟩
  · obtain ⟨h1, h2⟩ := h.fa g e; exact ⟨h1, h2.call hb⟩
  · obtain ⟨h1, h2⟩ := h.fb g e; exact ⟨h1, h2.call hb⟩
end
/-- Cache j has been made. -/
def Made (w : World) (ga p q : Nat) (us : List Value) (j : Nat) : Prop := ∃ A c, us[j]? = some (.slice A p c) ∧ ∃ B C, ga < B ∧ CFr w B C (.slice A p c) (emptyC p q)
theorem Made.call {w w' : World} {ga p q : Nat} {us : List Value} {j : Nat} (h : Made w ga p q us j) (hb : Below w.heap.size w w') : Made w' ga p q us j := by
  obtain ⟨A, c, h1, B, C, h2, h3⟩ := h
  exact ⟨A, c, h1, B, C, h2, h3.call hb⟩
theorem Made.next {w w' : World} {ga p q : Nat} {us : List Value} {k : Nat} (h : ∀ j, j < k → Made w ga p q us j) (hk : k < us.length) {A : Option Addr} {c B C : Nat} (hB : ga < B) (cf : CFr w B C (.slice A p c) (emptyC p q)) (st : Stored w ga w') : ∀ j, j < k + 1 → Made w' ga p q (us.set k (.slice A p c)) j := by
  intro j hj
  by_cases e : j = k
  · subst e
    exact ⟨A, c, List.getElem?_set_self hk, B, C, hB, cf.out st (.inl hB)⟩
  · obtain ⟨A', c', h1, B', C', h2, h3⟩ := h j (by omega)
    exact ⟨A', c', by rw [List.getElem?_set_ne (fun h => e h.symm)]; exact h1, B', C', h2, h3.out st (.inl h2)⟩
/-- What follows is shown once, for all orders. -/
theorem shareTwo {M Φ : Nat → Nat → World → Prop} {G : Prop} (tree : (∀ ga gb w, M ga gb w → Φ ga gb w) → G) (last : ∀ ga gb w, M ga gb w → Φ ga gb w) : G := tree last


set_option maxRecDepth 10000 in
set_option maxHeartbeats 2000000 in
theorem new_ok (N p q : Nat) (b : Int) (w : World) (he : cfgB N p q b = true) :
    Calls Try.prog 66 #[cfg N p q b] w fun e w' => (∃ A c, e = .returned (.tuple #[wldV (.slice A N c) zeroL, .int .i64 0]) ∧ Ks w' (.slice A N c) (List.replicate N (emptyC p q))) ∧ Below w.heap.size w w' := by
  have C := Lib.hid fun w => check_ok N p q b w he
  have CN := Lib.hid fun w => cacheNew_ok N b p q w he
  have n8 : N ≤ 8 := by have := cfgB_iff.1 he; omega
  clear he
  have low := Below.refl w.heap.size w
  have cb := boxNext low 44 (cfgA N p q b)
  replace low := gAlloc low (.cells (cfgA N p q b) 44)
  try simp only [World.size_alloc] at cb
  have ob := boxNext low 79 nilW
  replace low := gAlloc low (.cells nilW 79)
  replace cb := cb.alloc (.cells nilW 79)
  try simp only [World.size_alloc] at ob
  go_enter Try.func66, Try.ntmps66
  go_wp2_with (first | (with_reducible refine wp_newW (tyWorld) ?_))
  (with_reducible refine (C.out _).mono ?_); rintro e w1 ⟨rfl, hb⟩
  replace cb := cb.call hb
  replace ob := ob.call hb
  replace low := gCall low hb
  clear hb C
  have c0 : w1.cell? ⟨w.heap.size, 0, none⟩ = some (.int .i64 N) := cb.at_ 0 rfl
  have MS := fun w => make_caches N n8 w
  go_wp2_with fail
  refine wp_region_noPanic ?_
  refine wp_region_held_drew (S := fun w' => w'.cell? ⟨w.heap.size, 0, none⟩ = some (.int .i64 N)) (by kernel_rfl) (drewC c0) (fun hHeld => ?_)
  clear c0
  refine takeFirst (i := 0) (v := ?_) rfl (by kernel_rfl) (by kernel_rfl) (by kernel_rfl) (by rfl) (fun _ _ _ h => h) ?_ (by assumption) ?_
  rotate_left
  · (intro w hSw; go_simp; try (with_reducible rfl))
  try simp only [Act.put, List.setIfInBounds_toArray, List.set_cons_zero, List.set_cons_succ]
  refine takeFirst (i := 1) (v := ?_) rfl (by kernel_rfl) (by kernel_rfl) (by kernel_rfl) (by rfl) (fun _ _ _ h => h) ?_ (by assumption) ?_
  rotate_left
  · (intro w hSw; go_simp; try (with_reducible rfl))
  try simp only [Act.put, List.setIfInBounds_toArray, List.set_cons_zero, List.set_cons_succ]
  replace cb := cb.drew
  replace ob := ob.drew
  replace low := low.drew
  generalize w1.drew = wN at *
  apply shareTwo (M := fun ga gb wz => Two wN 46 (nilsA N) 79 nilW wz (some ga) (some gb))
  · intro hE
    have mid := Two.start wN 46 (nilsA N) 79 nilW
    refine stepThree (i1 := 2) (i2 := 3) (i3 := 5) (by kernel_rfl) rfl rfl rfl (by rfl) (by rfl) (by rfl) (fun K hK => ?_) (fun K hK => ?_) (fun K hK => ?_)
    · go_simp
      replace mid := mid.allocA
      try clear hNow
      have hNow := (callC mid.low hHeld)
      refine hK.out _ _ hNow ?_
      clear hK K
      try simp only [Act.put]
      try simp only [List.setIfInBounds_toArray, List.set_cons_zero, List.set_cons_succ]
      generalize wN.heap.size = ga at mid ⊢
      generalize wN.alloc (.cells (nilsA N) 46) = wx at mid hNow ⊢
      refine stepTwo (i1 := 3) (i2 := 5) (by kernel_rfl) rfl rfl (by rfl) (by rfl) (fun K hK => ?_) (fun K hK => ?_)
      · go_simp
        (with_reducible refine (Calls.mono (bankNew_any _) ?_)); rintro e wy ⟨rfl, hbz⟩
        replace mid := mid.call hbz
        clear hbz
        try clear hNow
        have hNow := (callC mid.low hHeld)
        refine hK.out _ _ hNow ?_
        clear hK K
        try simp only [Act.put]
        try simp only [List.setIfInBounds_toArray, List.set_cons_zero, List.set_cons_succ]
        refine takeFirst (i := 4) (v := wldV (.slice (some ⟨ga, 0, none⟩) N N) zeroL) rfl (by kernel_rfl) (by kernel_rfl) (by kernel_rfl) (by rfl) (fun _ _ _ h => h) (fun _ _ => exec_buildW rfl rfl) (by assumption) ?_
        try simp only [Act.put, List.setIfInBounds_toArray, List.set_cons_zero, List.set_cons_succ]
        refine stepNext (i := 5) (by kernel_rfl) rfl (by rfl) (fun K hK => ?_)
        refine op_newW tyWorld ?_
        replace mid := mid.allocB
        try clear hNow
        have hNow := (callC mid.low hHeld)
        refine hK.out _ _ hNow ?_
        clear hK K
        try simp only [Act.put]
        try simp only [List.setIfInBounds_toArray, List.set_cons_zero, List.set_cons_succ]
        generalize wy.heap.size = gb at mid ⊢
        generalize wy.alloc (.cells nilW 79) = wz at mid hNow ⊢
        refine relist (l2 := #[true, true, true, true, true, true, false]) (by kernel_rfl) ?_
        exact hE _ _ _ mid
      · refine op_newW tyWorld ?_
        replace mid := mid.allocB
        try clear hNow
        have hNow := (callC mid.low hHeld)
        refine hK.out _ _ hNow ?_
        clear hK K
        try simp only [Act.put]
        try simp only [List.setIfInBounds_toArray, List.set_cons_zero, List.set_cons_succ]
        generalize wx.heap.size = gb at mid ⊢
        generalize wx.alloc (.cells nilW 79) = wy at mid hNow ⊢
        refine stepNext (i := 3) (by kernel_rfl) rfl (by rfl) (fun K hK => ?_)
        go_simp
        (with_reducible refine (Calls.mono (bankNew_any _) ?_)); rintro e wz ⟨rfl, hbz⟩
        replace mid := mid.call hbz
        clear hbz
        try clear hNow
        have hNow := (callC mid.low hHeld)
        refine hK.out _ _ hNow ?_
        clear hK K
        try simp only [Act.put]
        try simp only [List.setIfInBounds_toArray, List.set_cons_zero, List.set_cons_succ]
        refine takeFirst (i := 4) (v := wldV (.slice (some ⟨ga, 0, none⟩) N N) zeroL) rfl (by kernel_rfl) (by kernel_rfl) (by kernel_rfl) (by rfl) (fun _ _ _ h => h) (fun _ _ => exec_buildW rfl rfl) (by assumption) ?_
        try simp only [Act.put, List.setIfInBounds_toArray, List.set_cons_zero, List.set_cons_succ]
        refine relist (l2 := #[true, true, true, true, true, true, false]) (by kernel_rfl) ?_
        exact hE _ _ _ mid
    · go_simp
      (with_reducible refine (Calls.mono (bankNew_any _) ?_)); rintro e wx ⟨rfl, hbz⟩
      replace mid := mid.call hbz
      clear hbz
      try clear hNow
      have hNow := (callC mid.low hHeld)
      refine hK.out _ _ hNow ?_
      clear hK K
      try simp only [Act.put]
      try simp only [List.setIfInBounds_toArray, List.set_cons_zero, List.set_cons_succ]
      refine stepTwo (i1 := 2) (i2 := 5) (by kernel_rfl) rfl rfl (by rfl) (by rfl) (fun K hK => ?_) (fun K hK => ?_)
      · go_simp
        replace mid := mid.allocA
        try clear hNow
        have hNow := (callC mid.low hHeld)
        refine hK.out _ _ hNow ?_
        clear hK K
        try simp only [Act.put]
        try simp only [List.setIfInBounds_toArray, List.set_cons_zero, List.set_cons_succ]
        generalize wx.heap.size = ga at mid ⊢
        generalize wx.alloc (.cells (nilsA N) 46) = wy at mid hNow ⊢
        refine takeFirst (i := 4) (v := wldV (.slice (some ⟨ga, 0, none⟩) N N) zeroL) rfl (by kernel_rfl) (by kernel_rfl) (by kernel_rfl) (by rfl) (fun _ _ _ h => h) (fun _ _ => exec_buildW rfl rfl) (by assumption) ?_
        try simp only [Act.put, List.setIfInBounds_toArray, List.set_cons_zero, List.set_cons_succ]
        refine stepNext (i := 5) (by kernel_rfl) rfl (by rfl) (fun K hK => ?_)
        refine op_newW tyWorld ?_
        replace mid := mid.allocB
        try clear hNow
        have hNow := (callC mid.low hHeld)
        refine hK.out _ _ hNow ?_
        clear hK K
        try simp only [Act.put]
        try simp only [List.setIfInBounds_toArray, List.set_cons_zero, List.set_cons_succ]
        generalize wy.heap.size = gb at mid ⊢
        generalize wy.alloc (.cells nilW 79) = wz at mid hNow ⊢
        refine relist (l2 := #[true, true, true, true, true, true, false]) (by kernel_rfl) ?_
        exact hE _ _ _ mid
      · refine op_newW tyWorld ?_
        replace mid := mid.allocB
        try clear hNow
        have hNow := (callC mid.low hHeld)
        refine hK.out _ _ hNow ?_
        clear hK K
        try simp only [Act.put]
        try simp only [List.setIfInBounds_toArray, List.set_cons_zero, List.set_cons_succ]
        generalize wx.heap.size = gb at mid ⊢
        generalize wx.alloc (.cells nilW 79) = wy at mid hNow ⊢
        refine stepNext (i := 2) (by kernel_rfl) rfl (by rfl) (fun K hK => ?_)
        go_simp
        replace mid := mid.allocA
        try clear hNow
        have hNow := (callC mid.low hHeld)
        refine hK.out _ _ hNow ?_
        clear hK K
        try simp only [Act.put]
        try simp only [List.setIfInBounds_toArray, List.set_cons_zero, List.set_cons_succ]
        generalize wy.heap.size = ga at mid ⊢
        generalize wy.alloc (.cells (nilsA N) 46) = wz at mid hNow ⊢
        refine takeFirst (i := 4) (v := wldV (.slice (some ⟨ga, 0, none⟩) N N) zeroL) rfl (by kernel_rfl) (by kernel_rfl) (by kernel_rfl) (by rfl) (fun _ _ _ h => h) (fun _ _ => exec_buildW rfl rfl) (by assumption) ?_
        try simp only [Act.put, List.setIfInBounds_toArray, List.set_cons_zero, List.set_cons_succ]
        refine relist (l2 := #[true, true, true, true, true, true, false]) (by kernel_rfl) ?_
        exact hE _ _ _ mid
    · refine op_newW tyWorld ?_
      replace mid := mid.allocB
      try clear hNow
      have hNow := (callC mid.low hHeld)
      refine hK.out _ _ hNow ?_
      clear hK K
      try simp only [Act.put]
      try simp only [List.setIfInBounds_toArray, List.set_cons_zero, List.set_cons_succ]
      generalize wN.heap.size = gb at mid ⊢
      generalize wN.alloc (.cells nilW 79) = wx at mid hNow ⊢
      refine stepTwo (i1 := 2) (i2 := 3) (by kernel_rfl) rfl rfl (by rfl) (by rfl) (fun K hK => ?_) (fun K hK => ?_)
      · go_simp
        replace mid := mid.allocA
        try clear hNow
        have hNow := (callC mid.low hHeld)
        refine hK.out _ _ hNow ?_
        clear hK K
        try simp only [Act.put]
        try simp only [List.setIfInBounds_toArray, List.set_cons_zero, List.set_cons_succ]
        generalize wx.heap.size = ga at mid ⊢
        generalize wx.alloc (.cells (nilsA N) 46) = wy at mid hNow ⊢
        refine stepNext (i := 3) (by kernel_rfl) rfl (by rfl) (fun K hK => ?_)
        go_simp
        (with_reducible refine (Calls.mono (bankNew_any _) ?_)); rintro e wz ⟨rfl, hbz⟩
        replace mid := mid.call hbz
        clear hbz
        try clear hNow
        have hNow := (callC mid.low hHeld)
        refine hK.out _ _ hNow ?_
        clear hK K
        try simp only [Act.put]
        try simp only [List.setIfInBounds_toArray, List.set_cons_zero, List.set_cons_succ]
        refine takeFirst (i := 4) (v := wldV (.slice (some ⟨ga, 0, none⟩) N N) zeroL) rfl (by kernel_rfl) (by kernel_rfl) (by kernel_rfl) (by rfl) (fun _ _ _ h => h) (fun _ _ => exec_buildW rfl rfl) (by assumption) ?_
        try simp only [Act.put, List.setIfInBounds_toArray, List.set_cons_zero, List.set_cons_succ]
        refine relist (l2 := #[true, true, true, true, true, true, false]) (by kernel_rfl) ?_
        exact hE _ _ _ mid
      · go_simp
        (with_reducible refine (Calls.mono (bankNew_any _) ?_)); rintro e wy ⟨rfl, hbz⟩
        replace mid := mid.call hbz
        clear hbz
        try clear hNow
        have hNow := (callC mid.low hHeld)
        refine hK.out _ _ hNow ?_
        clear hK K
        try simp only [Act.put]
        try simp only [List.setIfInBounds_toArray, List.set_cons_zero, List.set_cons_succ]
        refine stepNext (i := 2) (by kernel_rfl) rfl (by rfl) (fun K hK => ?_)
        go_simp
        replace mid := mid.allocA
        try clear hNow
        have hNow := (callC mid.low hHeld)
        refine hK.out _ _ hNow ?_
        clear hK K
        try simp only [Act.put]
        try simp only [List.setIfInBounds_toArray, List.set_cons_zero, List.set_cons_succ]
        generalize wy.heap.size = ga at mid ⊢
        generalize wy.alloc (.cells (nilsA N) 46) = wz at mid hNow ⊢
        refine takeFirst (i := 4) (v := wldV (.slice (some ⟨ga, 0, none⟩) N N) zeroL) rfl (by kernel_rfl) (by kernel_rfl) (by kernel_rfl) (by rfl) (fun _ _ _ h => h) (fun _ _ => exec_buildW rfl rfl) (by assumption) ?_
        try simp only [Act.put, List.setIfInBounds_toArray, List.set_cons_zero, List.set_cons_succ]
        refine relist (l2 := #[true, true, true, true, true, true, false]) (by kernel_rfl) ?_
        exact hE _ _ _ mid
  intro ga gb wz mid
  obtain ⟨hga, ab⟩ := mid.fa ga rfl
  obtain ⟨hgb, yb⟩ := mid.fb gb rfl
  have gne := mid.ne ga gb rfl rfl
  have near := mid.low
  clear mid
  have zc := cb.lt
  have zo := ob.lt
  replace hHeld := callC near hHeld
  replace cb := cb.call near
  replace ob := ob.call near
  replace low := gCall low near
  refine stepNext (i := 6) (by kernel_rfl) rfl (by rfl) (fun K hK => ?_)
  refine wp_store_box 79 (.tmp 5) (.tmp 19) rfl _ _ rfl rfl yb (tyWorld.size.trans (congrArg some (wld_size zeroL_length).symm)) (wld_size zeroL_length).symm (wldA_one _) ?_
  intro w2 yb st
  replace ab := st.box ab gne
  replace cb := st.box cb (by omega)
  replace ob := st.box ob (by omega)
  replace low := st.low low (by omega)
  replace hHeld := st.cell (by dsimp only; omega) hHeld
  clear st near
  refine hK.out _ _ hHeld ?_
  clear hK K
  try simp only [Act.put]
  try simp only [List.setIfInBounds_toArray, List.set_cons_zero, List.set_cons_succ]
  clear hHeld
  refine wpAnyH_done (by kernel_rfl) ?_ _
  refine NoPanic.normal ?_
  have yb0 := yb.at_ 0 (wldA_zero _ _)
  go_wp2_with fail
  clear MS
  go_loopw [23] (fun i wr => ∃ k : Nat, k ≤ N ∧ i = .int .i64 k ∧ Hid (∃ us : List Value, us.length = N ∧ Box wr ga 46 us.toArray ∧ ∀ j, j < k → Made wr ga p q us j) ∧
    Box wr gb 79 (wldA (.slice (some ⟨ga, 0, none⟩) N N) zeroL) ∧ Box wr w.heap.size 44 (cfgA N p q b) ∧ Box wr (w.heap.size + 1) 79 nilW ∧ Below w.heap.size w wr) (fun i _ => N - (intOf i).toNat)
  case atStart => exact ⟨0, Nat.zero_le _, rfl, Lib.hid ⟨_, by simp, ab, fun j hj => absurd hj (by omega)⟩, yb, cb, ob, low⟩
  case round =>
    clear ab yb cb ob low yb0
    obtain ⟨k, hk, rfl, hus, yb, cb, ob, low⟩ := hrel
    simp only [cfgA] at cb
    obtain ⟨us, ulen, ab, hcf⟩ := hus.out
    have HCF := Lib.hid hcf
    clear hus hcf
    by_cases hlt : k < N
    · have k1 : (k : Int) < N := by omega
      have hu : us[k]? = some (us[k]'(by omega)) := List.getElem?_eq_getElem _
      generalize us[k]'(by omega) = u at hu
      have hcu : us.toArray[k]? = some u := by rw [List.getElem?_toArray]; exact hu
      have UK := Lib.hid (show k < us.length by omega)
      clear hu
      have za := ab.lt
      have cb_0 := cb.at_ 0 rfl
      have cb_1 := cb.at_ 1 rfl
      have cb_2 := cb.at_ 2 rfl
      have cb_3 := cb.at_ 3 rfl
      go_wp2_with fail
      (with_reducible refine (CN.out _).mono ?_); rintro e w3 ⟨⟨A3, c3, rfl, cf⟩, hb3⟩
      clear cb_0 cb_1 cb_2 cb_3
      replace ab := ab.call hb3
      replace yb := yb.call hb3
      replace cb := cb.call hb3
      replace ob := ob.call hb3
      replace low := gCall low hb3
      have HC3 := Lib.hid (fun j (hj : j < k) => (HCF.out j hj).call hb3)
      have CF := Lib.hid cf
      clear hb3 HCF cf
      have yb0 := yb.at_ 0 (wldA_zero _ _)
      have ac := ab.at_ k hcu
      have af := ab.frozen k
      go_wp2_with fail
      have st : Stored w3 ga (w3.setCell ⟨ga, k, none⟩ (.slice A3 p c3)) := Stored.cell1 w3 ⟨ga, k, none⟩ _
      have ab4 := ab.set k (.slice A3 p c3)
      rw [List.setIfInBounds_toArray] at ab4
      have yb4 := st.box yb (Ne.symm gne)
      have cb4 := st.box cb (by omega)
      have ob4 := st.box ob (by omega)
      have low4 := st.low low (by omega)
      have HC4 := Lib.hid (Made.next HC3.out UK.out za CF.out st)
      go_roundw
      case rel => exact ⟨k + 1, by omega, by go_num, Lib.hid ⟨_, by rw [List.length_set]; exact ulen, ab4, HC4.out⟩, yb4, cb4, ob4, low4⟩
      case measure => simp [intOf]; omega
    · obtain rfl : k = N := by omega
      have yr := yb.range
      have s1 : (wldA (.slice (some ⟨ga, 0, none⟩) k k) zeroL).size = nilW.size := wld_size zeroL_length
      have one : (wldA (.slice (some ⟨ga, 0, none⟩) k k) zeroL).all (·.oneCell') = true := wldA_one _
      go_wp2_with (first | ((with_reducible refine wp_loadW (tyWorld) (yr) (s1) ?_ ?_ ?_); rfl; rfl) | ((with_reducible refine wp_storeW (tyWorld) (ob) (rfl) (s1) (one) ?_ ?_ ?_); rfl; rfl))
      intro w5 ob5 st
      replace low := st.low low (by omega)
      replace ab := st.box ab (by omega)
      have KS := Lib.hid (show Ks w5 (.slice (some ⟨ga, 0, none⟩) k k) (List.replicate k (emptyC p q)) by
        refine ⟨_, _, by rw [List.length_replicate], by rw [List.length_replicate]; exact Nat.le_refl _, by unfold maxLen; omega, fun _ => ⟨ga, 0, rfl, ab.lt, fun j ss hj => ?_⟩⟩
        have hjk : j < k := by have := (List.getElem?_eq_some_iff.1 hj).1; simpa using this
        obtain rfl : ss = emptyC p q := List.eq_of_mem_replicate (List.mem_of_getElem? hj)
        obtain ⟨A, c, h1, B, C, h2, h3⟩ := HCF.out j hjk
        have e1 : (emptyC p q).length = p := by simp [emptyC]
        rw [e1]
        refine ⟨A, c, ?_, (h3.out st (.inl (by omega))).cs⟩
        rw [ab.cell, Nat.zero_add, List.getElem?_toArray]
        exact h1)
      clear ob st yb yr ab cb
      go_wp2_with fail
      exact bodyPost_ret (v := .tuple #[wldV (.slice (some ⟨ga, 0, none⟩) k k) zeroL, .int .i64 0]) (results_first tyWorld Try.results66 rfl rfl ob5 s1) rfl ⟨⟨_, _, rfl, KS.out⟩, low⟩

set_option maxHeartbeats 1000000 in
theorem agrees_yes (w : World) : Calls Try.prog 35 #[] w fun e w' => e = .returned (.bool true) ∧ Below w.heap.size w w' := by
  have N := Lib.hid fun w => new_ok 2 1 1 1 w (by decide)
  simp only [Int.natCast_one, show ((2 : Nat) : Int) = 2 from rfl] at N
  have low := Below.refl w.heap.size w
  go_enter Try.func35, Try.ntmps35
  go_wp2_with fail
  (with_reducible refine (small_is _).mono ?_); rintro e w1 ⟨rfl, hb⟩
  replace low := gCall low hb
  clear hb
  go_wp2_with fail
  (with_reducible refine (N.out _).mono ?_); rintro e w2 ⟨⟨A, c, rfl, ks⟩, hb⟩
  replace low := gCall low hb
  clear hb ks
  have s1 : (wldA (.slice A 2 c) zeroL).size = nilW.size := wld_size zeroL_length
  have one : (wldA (.slice A 2 c) zeroL).all (·.oneCell') = true := wldA_one _
  have xb := boxNext low 79 (wldA (.slice A 2 c) zeroL)
  replace low := gAlloc low (.cells (wldA (.slice A 2 c) zeroL) 79)
  try simp only [World.size_alloc] at xb
  have x0 := xb.at_ 0 (wldA_zero _ _)
  go_wp2_with (first | (with_reducible refine wp_newW (tyWorld) ?_) | ((with_reducible refine wp_freshW (tyWorld) (rfl) (s1) (one) ?_ ?_ ?_); rfl; rfl))
  go_ret
  exact ⟨rfl, low⟩
end Go.Proofs.Ytmodajmjmdigfaa
