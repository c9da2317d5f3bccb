/-
Proved: the law 'MachineEnds' returns true for every argument, and changes nothing that was there. Conditions: what New, Bound, Run and Ended of package machine give (handed in).
-/
import Derived.Test.YtgdacpcifnpojaaGreatJoined8
import Derived.Test.YtgdacpcifnpojaaGreatGood
namespace Go.Proofs.YtgdacpcifnpojaaGreat.machineEnds
open Go.ChangeShapes Go.WideShapes Go.ChangeAt Go.RowKit Go.Joins

def noMc : Mc := ⟨0, 0, 0, 0, [], zeroL, [], [], [], [], 0⟩
theorem noMc_bad : mcE noMc = 4 := by decide +kernel
theorem noMc_read (w : World) : MRead w mc0 noMc := by
  refine ⟨zeroL_length, _, _, _, _, _, rfl, ?_, ?_, ?_, ?_, ?_⟩
  · exact ⟨none, 0, rfl, Nat.le_refl _, Nat.zero_le _, fun h => absurd h (Nat.lt_irrefl 0)⟩
  · exact ⟨rfl, none, 0, rfl, Nat.le_refl _, Nat.zero_le _, fun h => absurd h (Nat.lt_irrefl 0)⟩
  · exact ⟨none, 0, rfl, Nat.le_refl _, Nat.zero_le _, fun h => absurd h (Nat.lt_irrefl 0)⟩
  · exact sl_nil w
  · exact sl_nil w
def psum (p : List (List Dd)) (j : Nat) : Int := ((List.range j).map fun k => ((p.getD k []).length : Int)).sum
theorem psum_succ {p : List (List Dd)} {j : Nat} {l : List Dd} (h : p[j]? = some l) : psum p (j + 1) = psum p j + (l.length : Int) := by
  unfold psum
  rw [List.range_succ, List.map_append, List.sum_append]
  simp [List.getD, h]
theorem psum_range {p : List (List Dd)} (h : ∀ (k : Nat) l, p[k]? = some l → l.length ≤ 20) : ∀ j : Nat, 0 ≤ psum p j ∧ psum p j ≤ 20 * j
  | 0 => by simp [psum]
  | j + 1 => by
    have ih := psum_range h j
    cases e : p[j]? with
    | none =>
      have : psum p (j + 1) = psum p j := by
        unfold psum
        rw [List.range_succ, List.map_append, List.sum_append]
        simp [List.getD, e]
      omega
    | some l =>
      have := h j l e
      rw [psum_succ e]
      omega

set_option maxRecDepth 10000 in
set_option maxHeartbeats 4000000 in
theorem walk_bad (NI : MNewIs) (BI : MBoundIs) (n s y b k : Int) (pv tv : Value) (p : List (List Dd)) (wts : List Int) (w : World) (hp : Ps w pv p) (ht : Sl w w.heap.size 1 tv wts.length (wts.map (Value.int .i64))) (hE : newE n s y b k p wts ≠ 0) :
    Calls Tryz.prog 4 #[cfg n s y b, .int .i64 k, pv, tv] w fun e w' => e = .returned (.bool true) ∧ Below w.heap.size w w' := by
  have YES := Lib.hid fun w => machines_yes NI w
  have NW := Lib.hid fun w hp ht => NI n s y b k pv tv p wts w hp ht
  have BD := Lib.hid fun w => BI mc0 noMc w (noMc_read w)
  rw [noMc_bad] at BD
  have HP := Lib.hid hp
  have HT := Lib.hid ht
  generalize newE n s y b k p wts = E at *
  have hE' : (E != 0) = true := by simpa using hE
  have sz : mc0A.size = mc0A.size := rfl
  have on := mcA_one (n := 0) (s := 0) (y := 0) (b := 0) (A0 := none) (A1 := none) (A2 := none) (A3 := none) (A4 := none) (n0 := 0) (n1 := 0) (n2 := 0) (n3 := 0) (n4 := 0) (c0 := 0) (c1 := 0) (c2 := 0) (c3 := 0) (c4 := 0) (m := zeroL) (h := 0)
  have NE := Lib.hid hE
  clear hp ht hE
  have low := Below.refl w.heap.size w
  have cb := boxNext low 23 #[.int .i64 n, .int .i64 s, .int .i64 y, .int .i64 b]
  replace low := gAlloc low (.cells #[.int .i64 n, .int .i64 s, .int .i64 y, .int .i64 b] 23)
  try simp only [World.size_alloc] at cb
  go_enter Tryz.func4, Tryz.ntmps4
  go_wp2_with fail
  (with_reducible refine (YES.out _).mono ?_); rintro e w1 ⟨rfl, hb⟩
  replace cb := cb.call hb
  replace low := gCall low hb
  clear hb YES
  have cb_0 := cb.at_ 0 rfl
  have cb_1 := cb.at_ 1 rfl
  have cb_2 := cb.at_ 2 rfl
  have cb_3 := cb.at_ 3 rfl
  go_wp2_with fail
  (with_reducible refine (NW.out _ (HP.out.call low) (Sl.call HT.out low)).mono ?_); rintro e w2 ⟨⟨v2, rfl, hv⟩, hb⟩
  clear cb_0 cb_1 cb_2 cb_3
  replace low := gCall low hb
  clear hb cb NW
  rcases hv with ⟨_, rfl⟩ | ⟨h0, _⟩
  rotate_left
  · exact absurd h0 NE.out
  have xb := Box.new w2 37 mc0A
  replace low := gAlloc low (.cells mc0A 37)
  have xr := xb.range
  simp only [mc0]
  go_wp2_with (first | (with_reducible refine wp_newW (tyMach) ?_) | ((with_reducible refine wp_freshW (tyMach) (rfl) (rfl) (on) ?_ ?_ ?_); rfl; rfl) | ((with_reducible refine wp_loadW (tyMach) (xr) (rfl) ?_ ?_ ?_); rfl; rfl))
  have BQ := BD.out (w2.alloc (.cells mc0A 37))
  simp only [mc0] at BQ
  (with_reducible refine BQ.mono ?_); rintro e w3 ⟨rfl, hb⟩
  replace low := gCall low hb
  clear hb xb xr BQ BD on
  cases hq : (E == 4)
  · go_wp2_with fail
    go_ret
    exact ⟨rfl, low⟩
  · go_wp2_with fail
    go_ret
    exact ⟨rfl, low⟩
/-- The array of a machine that is read. -/
theorem arr_read {w : World} {v : Value} {M : Mc} (h : MRead w v M) : ∃ XA : Array Value, v = .agg XA ∧ XA.size = mc0A.size ∧ XA.all (·.oneCell') = true := by
  have m64 := h.m64
  obtain ⟨A0, c0, A1, c1, A2, c2, A3, c3, A4, c4, rfl, _⟩ := h.shape
  exact ⟨_, rfl, by rw [mcA_size m64, mcA_size zeroL_length], mcA_one⟩
theorem progs_fine {n s y b : Int} {p : List (List Dd)} (h : progsE n s y b p = 0) : p.length ≤ 8 ∧ ∀ (k : Nat) l, p[k]? = some l → l.length ≤ 20 := by
  obtain ⟨h1, h2, h3⟩ := progsE_zero h
  have := cfgB_iff.1 h1
  exact ⟨by omega, fun k l hk => (listE_zero.1 h3 k l hk).1⟩
set_option maxRecDepth 10000 in
set_option maxHeartbeats 8000000 in
theorem walk_good (NI : MNewIs) (BI : MBoundIs) (RI : MRunIs) (EI : MEndedIs) (n s y b k : Int) (pv tv : Value) (p : List (List Dd)) (wts : List Int) (w : World) (hp : Ps w pv p) (ht : Sl w w.heap.size 1 tv wts.length (wts.map (Value.int .i64))) (hE : newE n s y b k p wts = 0) :
    Calls Tryz.prog 4 #[cfg n s y b, .int .i64 k, pv, tv] w fun e w' => e = .returned (.bool true) ∧ Below w.heap.size w w' := by
  have YES := Lib.hid fun w => machines_yes NI w
  have NW := Lib.hid fun w hp ht => NI n s y b k pv tv p wts w hp ht
  have BD := Lib.hid BI
  have RN := Lib.hid RI
  have EN := Lib.hid EI
  have HE := Lib.hid hE
  rw [hE] at NW
  have HP := Lib.hid hp
  have HT := Lib.hid ht
  have sz0 : mc0A.size = mc0A.size := rfl
  clear hp ht hE NI BI RI EI
  have low := Below.refl w.heap.size w
  have cb := boxNext low 23 #[.int .i64 n, .int .i64 s, .int .i64 y, .int .i64 b]
  replace low := gAlloc low (.cells #[.int .i64 n, .int .i64 s, .int .i64 y, .int .i64 b] 23)
  try simp only [World.size_alloc] at cb
  go_enter Tryz.func4, Tryz.ntmps4
  go_wp2_with fail
  (with_reducible refine (YES.out _).mono ?_); rintro e w1 ⟨rfl, hb⟩
  replace cb := cb.call hb
  replace low := gCall low hb
  clear hb YES
  have cb_0 := cb.at_ 0 rfl
  have cb_1 := cb.at_ 1 rfl
  have cb_2 := cb.at_ 2 rfl
  have cb_3 := cb.at_ 3 rfl
  go_wp2_with fail
  (with_reducible refine (NW.out _ (HP.out.call low) (Sl.call HT.out low)).mono ?_); rintro e w2 ⟨⟨v2, rfl, hv⟩, hb⟩
  clear cb_0 cb_1 cb_2 cb_3
  replace low := gCall low hb
  clear hb cb NW
  rcases hv with ⟨h0, _⟩ | ⟨_, css, rd, co, -⟩
  · exact absurd rfl h0
  have ok := (newMc_ok HE.out co).1
  have fine : Hid (p.length ≤ 8 ∧ ∀ (k : Nat) l, p[k]? = some l → l.length ≤ 20) := Lib.hid (progs_fine (p := p) ok.prg)
  have m0 : mcE (newMc n s y b css k.toNat p wts) = 0 := mcE_zero.2 ok
  have ENDS := Lib.hid (fun h => new_ends HE.out co didF_ok h)
  generalize newMc n s y b css k.toNat p wts = M at *
  clear co ok
  obtain ⟨XA, rfl, sz, on⟩ := arr_read rd
  have RD := Lib.hid (rd.call (gAlloc (Below.refl w2.heap.size w2) (.cells XA 37)))
  have xb := Box.new w2 37 XA
  replace low := gAlloc low (.cells XA 37)
  clear rd
  go_wp2_with (first | (with_reducible refine wp_newW (tyMach) ?_) | ((with_reducible refine wp_freshW (tyMach) (rfl) (sz) (on) ?_ ?_ ?_); rfl; rfl) | ((with_reducible refine wp_loadW (tyMach) (xb.range) (sz) ?_ ?_ ?_); rfl; rfl))
  have BQ := BD.out _ _ _ RD.out
  rw [m0, if_pos rfl] at BQ
  (with_reducible refine BQ.mono ?_); rintro e w3 ⟨rfl, hb⟩
  replace low := gCall low hb
  replace xb := xb.call hb
  replace RD := Lib.hid (RD.out.call hb)
  replace HP := Lib.hid (HP.out.call low)
  clear hb BQ BD
  have rx := xb.range
  generalize w2.heap.size = gx at *
  generalize hZ : boundM M = Z at *
  by_cases hz : 1000 < Z
  · clear ENDS fine RN EN HP RD
    go_wp2_with fail
    go_ret
    exact ⟨rfl, low⟩
  obtain ⟨z0, r0, rok, rend, rlen⟩ := ENDS.out (by omega)
  have RQ := Lib.hid (RN.out _ _ w3 Z RD.out)
  unfold runE' runs at RQ
  rw [if_neg (by simpa using m0), if_neg (by omega), r0] at RQ
  have me : mcE (runC didF Z.toNat M).1 = 0 := mcE_zero.2 rok
  have ZB := Lib.hid (And.intro z0 hz)
  clear ENDS rok RN
  generalize runC didF Z.toNat M = Y at *
  obtain ⟨Y, es⟩ := Y
  simp only at me rend rlen
  have RL : Hid ((es.length : Int) = psum p p.length) := Lib.hid rlen
  clear rlen
  go_wp2_with (first | ((with_reducible refine wp_loadW (tyMach) (rx) (sz) ?_ ?_ ?_); rfl; rfl))
  (with_reducible refine RQ.out.mono ?_); rintro e w4 ⟨⟨v4, u4, rfl, gv⟩, hb⟩
  replace low := gCall low hb
  replace HP := Lib.hid (HP.out.call hb)
  clear hb RQ xb rx
  rcases gv with ⟨h0, _⟩ | ⟨_, rd, el⟩
  · exact absurd rfl h0
  obtain ⟨XB, rfl, sz2, on2⟩ := arr_read rd
  obtain ⟨Au, cu, rfl⟩ := el.shape
  have RD4 := Lib.hid (rd.call (gAlloc (Below.refl w4.heap.size w4) (.cells XB 37)))
  replace HP := Lib.hid (HP.out.alloc (.cells XB 37))
  have xb := Box.new w4 37 XB
  replace low := gAlloc low (.cells XB 37)
  clear rd el
  go_wp2_with (first | (with_reducible refine wp_newW (tyMach) ?_) | ((with_reducible refine wp_freshW (tyMach) (rfl) (sz2) (on2) ?_ ?_ ?_); rfl; rfl) | ((with_reducible refine wp_loadW (tyMach) (xb.range) (sz2) ?_ ?_ ?_); rfl; rfl))
  have EQ := EN.out _ _ _ RD4.out
  rw [me, rend] at EQ
  (with_reducible refine EQ.mono ?_); rintro e w5 ⟨rfl, hb⟩
  replace low := gCall low hb
  replace HP := Lib.hid (HP.out.call hb)
  clear hb EQ EN xb
  obtain ⟨Ap, cp, rfl⟩ := HP.out.shape
  go_wp2_with fail
  have LW := Lib.hid low
  clear low
  go_loopw [18, 71] (fun nv i wr => ∃ j : Nat, j ≤ p.length ∧ i = .int .i64 j ∧ nv = .int .i64 (psum p j) ∧ Below w5.heap.size w5 wr) (fun _ i _ => p.length - (intOf i).toNat)
  case atStart => exact ⟨0, Nat.zero_le _, rfl, rfl, Below.refl _ _⟩
  case round =>
    obtain ⟨j, hj, rfl, rfl, near⟩ := hrel
    have low := gCall LW.out near
    obtain ⟨_, _, ep, p1, p2, p3⟩ := (HP.out.call near).ex
    injection ep with ep1 _ ep3
    subst ep1 ep3
    unfold maxLen at p2
    have pr := psum_range fine.out.2 j
    have p8 := fine.out.1
    by_cases hlt : j < p.length
    · obtain ⟨b, o, rfl, hb, hl⟩ := p3 (by omega)
      have hx : p[j]? = some p[j] := List.getElem?_eq_getElem _
      generalize p[j] = l at hx
      obtain ⟨A', c', hc, hd⟩ := hl j l hx
      have l20 := fine.out.2 j l hx
      have PS := Lib.hid (psum_succ hx)
      have j0 : (0 : Int) ≤ j := by omega
      have j1 : (j : Int) < p.length := by omega
      clear p3 hl hd hx
      generalize psum p j = ps at *
      go_wp2_with fail
      go_roundw
      case rel => exact ⟨j + 1, by omega, by go_num, by rw [PS.out], near⟩
      case measure => simp [intOf]; omega
    · obtain rfl : j = p.length := by omega
      have q : ((es.length : Int) == psum p p.length) = true := by
        rw [beq_iff_eq]
        exact RL.out
      clear p3
      go_wp2_with fail
      (with_reducible refine (good_yes _ 2 _ (by omega) ?_).mono ?_)
      · intro j hj
        have : j = 0 ∨ j = 1 := by omega
        rcases this with rfl | rfl <;> go_simp
      rintro e w6 ⟨rfl, rfl⟩
      go_wp2_with fail
      go_ret
      exact ⟨rfl, gAlloc low _⟩
theorem walk (NI : MNewIs) (BI : MBoundIs) (RI : MRunIs) (EI : MEndedIs) (n s y b k : Int) (pv tv : Value) (w : World) (hp : IsProgs w pv) (ht : IsInts w tv) :
    Calls Tryz.prog 4 #[cfg n s y b, .int .i64 k, pv, tv] w fun e w' => e = .returned (.bool true) ∧ Below w.heap.size w w' := by
  obtain ⟨p, hp⟩ := hp
  obtain ⟨wts, ht, _⟩ := ht
  by_cases hE : newE n s y b k p wts = 0
  · exact walk_good NI BI RI EI n s y b k pv tv p wts w hp ht hE
  · exact walk_bad NI BI n s y b k pv tv p wts w hp ht hE
end Go.Proofs.YtgdacpcifnpojaaGreat.machineEnds
