/-
Proved: the law 'OrderFinds' returns true for every argument, and changes nothing that was there. Conditions: what Explain and Legal of package order give (handed in); no log has more than 2^47 observations.
-/
import Derived.Test.YtgoaedbhcldmiaaOrderFind
namespace Go.Proofs.Ytgoaedbhcldmiaa.orderFinds
open Go.ChangeShapes Go.WideShapes Go.ChangeAt Go.RowKit Go.Joins
open Go.Proofs.Ytgoaedbhcldmiaa.orderTells (LegalIs orders_yes)
open Go.Proofs.Ytgoaedbhcldmiaa.orderExplains (ExplainIs)

set_option maxRecDepth 10000 in
set_option maxHeartbeats 4000000 in
theorem walk_bad (LGI : LegalIs) (EXI : ExplainIs) (m : List Int) (d v : Value) (r : List Dd) (logs : List (List Td)) (w : World) (hm : m.length = 64) (hfew : ∀ l ∈ logs, l.length ≤ 140737488355328) (_hd : Ds w d r) (h : elT.RR w v logs) (hE : explE logs ≠ 0) :
    Calls Try.prog 5 #[memV m, d, v] w fun e w' => e = .returned (.bool true) ∧ Below w.heap.size w w' := by
  have OY := Lib.hid fun w => orders_yes LGI w
  have EX := Lib.hid fun w h => EXI m v logs w hm hfew h
  have HL := Lib.hid h
  generalize explE logs = E at *
  have hE' : (E != 0) = true := by simpa using hE
  clear h hfew
  have low := Below.refl w.heap.size w
  have mb := boxNext low 26 (memA m)
  replace low := gAlloc low (.cells (memA m) 26)
  try simp only [World.size_alloc] at mb
  have MB : Mb _ _ m := ⟨mb, hm⟩
  clear mb
  go_enter Try.func5, Try.ntmps5
  go_wp2_with fail
  (with_reducible refine (OY.out _).mono ?_); rintro e w1 ⟨rfl, hb⟩
  replace MB := MB.call hb
  replace low := gCall low hb
  clear hb OY
  go_wp2_with ((with_reducible refine wp_loadMem (MB) ?_ ?_ ?_); rfl; rfl)
  (with_reducible refine (EX.out _ (HL.out.call low)).mono ?_); rintro e w2 ⟨⟨Ae, ne, ce, Be, rfl, ex⟩, hb⟩
  replace MB := MB.call hb
  replace low := gCall low hb
  have XR := Lib.hid ex
  clear ex hb EX
  rcases XR.out with ⟨_, rfl, rfl⟩ | ⟨h, _⟩
  · clear XR hE
    go_wp2_with fail
    go_ret
    exact ⟨rfl, low⟩
  · exact absurd h hE

set_option maxRecDepth 10000 in
set_option maxHeartbeats 8000000 in
theorem walk_good (LGI : LegalIs) (EXI : ExplainIs) (m : List Int) (d v : Value) (r : List Dd) (logs : List (List Td)) (w : World) (hm : m.length = 64) (hfew : ∀ l ∈ logs, l.length ≤ 140737488355328) (hd : Ds w d r) (h : elT.RR w v logs) (hE : explE logs = 0) :
    Calls Try.prog 5 #[memV m, d, v] w fun e w' => e = .returned (.bool true) ∧ Below w.heap.size w w' := by
  have OY := Lib.hid fun w => orders_yes LGI w
  have EX := Lib.hid fun w h => EXI m v logs w hm hfew h
  have EX2 := Lib.hid fun v logs w hf h => EXI m v logs w hm hf h
  have HL := Lib.hid h
  have HD := Lib.hid hd
  rw [hE] at EX
  obtain ⟨A, c, rfl, g1, g2, g3⟩ := h.ex
  obtain ⟨A5, c5, rfl⟩ := hd.el.shape
  unfold maxLen at g2
  obtain ⟨i0, hi, hz0, hz1, hz2⟩ := info_parts info_told
  have HI := Lib.hid hi
  have HZ := Lib.hid (And.intro hz0 (And.intro hz1 hz2))
  clear h hd hfew g3 hi hz0 hz1 hz2
  have low := Below.refl w.heap.size w
  have mb := boxNext low 26 (memA m)
  replace low := gAlloc low (.cells (memA m) 26)
  try simp only [World.size_alloc] at mb
  have MB : Mb _ _ m := ⟨mb, hm⟩
  clear mb
  go_enter Try.func5, Try.ntmps5
  go_wp2_with fail
  (with_reducible refine (OY.out _).mono ?_); rintro e w1 ⟨rfl, hb⟩
  replace MB := MB.call hb
  replace low := gCall low hb
  clear hb OY
  go_wp2_with ((with_reducible refine wp_loadMem (MB) ?_ ?_ ?_); rfl; rfl)
  (with_reducible refine (EX.out _ (HL.out.call low)).mono ?_); rintro e w2 ⟨⟨Ae, ne, ce, Be, rfl, ex⟩, hb⟩
  replace MB := MB.call hb
  replace low := gCall low hb
  have XR := Lib.hid ex
  clear ex hb EX
  go_upto_if 44 with fail
  go_cut [] from 45 (fun wx => Below w2.heap.size w2 wx)
  case first =>
    have near := Below.refl w2.heap.size w2
    rcases XR.out with ⟨h, _⟩ | ⟨_, hB, hN, sl⟩
    · exact absurd rfl h
    obtain ⟨l8, t12, le0⟩ := explE_right hE
    have OKS := Lib.hid (logsE_zero.1 le0)
    cases hR : explR m logs with
    | none =>
      rw [hR] at hB
      obtain rfl : Be = false := hB
      clear XR hN sl
      go_wp2_with fail
      go_meet
      exact near
    | some pk =>
      rw [hR] at hB hN sl
      obtain rfl : Be = true := hB
      simp only [Option.getD_some] at hN sl
      have path := explO_path hR
      have plen := explO_length hR
      have PIN := Lib.hid (path_in path)
      have PLG := Lib.hid (path_legal path)
      have PLN := Lib.hid (path_length path)
      have PEND := Lib.hid path
      obtain ⟨_, Ap, cp, ep, p1, p2, p3⟩ := sl
      obtain ⟨rfl, rfl⟩ : Ae = Ap ∧ ce = cp := by injection ep with e5 _ e6; exact ⟨e5, e6⟩
      have P3 := Lib.hid p3
      obtain ⟨A9, c9, e9, q1, q2, q3⟩ := HL.out.ex
      obtain ⟨rfl, rfl⟩ : A = A9 ∧ c = c9 := by injection e9 with e5 _ e6; exact ⟨e5, e6⟩
      have L3 := Lib.hid q3
      unfold maxLen at p2 q2
      have W0 := Lib.hid (within_zero logs)
      have MK := fun w => make_at logs.length (by omega) w
      have PL12 := Lib.hid (show pk.length ≤ 12 by omega)
      have PTOT := Lib.hid plen
      have LG := Lib.hid fun u l w h => LGI m u l w hm h
      clear XR hR ep e9 p3 q3 path plen le0
      subst hN
      have ab := boxNext near 3 (atA (List.replicate logs.length 0))
      replace near := gAlloc near (.cells (atA (List.replicate logs.length 0)) 3)
      go_wp2_with fail
      clear MK
      have AB := Lib.hid ab
      clear ab
      have lz2 := low.size
      go_loopw [11, 50] (fun mv i wr => ∃ i0 : Nat, i0 ≤ pk.length ∧ i = .int .i64 i0 ∧ Hid (∃ (a : List Nat) (m' : List Int) (S : List Td), Path logs m' a (pk.drop i0) ∧ Within logs a ∧ a.sum = i0 ∧ S.length = i0 ∧
          S ++ seqL logs a (pk.drop i0) = seqL logs (List.replicate logs.length 0) pk ∧ Box wr w2.heap.size 3 (atA a) ∧ wr.ownsRow w2.heap.size 38 5 mv S.length (elT.C S)) ∧ Below w2.heap.size w2 wr) (fun _ i _ => pk.length - (intOf i).toNat)
      case atStart => exact ⟨0, Nat.zero_le _, rfl, Lib.hid ⟨_, m, [], PEND.out, W0.out, by simp, rfl, rfl, AB.out, World.ownsRow_nil _ _ _ _⟩, near⟩
      case round =>
        clear near AB
        obtain ⟨i, hi, rfl, hst, near⟩ := hrel
        obtain ⟨a, m', S, hpath, hwi, hsum, hS, hseq, ab, row⟩ := hst.out
        clear hst
        by_cases hlt : i < pk.length
        · obtain ⟨bp, op, rfl, hbp, hcp⟩ := P3.out (by omega)
          have hx : pk[i]? = some pk[i] := List.getElem?_eq_getElem _
          have hdrop : pk.drop i = pk[i] :: pk.drop (i + 1) := List.drop_eq_getElem_cons hlt
          generalize pk[i] = k at hx hdrop
          rw [hdrop] at hpath hseq
          obtain ⟨l, j, t, h1, h2, h3, hv, h4⟩ := hpath
          rw [seqL_at h1 h2 h3] at hseq
          have jl := (List.getElem?_eq_some_iff.1 h3).1
          have hk := (List.getElem?_eq_some_iff.1 h1).1
          have cx : wr.cell? ⟨bp, op + i, none⟩ = some (.int .i64 (k : Int)) := (near.cell (p := ⟨bp, op + i, none⟩) hbp).trans (hcp i _ (by rw [List.getElem?_map, hx]; rfl))
          obtain ⟨b1, o1, rfl, hb1, hc1⟩ := L3.out (by omega)
          obtain ⟨A8, c8, e8, ds⟩ := hc1 k l h1
          have cl := ((gCall low near).cell (p := ⟨b1, o1 + k, none⟩) hb1).trans e8
          obtain ⟨_, A9, c9, e9, k1', k2', k3'⟩ := ds
          obtain ⟨rfl, rfl⟩ : A8 = A9 ∧ c8 = c9 := by injection e9 with e5 _ e6; exact ⟨e5, e6⟩
          obtain ⟨b3, o3, rfl, hb3, hc3⟩ := k3' (by omega)
          obtain ⟨x0, x1, x2, x3, x4⟩ := toldAt_of hc3 hb3 (gCall low near) h3
          have ct := ab.at_ k (atA_at h2)
          have W1 := Lib.hid (hwi.step h1 jl)
          have SUM := Lib.hid (sum_set a k j h2)
          have SQ := Lib.hid hseq
          have HP4 := Lib.hid h4
          have H2 := Lib.hid h2
          have HS := Lib.hid hS
          have HSM := Lib.hid hsum
          obtain ⟨⟨xn, xk, xa, xv⟩, tv⟩ := t
          simp only at x0 x1 x2 x3 x4
          unfold maxLen at k2'
          have k0 : (0 : Int) ≤ k := by omega
          have k1 : (k : Int) < logs.length := by omega
          have j0 : (0 : Int) ≤ j := by omega
          have j1 : (j : Int) < l.length := by omega
          have i0' : (0 : Int) ≤ i := by omega
          have i1 : (i : Int) < pk.length := by omega
          have d1 : decide ((logs.length : Int) ≤ (k : Int)) = false := decide_eq_false (by omega)
          have d1n : decide (logs.length ≤ k) = false := decide_eq_false (by omega)
          have d2 : decide ((l.length : Int) ≤ (j : Int)) = false := decide_eq_false (by omega)
          have d2n : decide (l.length ≤ j) = false := decide_eq_false (by omega)
          have S12 : S.length ≤ 12 := by have := PL12.out; omega
          have MR := Lib.hid row
          have AB := Lib.hid ab
          clear hcp hx hdrop hc1 e8 e9 k3' hc3 hseq h1 h2 h3 hv h4 hwi hS hsum ab row
          go_wp2_with fail
          go_quiet (fail)
          go_wp2_with fail
          have MR1 := Lib.hid (own_below MR.out (gDrewN (Below.refl wr.heap.size wr) nq))
          have AB1 := Lib.hid (AB.out.drewN nq)
          have near1 := gDrewN near nq
          replace cl : (wr.drewN nq).cell? ⟨b1, o1 + k, none⟩ = _ := cl
          replace ct : (wr.drewN nq).cell? ⟨w2.heap.size, k, none⟩ = _ := ct
          replace x0 : (wr.drewN nq).cell? ⟨b3, o3 + j * 5, none⟩ = _ := x0
          replace x1 : (wr.drewN nq).cell? ⟨b3, o3 + j * 5 + 1, none⟩ = _ := x1
          replace x2 : (wr.drewN nq).cell? ⟨b3, o3 + j * 5 + 2, none⟩ = _ := x2
          replace x3 : (wr.drewN nq).cell? ⟨b3, o3 + j * 5 + 3, none⟩ = _ := x3
          replace x4 : (wr.drewN nq).cell? ⟨b3, o3 + j * 5 + 4, none⟩ = _ := x4
          clear MR AB near cx
          generalize wr.drewN nq = wy at *
          refine wp_region_noPanic ?_
          refine wp_region_held_drew (S := fun w' => w'.cell? ⟨b1, o1 + k, none⟩ = some (.slice (some ⟨b3, o3, none⟩) l.length c8) ∧ w'.cell? ⟨w2.heap.size, k, none⟩ = some (.int .i64 (j : Int)) ∧
            w'.cell? ⟨b3, o3 + j * 5, none⟩ = some (.int .i64 xn) ∧ w'.cell? ⟨b3, o3 + j * 5 + 1, none⟩ = some (.int .i64 xk) ∧ w'.cell? ⟨b3, o3 + j * 5 + 2, none⟩ = some (.int .i64 xa) ∧ w'.cell? ⟨b3, o3 + j * 5 + 3, none⟩ = some (.int .u64 xv) ∧ w'.cell? ⟨b3, o3 + j * 5 + 4, none⟩ = some (.int .u64 tv)) (by kernel_rfl) ⟨drewC cl, drewC ct, drewC x0, drewC x1, drewC x2, drewC x3, drewC x4⟩ (fun hHeld => ?_)
          clear x0 x1 x2 x3 x4 cl ct
          refine takeFirst (i := 0) (v := ?_) rfl (by kernel_rfl) (by kernel_rfl) (by kernel_rfl) (by rfl) (fun _ _ _ h => h) ?_ (by assumption) ?_
          rotate_left
          · (intro w hSw; go_simp; try (with_reducible rfl))
          try simp only [Act.put, List.setIfInBounds_toArray, List.set_cons_zero, List.set_cons_succ]
          refine takeFirst (i := 1) (v := ?_) rfl (by kernel_rfl) (by kernel_rfl) (by kernel_rfl) (by rfl) (fun _ _ _ h => h) ?_ (by assumption) ?_
          rotate_left
          · (intro w hSw; go_simp; try (with_reducible rfl))
          try simp only [Act.put, List.setIfInBounds_toArray, List.set_cons_zero, List.set_cons_succ]
          refine takeFirst (i := 2) (v := ?_) rfl (by kernel_rfl) (by kernel_rfl) (by kernel_rfl) (by rfl) (fun _ _ _ h => h) ?_ (by assumption) ?_
          rotate_left
          · (intro w hSw; go_simp; try (with_reducible rfl))
          try simp only [Act.put, List.setIfInBounds_toArray, List.set_cons_zero, List.set_cons_succ]
          refine takeFirst (i := 3) (v := ?_) rfl (by kernel_rfl) (by kernel_rfl) (by kernel_rfl) (by rfl) (fun _ _ _ h => h) ?_ (by assumption) ?_
          rotate_left
          · (intro w hSw; go_simp; try (with_reducible rfl))
          try simp only [Act.put, List.setIfInBounds_toArray, List.set_cons_zero, List.set_cons_succ]
          refine takeFirst (i := 4) (v := ?_) rfl (by kernel_rfl) (by kernel_rfl) (by kernel_rfl) (by rfl) (fun _ _ _ h => h) ?_ (by assumption) ?_
          rotate_left
          · (intro w hSw; go_simp; try (with_reducible rfl))
          try simp only [Act.put, List.setIfInBounds_toArray, List.set_cons_zero, List.set_cons_succ]
          refine takeFirst (i := 5) (v := ?_) rfl (by kernel_rfl) (by kernel_rfl) (by kernel_rfl) (by rfl) (fun _ _ _ h => h) ?_ (by assumption) ?_
          rotate_left
          · (intro w hSw; go_simp; try (with_reducible rfl))
          try simp only [Act.put, List.setIfInBounds_toArray, List.set_cons_zero, List.set_cons_succ]
          refine takeFirst (i := 6) (v := ?_) rfl (by kernel_rfl) (by kernel_rfl) (by kernel_rfl) (by rfl) (fun _ _ _ h => h) ?_ (by assumption) ?_
          rotate_left
          · (intro w hSw; go_simp; try (with_reducible rfl))
          try simp only [Act.put, List.setIfInBounds_toArray, List.set_cons_zero, List.set_cons_succ]
          refine takeFirst (i := 7) (v := ?_) rfl (by kernel_rfl) (by kernel_rfl) (by kernel_rfl) (by rfl) (fun _ _ _ h => h) ?_ (by assumption) ?_
          rotate_left
          · (intro w hSw; go_simp; try (with_reducible rfl))
          try simp only [Act.put, List.setIfInBounds_toArray, List.set_cons_zero, List.set_cons_succ]
          refine takeFirst (i := 8) (v := ?_) rfl (by kernel_rfl) (by kernel_rfl) (by kernel_rfl) (by rfl) (fun _ _ _ h => h) ?_ (by assumption) ?_
          rotate_left
          · (intro w hSw; go_simp; try (with_reducible rfl))
          try simp only [Act.put, List.setIfInBounds_toArray, List.set_cons_zero, List.set_cons_succ]
          refine takeFirst (i := 9) (v := ?_) rfl (by kernel_rfl) (by kernel_rfl) (by kernel_rfl) (by rfl) (fun _ _ _ h => h) ?_ (by assumption) ?_
          rotate_left
          · (intro w hSw; go_simp; try (with_reducible rfl))
          try simp only [Act.put, List.setIfInBounds_toArray, List.set_cons_zero, List.set_cons_succ]
          refine takeFirst (i := 10) (v := ?_) rfl (by kernel_rfl) (by kernel_rfl) (by kernel_rfl) (by rfl) (fun _ _ _ h => h) ?_ (by assumption) ?_
          rotate_left
          · (intro w hSw; go_simp; try (with_reducible rfl))
          try simp only [Act.put, List.setIfInBounds_toArray, List.set_cons_zero, List.set_cons_succ]
          refine stepNext (i := 11) (by kernel_rfl) rfl (by rfl) (fun K hK => ?_)
          go_simp
          have MR2 := Lib.hid (own_below MR1.out ((gAlloc (Below.refl wy.heap.size wy) (.cells #[.int .i64 xn, .int .i64 xk, .int .i64 xa, .int .u64 xv, .int .u64 tv] 38)).drew))
          have AB2 := Lib.hid ((AB1.out.alloc (.cells #[.int .i64 xn, .int .i64 xk, .int .i64 xa, .int .u64 xv, .int .u64 tv] 38)).drew)
          have near2 := (gAlloc near1 (.cells #[.int .i64 xn, .int .i64 xk, .int .i64 xa, .int .u64 xv, .int .u64 tv] 38)).drew
          have news := Lib.hid fun i u' h => told_new wy 38 ⟨⟨xn, xk, xa, xv⟩, tv⟩ wy.heap.size i u' rfl h
          clear MR1 AB1 near1
          obtain ⟨hh0, hh1, hh2, hh3, hh4, hh5, hh6⟩ := hHeld
          have hHeld := (And.intro (drewC (allocC (.cells #[.int .i64 xn, .int .i64 xk, .int .i64 xa, .int .u64 xv, .int .u64 tv] 38) hh0)) (And.intro (drewC (allocC (.cells #[.int .i64 xn, .int .i64 xk, .int .i64 xa, .int .u64 xv, .int .u64 tv] 38) hh1)) (And.intro (drewC (allocC (.cells #[.int .i64 xn, .int .i64 xk, .int .i64 xa, .int .u64 xv, .int .u64 tv] 38) hh2)) (And.intro (drewC (allocC (.cells #[.int .i64 xn, .int .i64 xk, .int .i64 xa, .int .u64 xv, .int .u64 tv] 38) hh3)) (And.intro (drewC (allocC (.cells #[.int .i64 xn, .int .i64 xk, .int .i64 xa, .int .u64 xv, .int .u64 tv] 38) hh4)) (And.intro (drewC (allocC (.cells #[.int .i64 xn, .int .i64 xk, .int .i64 xa, .int .u64 xv, .int .u64 tv] 38) hh5)) (drewC (allocC (.cells #[.int .i64 xn, .int .i64 xk, .int .i64 xa, .int .u64 xv, .int .u64 tv] 38) hh6))))))))
          clear hh0 hh1 hh2 hh3 hh4 hh5 hh6
          refine hK.out _ _ hHeld ?_
          clear hK K
          try simp only [Act.put]
          try simp only [List.setIfInBounds_toArray, List.set_cons_zero, List.set_cons_succ]
          refine stepNext (i := 12) (by kernel_rfl) rfl (by rfl) (fun K hK => ?_)
          refine wp_append_own _ (.tmp 74) (.tmp 85) 28 rfl w2.heap.size 38 i0 (.agg #[.int .i64 0, .int .i64 0, .int .i64 0, .int .u64 0, .int .u64 0]) 5 40 Try.underlying28 HI.out HZ.out.1 HZ.out.2.1 HZ.out.2.2 rfl (by decide) _ _ _ rfl MR2.out ⟨wy.heap.size, 0, none⟩ 1 1 (Td.cells ⟨⟨xn, xk, xa, xv⟩, tv⟩) rfl rfl news.out (elT.one _) ?g3 ?g4 ?g5 ?_
          case g3 => unfold maxLen; omega
          case g4 => omega
          case g5 => exact near2.size
          intro v4 w4 own4 grow4 _
          have hne := own_ne MR2.out AB2.out (show 3 ≠ 38 by decide)
          have AB4 := Lib.hid (AB2.out.grown grow4 hne)
          have near4 : Below w2.heap.size w2 w4 := near2.grown grow4 near2.size (fun g e => (MR2.out.lt _ e).1)
          have lo : ∀ g, g < w2.heap.size → some g ≠ u11.ownBlock := fun g hg e => by have := MR2.out.lt _ e.symm; omega
          obtain ⟨hh0, hh1, hh2, hh3, hh4, hh5, hh6⟩ := hHeld
          have hHeld := And.intro (grow4.cell hh0 (lo _ (by dsimp only; omega))) (And.intro (grow4.cell hh1 hne) (And.intro (grow4.cell hh2 (lo _ (by dsimp only; omega))) (And.intro (grow4.cell hh3 (lo _ (by dsimp only; omega))) (And.intro (grow4.cell hh4 (lo _ (by dsimp only; omega))) (And.intro (grow4.cell hh5 (lo _ (by dsimp only; omega))) (grow4.cell hh6 (lo _ (by dsimp only; omega))))))))
          clear hh0 hh1 hh2 hh3 hh4 hh5 hh6
          obtain ⟨A4', c4', rfl⟩ := own_shape own4
          have ct := AB4.out.at_ k (atA_at H2.out)
          have ft := AB4.out.frozen k
          have M4 := Lib.hid (own_stored own4 (Stored.cell1 w4 ⟨w2.heap.size, k, none⟩ (.int .i64 ((j + 1 : Nat) : Int))) (own_ne own4 AB4.out (show 3 ≠ 38 by decide)))
          have T4 := Lib.hid (AB4.out.set k (.int .i64 ((j + 1 : Nat) : Int)))
          rw [atA_set] at T4
          have L4 := Lib.hid (gSet near4 (p := ⟨w2.heap.size, k, none⟩) (by dsimp only; omega) (.int .i64 ((j + 1 : Nat) : Int)))
          refine hK.out _ _ hHeld ?_
          clear hK K
          try simp only [Act.put]
          try simp only [List.setIfInBounds_toArray, List.set_cons_zero, List.set_cons_succ]
          refine takeFirst (i := 13) (v := ?_) rfl (by kernel_rfl) (by kernel_rfl) (by kernel_rfl) (by rfl) (fun _ _ _ h => h) ?_ (by assumption) ?_
          rotate_left
          · (intro w hSw; go_simp; try (with_reducible rfl))
          try simp only [Act.put, List.setIfInBounds_toArray, List.set_cons_zero, List.set_cons_succ]
          refine wpAnyH_done (by kernel_rfl) ?_ _
          refine NoPanic.normal ?_
          clear hHeld own4 grow4 hne near4 near2 lo MR2 AB2 AB4 news
          go_wp2_with fail
          go_roundw
          case rel => exact ⟨i + 1, by omega, by go_num, Lib.hid ⟨a.set k (j + 1), _, S ++ [⟨⟨xn, xk, xa, xv⟩, tv⟩], HP4.out, W1.out, by rw [SUM.out, HSM.out], by rw [List.length_append, HS.out]; rfl, by rw [List.append_assoc]; exact SQ.out, T4.out, by rw [List.length_append, elT.C_snoc]; exact M4.out⟩, L4.out⟩
          case measure => simp [intOf]; omega
        · obtain rfl : i = pk.length := by omega
          rw [List.drop_length] at hseq
          simp only [seqL, List.append_nil] at hseq
          have ALL := Lib.hid (all_taken hwi (hsum.trans PTOT.out))
          have WL := Lib.hid hwi.len
          have T0 : toldE 200 S = 0 := by
            unfold toldE
            rw [if_neg (by have := PL12.out; omega), runE_zero]
            intro d hd
            obtain ⟨t, ht, rfl⟩ := List.mem_map.1 hd
            rw [hseq] at ht
            obtain ⟨l, hl, htl⟩ := PIN.out t ht
            exact OKS.out l hl t htl
          have LB : legB m S = true := by rw [hseq]; exact PLG.out
          have RS : elT.R wr u11 S := Sl.ofOwn row
          obtain ⟨A7, c7, rfl⟩ := own_shape row
          have CL := Lib.hid fun wX h => LG.out (.slice A7 S.length c7) S wX h
          rw [T0, LB] at CL
          have RSH := Lib.hid RS
          have AB := Lib.hid ab
          have LW := Lib.hid (gCall low near)
          replace MB := MB.call near
          clear hpath hwi hsum hS hseq ab row T0 LB RS LG PIN PLG PLN PEND P3 OKS
          go_wp2_with fail
          go_loopw [96] (fun i wx => ∃ k : Nat, k ≤ logs.length ∧ i = .int .i64 k ∧ Below wr.heap.size wr wx) (fun i _ => logs.length - (intOf i).toNat)
          case atStart => exact ⟨0, Nat.zero_le _, rfl, Below.refl _ _⟩
          case round =>
            obtain ⟨k, hk, rfl, far⟩ := hrel
            by_cases hlt2 : k < logs.length
            · obtain ⟨b1, o1, rfl, hb1, hc1⟩ := L3.out (by omega)
              have h1 : logs[k]? = some logs[k] := List.getElem?_eq_getElem _
              generalize logs[k] = l at h1
              obtain ⟨A8, c8, e8, _⟩ := hc1 k l h1
              have cl := ((gCall LW.out far).cell (p := ⟨b1, o1 + k, none⟩) hb1).trans e8
              have h2 : a[k]? = some (a[k]'(by have := WL.out; omega)) := List.getElem?_eq_getElem _
              generalize a[k]'(by have := WL.out; omega) = j at h2
              obtain rfl : j = l.length := ALL.out k l j h1 h2
              have ct := (AB.out.call far).at_ k (atA_at h2)
              have k0 : (0 : Int) ≤ k := by omega
              have k1 : (k : Int) < logs.length := by omega
              clear hc1 h1 h2 e8
              rename World => wX
              go_wp2_with fail
              go_quiet (fail)
              go_wp2_with fail
              go_roundw
              case rel => exact ⟨k + 1, by omega, by go_num, gDrewN far _⟩
              case measure => simp [intOf]; omega
            · obtain rfl : k = logs.length := by omega
              replace MB := MB.call far
              have NX := gCall near far
              go_wp2_with ((with_reducible refine wp_loadMem (MB) ?_ ?_ ?_); rfl; rfl)
              (with_reducible refine (CL.out _ (RSH.out.call far)).mono ?_); rintro e w9 ⟨rfl, hb9⟩
              have NY := gCall NX hb9
              clear hb9 CL RSH AB
              go_wp2_with fail
              go_meet
              exact NY
  case rest =>
    replace low := gCall low hcut
    replace MB := MB.call hcut
    clear hcut XR
    by_cases h12 : 12 < r.length
    · have h12' : (12 : Int) < r.length := by omega
      clear h12
      go_wp2_with fail
      go_ret
      exact ⟨rfl, low⟩
    · have h12' : ¬ (12 : Int) < r.length := by omega
      have PL := Lib.hid (play_is m hm _ r wc (HD.out.call low))
      go_wp2_with ((with_reducible refine wp_loadMem (MB) ?_ ?_ ?_); rfl; rfl)
      (with_reducible refine PL.out.mono ?_); rintro e w3 ⟨⟨y, s, f, rfl, hy, pa⟩, hb⟩
      replace MB := MB.call hb
      replace low := gCall low hb
      have PA := Lib.hid pa
      have hAll : allE r = runE r := if_neg (by omega)
      have AE := Lib.hid hAll
      clear hb pa PL hAll
      replace MB := MB.alloc (.cells (memA y) 26)
      replace low := gAlloc low (.cells (memA y) 26)
      replace PA := Lib.hid (PA.out.call (gAlloc (Below.refl _ _) (.cells (memA y) 26)))
      by_cases hr : runE r = 0
      · rcases PA.out with ⟨h, -⟩ | ⟨-, -, rfl, told⟩
        · exact absurd (AE.out.trans hr) h
        obtain ⟨F1, F2, F3⟩ := mine_fine (m := m) hr (by omega)
        have MK := fun w => make_mine w
        obtain ⟨tl1, _, gt, rfl, tb⟩ := told
        clear PA
        have lw3 := low.size
        have hb := boxNext low 28 nil8
        replace low := gAlloc low (.cells nil8 28)
        replace MB := MB.alloc (.cells nil8 28)
        replace tb := tb.alloc (.cells nil8 28)
        try simp only [World.size_alloc] at hb
        go_wp2_with (first | (with_reducible refine wp_newMem ?_) | ((with_reducible refine wp_storeNew (zeroL_length) (hy) ?_ ?_ ?_); rfl; rfl))
        clear MK
        have SD := Side.start keyT ((w3.alloc (.cells (memA y) 26)).alloc (.cells nil8 28)) w.heap.size 8
        generalize (w3.alloc (.cells (memA y) 26)).alloc (.cells nil8 28) = wq at *
        simp only [World.size_alloc] at lw3
        have gB : w.heap.size ≤ w3.heap.size + 1 := by omega
        clear lw3
        generalize w3.heap.size + 1 = g8 at *
        have ND := Lib.hid (show ∀ x ∈ r, deedE x = 0 from runE_zero.1 hr)
        obtain ⟨_, A6, c6, e6, f1, f2, f3⟩ := HD.out
        obtain ⟨rfl, rfl⟩ : A5 = A6 ∧ c5 = c6 := by injection e6 with e5 _ e6; exact ⟨e5, e6⟩
        have R3 := Lib.hid f3
        unfold maxLen at f2
        have TL1 := Lib.hid tl1
        have FF := Lib.hid (And.intro F1 (And.intro F2 F3))
        have SD0 := Lib.hid SD
        clear e6 f3 F1 F2 F3 tl1 SD hr
        go_loopw [137] (fun i wr => ∃ j : Nat, j ≤ r.length ∧ i = .int .i64 j ∧ Hid (∃ us, Box wr g8 28 us.toArray ∧ Side keyT wr w.heap.size 8 us ((tdsL m r).take j)) ∧ Box wr gt 22 (memA (runV m r)) ∧ Mb wr w.heap.size m ∧ Below w.heap.size w wr) (fun i _ => r.length - (intOf i).toNat)
        case atStart => exact ⟨0, Nat.zero_le _, rfl, Lib.hid ⟨_, hb, SD0.out⟩, tb, MB, low⟩
        case round =>
          clear hb tb MB low SD0
          obtain ⟨j, hj, rfl, hus, tb, MB, low⟩ := hrel
          by_cases hlt : j < r.length
          · obtain ⟨us, hb, sd⟩ := hus.out
            clear hus
            obtain ⟨b2, o2, rfl, hb2, hc2⟩ := R3.out (by omega)
            have hx : r[j]? = some r[j] := List.getElem?_eq_getElem _
            generalize r[j] = x at hx
            have hv : (runV m r)[j]? = some ((runV m r)[j]'(by have := TL1.out; omega)) := List.getElem?_eq_getElem _
            generalize (runV m r)[j]'(by have := TL1.out; omega) = tv at hv
            obtain ⟨c0, c1, c2, c3⟩ := deedAt_of hc2 hb2 low hx
            have cv := tb.at_ j (show (memA (runV m r))[j]? = some (.int .u64 tv) by rw [memA, List.getElem?_toArray, List.getElem?_map, hv]; rfl)
            have TK := Lib.hid (show (tdsL m r).take (j + 1) = (tdsL m r).take j ++ [⟨x, tv⟩] by rw [List.take_add_one, tdsL_at hx hv]; rfl)
            have PL0 := Lib.hid (show ((tdsL m r).take j).length ≤ 12 by rw [List.length_take]; omega)
            have nd := (deedE_ok (ND.out x (List.mem_of_getElem? hx))).1
            generalize (tdsL m r).take j = P at *
            obtain ⟨dn, dk, da, dv⟩ := x
            simp only at c0 c1 c2 c3 nd TK
            obtain ⟨q, rfl⟩ : ∃ q : Nat, dn = q := ⟨dn.toNat, by omega⟩
            have q0 : (0 : Int) ≤ q := by omega
            have q8 : (q : Int) < 8 := by omega
            have hq : q < us.length := by rw [sd.len]; omega
            have hu : us[q]? = some us[q] := List.getElem?_eq_getElem _
            generalize us[q] = u at hu
            have HU := Lib.hid hu
            have hcu : us.toArray[q]? = some u := by rw [List.getElem?_toArray]; exact hu
            have PL := Lib.hid (Nat.le_trans (KeyEl.on_length (E := keyT) q P) PL0.out)
            have OL := Lib.hid fun g e => (sd.own q u hu).1.lt g e
            have j0 : (0 : Int) ≤ j := by omega
            have j1 : (j : Int) < r.length := by omega
            have lz := low.size
            have hbl := hb.lt
            have tbl := tb.lt
            have SD := Lib.hid (sd.alloc (.cells #[.int .i64 (q : Int), .int .i64 dk, .int .i64 da, .int .u64 dv] 36))
            clear hx hv hc2 hu nd sd PL0
            have db := boxNext low 36 #[.int .i64 (q : Int), .int .i64 dk, .int .i64 da, .int .u64 dv]
            replace low := gAlloc low (.cells #[.int .i64 (q : Int), .int .i64 dk, .int .i64 da, .int .u64 dv] 36)
            replace hb := hb.alloc (.cells #[.int .i64 (q : Int), .int .i64 dk, .int .i64 da, .int .u64 dv] 36)
            replace tb := tb.alloc (.cells #[.int .i64 (q : Int), .int .i64 dk, .int .i64 da, .int .u64 dv] 36)
            replace MB := MB.alloc (.cells #[.int .i64 (q : Int), .int .i64 dk, .int .i64 da, .int .u64 dv] 36)
            try simp only [World.size_alloc] at db
            go_wp2_with fail
            clear c0 c1 c2 c3
            have hqc := hb.at_ q hcu
            replace cv := callC (gAlloc (Below.refl _ _) (.cells #[.int .i64 (q : Int), .int .i64 dk, .int .i64 da, .int .u64 dv] 36)) cv
            generalize wr.alloc (.cells #[.int .i64 (q : Int), .int .i64 dk, .int .i64 da, .int .u64 dv] 36) = wy at *
            generalize wr.heap.size = gx at *
            have x0 : wy.cell? ⟨gx, 0, none⟩ = some (.int .i64 (q : Int)) := db.at_ 0 rfl
            have x1 : wy.cell? ⟨gx, 1, none⟩ = some (.int .i64 dk) := db.at_ 1 rfl
            have x2 : wy.cell? ⟨gx, 2, none⟩ = some (.int .i64 da) := db.at_ 2 rfl
            have x3 : wy.cell? ⟨gx, 3, none⟩ = some (.int .u64 dv) := db.at_ 3 rfl
            refine wp_region_noPanic ?_
            refine wp_region_held_drew (S := fun w' => w'.cell? ⟨gx, 0, none⟩ = some (.int .i64 (q : Int)) ∧ w'.cell? ⟨gx, 1, none⟩ = some (.int .i64 dk) ∧ w'.cell? ⟨gx, 2, none⟩ = some (.int .i64 da) ∧ w'.cell? ⟨gx, 3, none⟩ = some (.int .u64 dv) ∧ w'.cell? ⟨gt, j, none⟩ = some (.int .u64 tv)) (by kernel_rfl) ⟨drewC x0, drewC x1, drewC x2, drewC x3, drewC cv⟩ (fun hHeld => ?_)
            clear x0 x1 x2 x3 cv
            refine takeFirst (i := 0) (v := ?_) rfl (by kernel_rfl) (by kernel_rfl) (by kernel_rfl) (by rfl) (fun _ _ _ h => h) ?_ (by assumption) ?_
            rotate_left
            · (intro w hSw; go_simp; try (with_reducible rfl))
            try simp only [Act.put, List.setIfInBounds_toArray, List.set_cons_zero, List.set_cons_succ]
            refine takeFirst (i := 1) (v := ?_) rfl (by kernel_rfl) (by kernel_rfl) (by kernel_rfl) (by rfl) (fun _ _ _ h => h) ?_ (by assumption) ?_
            rotate_left
            · (intro w hSw; go_simp; try (with_reducible rfl))
            try simp only [Act.put, List.setIfInBounds_toArray, List.set_cons_zero, List.set_cons_succ]
            refine takeFirst (i := 2) (v := ?_) rfl (by kernel_rfl) (by kernel_rfl) (by kernel_rfl) (by rfl) (fun _ _ _ h => h) ?_ (by assumption) ?_
            rotate_left
            · (intro w hSw; go_simp; try (with_reducible rfl))
            try simp only [Act.put, List.setIfInBounds_toArray, List.set_cons_zero, List.set_cons_succ]
            refine takeFirst (i := 3) (v := ?_) rfl (by kernel_rfl) (by kernel_rfl) (by kernel_rfl) (by rfl) (fun _ _ _ h => h) ?_ (by assumption) ?_
            rotate_left
            · (intro w hSw; go_simp; try (with_reducible rfl))
            try simp only [Act.put, List.setIfInBounds_toArray, List.set_cons_zero, List.set_cons_succ]
            refine takeFirst (i := 4) (v := ?_) rfl (by kernel_rfl) (by kernel_rfl) (by kernel_rfl) (by rfl) (fun _ _ _ h => h) ?_ (by assumption) ?_
            rotate_left
            · (intro w hSw; go_simp; try (with_reducible rfl))
            try simp only [Act.put, List.setIfInBounds_toArray, List.set_cons_zero, List.set_cons_succ]
            refine takeFirst (i := 5) (v := ?_) rfl (by kernel_rfl) (by kernel_rfl) (by kernel_rfl) (by rfl) (fun _ _ _ h => h) ?_ (by assumption) ?_
            rotate_left
            · (intro w hSw; go_simp; try (with_reducible rfl))
            try simp only [Act.put, List.setIfInBounds_toArray, List.set_cons_zero, List.set_cons_succ]
            refine takeFirst (i := 6) (v := ?_) rfl (by kernel_rfl) (by kernel_rfl) (by kernel_rfl) (by rfl) (fun _ _ _ h => h) ?_ (by assumption) ?_
            rotate_left
            · (intro w hSw; go_simp; try (with_reducible rfl))
            try simp only [Act.put, List.setIfInBounds_toArray, List.set_cons_zero, List.set_cons_succ]
            refine takeFirst (i := 8) (v := ?_) rfl (by kernel_rfl) (by kernel_rfl) (by kernel_rfl) (by rfl) (fun _ _ _ h => h) ?_ (by assumption) ?_
            rotate_left
            · (intro w hSw; go_simp; try (with_reducible rfl))
            try simp only [Act.put, List.setIfInBounds_toArray, List.set_cons_zero, List.set_cons_succ]
            refine takeFirst (i := 9) (v := ?_) rfl (by kernel_rfl) (by kernel_rfl) (by kernel_rfl) (by rfl) (fun _ _ _ h => h) ?_ (by assumption) ?_
            rotate_left
            · (intro w hSw; go_simp; try (with_reducible rfl))
            try simp only [Act.put, List.setIfInBounds_toArray, List.set_cons_zero, List.set_cons_succ]
            refine takeFirst (i := 10) (v := ?_) rfl (by kernel_rfl) (by kernel_rfl) (by kernel_rfl) (by rfl) (fun _ _ _ h => h) ?_ (by assumption) ?_
            rotate_left
            · (intro w hSw; go_simp; try (with_reducible rfl))
            try simp only [Act.put, List.setIfInBounds_toArray, List.set_cons_zero, List.set_cons_succ]
            refine takeFirst (i := 11) (v := ?_) rfl (by kernel_rfl) (by kernel_rfl) (by kernel_rfl) (by rfl) (fun _ _ _ h => h) ?_ (by assumption) ?_
            rotate_left
            · (intro w hSw; go_simp; try (with_reducible rfl))
            try simp only [Act.put, List.setIfInBounds_toArray, List.set_cons_zero, List.set_cons_succ]
            refine takeFirst (i := 12) (v := ?_) rfl (by kernel_rfl) (by kernel_rfl) (by kernel_rfl) (by rfl) (fun _ _ _ h => h) ?_ (by assumption) ?_
            rotate_left
            · (intro w hSw; go_simp; try (with_reducible rfl))
            try simp only [Act.put, List.setIfInBounds_toArray, List.set_cons_zero, List.set_cons_succ]
            refine takeFirst (i := 13) (v := ?_) rfl (by kernel_rfl) (by kernel_rfl) (by kernel_rfl) (by rfl) (fun _ _ _ h => h) ?_ (by assumption) ?_
            rotate_left
            · (intro w hSw; go_simp; try (with_reducible rfl))
            try simp only [Act.put, List.setIfInBounds_toArray, List.set_cons_zero, List.set_cons_succ]
            have sd2 := (SD.out.alloc (.cells #[.int .i64 (q : Int), .int .i64 dk, .int .i64 da, .int .u64 dv, .int .u64 tv] 38)).drew
            have own : ((wy.alloc (.cells #[.int .i64 (q : Int), .int .i64 dk, .int .i64 da, .int .u64 dv, .int .u64 tv] 38)).drew).ownsRow w.heap.size 38 5 u (keyT.on q P).length (elT.C (keyT.on q P)) := (sd2.own q u HU.out).1
            have hb2 := (hb.alloc (.cells #[.int .i64 (q : Int), .int .i64 dk, .int .i64 da, .int .u64 dv, .int .u64 tv] 38)).drew
            have tb2 := (tb.alloc (.cells #[.int .i64 (q : Int), .int .i64 dk, .int .i64 da, .int .u64 dv, .int .u64 tv] 38)).drew
            have MB2 := (MB.alloc (.cells #[.int .i64 (q : Int), .int .i64 dk, .int .i64 da, .int .u64 dv, .int .u64 tv] 38)).drew
            have xb2 := (db.alloc (.cells #[.int .i64 (q : Int), .int .i64 dk, .int .i64 da, .int .u64 dv, .int .u64 tv] 38)).drew
            have low2 := (gAlloc low (.cells #[.int .i64 (q : Int), .int .i64 dk, .int .i64 da, .int .u64 dv, .int .u64 tv] 38)).drew
            have news := Lib.hid fun i u' h => told_new wy 38 ⟨⟨(q : Int), dk, da, dv⟩, tv⟩ wy.heap.size i u' rfl h
            have lo2 := low2.size
            clear SD hb tb MB db low
            refine stepTwo (i1 := 7) (i2 := 14) (by kernel_rfl) rfl rfl (by rfl) (by rfl) (fun K hK => ?_) (fun K hK => ?_)
            · go_simp
              refine hK.out _ _ hHeld ?_
              clear hK K
              try simp only [Act.put]
              try simp only [List.setIfInBounds_toArray, List.set_cons_zero, List.set_cons_succ]
              refine stepNext (i := 14) (by kernel_rfl) rfl (by rfl) (fun K hK => ?_)
              go_simp
              obtain ⟨hh0, hh1, hh2, hh3, hh4⟩ := hHeld
              have hHeld := (And.intro (drewC (allocC (.cells #[.int .i64 (q : Int), .int .i64 dk, .int .i64 da, .int .u64 dv, .int .u64 tv] 38) hh0)) (And.intro (drewC (allocC (.cells #[.int .i64 (q : Int), .int .i64 dk, .int .i64 da, .int .u64 dv, .int .u64 tv] 38) hh1)) (And.intro (drewC (allocC (.cells #[.int .i64 (q : Int), .int .i64 dk, .int .i64 da, .int .u64 dv, .int .u64 tv] 38) hh2)) (And.intro (drewC (allocC (.cells #[.int .i64 (q : Int), .int .i64 dk, .int .i64 da, .int .u64 dv, .int .u64 tv] 38) hh3)) (drewC (allocC (.cells #[.int .i64 (q : Int), .int .i64 dk, .int .i64 da, .int .u64 dv, .int .u64 tv] 38) hh4))))))
              clear hh0 hh1 hh2 hh3 hh4
              refine hK.out _ _ hHeld ?_
              clear hK K
              try simp only [Act.put]
              try simp only [List.setIfInBounds_toArray, List.set_cons_zero, List.set_cons_succ]
              refine stepNext (i := 15) (by kernel_rfl) rfl (by rfl) (fun K hK => ?_)
              refine wp_append_own _ (.tmp 149) (.tmp 156) 28 rfl w.heap.size 38 i0 (.agg #[.int .i64 0, .int .i64 0, .int .i64 0, .int .u64 0, .int .u64 0]) 5 40 Try.underlying28 HI.out HZ.out.1 HZ.out.2.1 HZ.out.2.2 rfl (by decide) _ _ _ rfl own ⟨wy.heap.size, 0, none⟩ 1 1 (Td.cells ⟨⟨(q : Int), dk, da, dv⟩, tv⟩) rfl rfl news.out (elT.one _) ?f3 ?f4 ?f5 ?_
              case f3 => have := PL.out; unfold maxLen; omega
              case f4 => have := PL.out; omega
              case f5 => exact lo2
              intro v4 w4 own4 grow4 _
              have hb4 := hb2.grown grow4 (own_ne own hb2 (by decide))
              have tb4 := tb2.grown grow4 (own_ne own tb2 (by decide))
              have MB4 : Mb w4 w.heap.size m := ⟨MB2.1.grown grow4 (own_ne own MB2.1 (by decide)), MB2.2⟩
              have sd4 := sd2.push HU.out (c := ⟨⟨(q : Int), dk, da, dv⟩, tv⟩) rfl own4 grow4
              have low4 : Below w.heap.size w w4 := low2.grown grow4 lo2 (fun g e => (own.lt _ e).1)
              obtain ⟨A4, c4, rfl⟩ := own_shape own4
              obtain ⟨hh0, hh1, hh2, hh3, hh4⟩ := hHeld
              have nx := own_ne own xb2 (show 36 ≠ 38 by decide)
              have nt := own_ne own tb2 (show 22 ≠ 38 by decide)
              have hHeld := And.intro (grow4.cell hh0 nx) (And.intro (grow4.cell hh1 nx) (And.intro (grow4.cell hh2 nx) (And.intro (grow4.cell hh3 nx) (grow4.cell hh4 nt))))
              have xb4 := xb2.grown grow4 nx
              clear hh0 hh1 hh2 hh3 hh4
              refine hK.out _ _ hHeld ?_
              clear hK K
              try simp only [Act.put]
              try simp only [List.setIfInBounds_toArray, List.set_cons_zero, List.set_cons_succ]
              refine takeFirst (i := 16) (v := ?_) rfl (by kernel_rfl) (by kernel_rfl) (by kernel_rfl) (by rfl) (fun _ _ _ h => h) ?_ (by assumption) ?_
              rotate_left
              · (intro w hSw; go_simp; try (with_reducible rfl))
              try simp only [Act.put, List.setIfInBounds_toArray, List.set_cons_zero, List.set_cons_succ]
              refine stepNext (i := 17) (by kernel_rfl) rfl (by rfl) (fun K hK => ?_)
              have hq4 := hb4.at_ q hcu
              have hf4 := hb4.frozen q
              go_simp
              have st5 : Stored w4 g8 (w4.setCell ⟨g8, q, none⟩ (.slice A4 ((keyT.on q P).length + 1) c4)) := Stored.cell1 w4 ⟨g8, q, none⟩ _
              have hb5 := hb4.set q (.slice A4 ((keyT.on q P).length + 1) c4)
              rw [List.setIfInBounds_toArray] at hb5
              have tb5 := st5.box tb4 (box_ne tb4 hb4 (by decide))
              have MB5 : Mb (w4.setCell ⟨g8, q, none⟩ (.slice A4 ((keyT.on q P).length + 1) c4)) w.heap.size m := ⟨st5.box MB4.1 (box_ne MB4.1 hb4 (by decide)), MB4.2⟩
              have SD5 := Lib.hid (sd4.stored hb4 (show 28 ≠ 38 by decide) st5)
              have low5 := st5.low low4 gB
              obtain ⟨hh0, hh1, hh2, hh3, hh4⟩ := hHeld
              have gxn := box_ne xb4 hb4 (by decide)
              have gtn := box_ne tb4 hb4 (by decide)
              have hHeld := And.intro (st5.cell (by exact gxn) hh0) (And.intro (st5.cell (by exact gxn) hh1) (And.intro (st5.cell (by exact gxn) hh2) (And.intro (st5.cell (by exact gxn) hh3) (st5.cell (by exact gtn) hh4))))
              clear hh0 hh1 hh2 hh3 hh4 st5 sd4 hb4 tb4 MB4 low4 hq4 hf4 grow4 own4 own sd2 hb2 tb2 MB2 xb2 xb4 low2 nx nt gxn gtn
              generalize w4.setCell ⟨g8, q, none⟩ (.slice A4 ((keyT.on q P).length + 1) c4) = w5 at *
              refine hK.out _ _ hHeld ?_
              clear hK K
              try simp only [Act.put]
              try simp only [List.setIfInBounds_toArray, List.set_cons_zero, List.set_cons_succ]
              clear hHeld
              refine wpAnyH_done (by kernel_rfl) ?_ _
              refine NoPanic.normal ?_
              go_wp2_with fail
              go_roundw
              case rel => exact ⟨j + 1, by omega, by go_num, Lib.hid ⟨_, hb5, by rw [TK.out]; exact SD5.out⟩, tb5, MB5, low5⟩
              case measure => simp [intOf]; omega
            · go_simp
              obtain ⟨hh0, hh1, hh2, hh3, hh4⟩ := hHeld
              have hHeld := (And.intro (drewC (allocC (.cells #[.int .i64 (q : Int), .int .i64 dk, .int .i64 da, .int .u64 dv, .int .u64 tv] 38) hh0)) (And.intro (drewC (allocC (.cells #[.int .i64 (q : Int), .int .i64 dk, .int .i64 da, .int .u64 dv, .int .u64 tv] 38) hh1)) (And.intro (drewC (allocC (.cells #[.int .i64 (q : Int), .int .i64 dk, .int .i64 da, .int .u64 dv, .int .u64 tv] 38) hh2)) (And.intro (drewC (allocC (.cells #[.int .i64 (q : Int), .int .i64 dk, .int .i64 da, .int .u64 dv, .int .u64 tv] 38) hh3)) (drewC (allocC (.cells #[.int .i64 (q : Int), .int .i64 dk, .int .i64 da, .int .u64 dv, .int .u64 tv] 38) hh4))))))
              clear hh0 hh1 hh2 hh3 hh4
              refine hK.out _ _ hHeld ?_
              clear hK K
              try simp only [Act.put]
              try simp only [List.setIfInBounds_toArray, List.set_cons_zero, List.set_cons_succ]
              have hqc2 := hb2.at_ q hcu
              refine stepNext (i := 7) (by kernel_rfl) rfl (by rfl) (fun K hK => ?_)
              go_simp
              refine hK.out _ _ hHeld ?_
              clear hK K
              try simp only [Act.put]
              try simp only [List.setIfInBounds_toArray, List.set_cons_zero, List.set_cons_succ]
              refine stepNext (i := 15) (by kernel_rfl) rfl (by rfl) (fun K hK => ?_)
              refine wp_append_own _ (.tmp 149) (.tmp 156) 28 rfl w.heap.size 38 i0 (.agg #[.int .i64 0, .int .i64 0, .int .i64 0, .int .u64 0, .int .u64 0]) 5 40 Try.underlying28 HI.out HZ.out.1 HZ.out.2.1 HZ.out.2.2 rfl (by decide) _ _ _ rfl own ⟨wy.heap.size, 0, none⟩ 1 1 (Td.cells ⟨⟨(q : Int), dk, da, dv⟩, tv⟩) rfl rfl news.out (elT.one _) ?f3 ?f4 ?f5 ?_
              case f3 => have := PL.out; unfold maxLen; omega
              case f4 => have := PL.out; omega
              case f5 => exact lo2
              intro v4 w4 own4 grow4 _
              have hb4 := hb2.grown grow4 (own_ne own hb2 (by decide))
              have tb4 := tb2.grown grow4 (own_ne own tb2 (by decide))
              have MB4 : Mb w4 w.heap.size m := ⟨MB2.1.grown grow4 (own_ne own MB2.1 (by decide)), MB2.2⟩
              have sd4 := sd2.push HU.out (c := ⟨⟨(q : Int), dk, da, dv⟩, tv⟩) rfl own4 grow4
              have low4 : Below w.heap.size w w4 := low2.grown grow4 lo2 (fun g e => (own.lt _ e).1)
              obtain ⟨A4, c4, rfl⟩ := own_shape own4
              obtain ⟨hh0, hh1, hh2, hh3, hh4⟩ := hHeld
              have nx := own_ne own xb2 (show 36 ≠ 38 by decide)
              have nt := own_ne own tb2 (show 22 ≠ 38 by decide)
              have hHeld := And.intro (grow4.cell hh0 nx) (And.intro (grow4.cell hh1 nx) (And.intro (grow4.cell hh2 nx) (And.intro (grow4.cell hh3 nx) (grow4.cell hh4 nt))))
              have xb4 := xb2.grown grow4 nx
              clear hh0 hh1 hh2 hh3 hh4
              refine hK.out _ _ hHeld ?_
              clear hK K
              try simp only [Act.put]
              try simp only [List.setIfInBounds_toArray, List.set_cons_zero, List.set_cons_succ]
              refine takeFirst (i := 16) (v := ?_) rfl (by kernel_rfl) (by kernel_rfl) (by kernel_rfl) (by rfl) (fun _ _ _ h => h) ?_ (by assumption) ?_
              rotate_left
              · (intro w hSw; go_simp; try (with_reducible rfl))
              try simp only [Act.put, List.setIfInBounds_toArray, List.set_cons_zero, List.set_cons_succ]
              refine stepNext (i := 17) (by kernel_rfl) rfl (by rfl) (fun K hK => ?_)
              have hq4 := hb4.at_ q hcu
              have hf4 := hb4.frozen q
              go_simp
              have st5 : Stored w4 g8 (w4.setCell ⟨g8, q, none⟩ (.slice A4 ((keyT.on q P).length + 1) c4)) := Stored.cell1 w4 ⟨g8, q, none⟩ _
              have hb5 := hb4.set q (.slice A4 ((keyT.on q P).length + 1) c4)
              rw [List.setIfInBounds_toArray] at hb5
              have tb5 := st5.box tb4 (box_ne tb4 hb4 (by decide))
              have MB5 : Mb (w4.setCell ⟨g8, q, none⟩ (.slice A4 ((keyT.on q P).length + 1) c4)) w.heap.size m := ⟨st5.box MB4.1 (box_ne MB4.1 hb4 (by decide)), MB4.2⟩
              have SD5 := Lib.hid (sd4.stored hb4 (show 28 ≠ 38 by decide) st5)
              have low5 := st5.low low4 gB
              obtain ⟨hh0, hh1, hh2, hh3, hh4⟩ := hHeld
              have gxn := box_ne xb4 hb4 (by decide)
              have gtn := box_ne tb4 hb4 (by decide)
              have hHeld := And.intro (st5.cell (by exact gxn) hh0) (And.intro (st5.cell (by exact gxn) hh1) (And.intro (st5.cell (by exact gxn) hh2) (And.intro (st5.cell (by exact gxn) hh3) (st5.cell (by exact gtn) hh4))))
              clear hh0 hh1 hh2 hh3 hh4 st5 sd4 hb4 tb4 MB4 low4 hq4 hf4 grow4 own4 own sd2 hb2 tb2 MB2 xb2 xb4 low2 nx nt gxn gtn
              generalize w4.setCell ⟨g8, q, none⟩ (.slice A4 ((keyT.on q P).length + 1) c4) = w5 at *
              refine hK.out _ _ hHeld ?_
              clear hK K
              try simp only [Act.put]
              try simp only [List.setIfInBounds_toArray, List.set_cons_zero, List.set_cons_succ]
              clear hHeld
              refine wpAnyH_done (by kernel_rfl) ?_ _
              refine NoPanic.normal ?_
              go_wp2_with fail
              go_roundw
              case rel => exact ⟨j + 1, by omega, by go_num, Lib.hid ⟨_, hb5, by rw [TK.out]; exact SD5.out⟩, tb5, MB5, low5⟩
              case measure => simp [intOf]; omega
          · obtain rfl : j = r.length := by omega
            obtain ⟨us, hb, sd⟩ := hus.out
            rw [← tdsL_length m r, List.take_length] at sd
            have RR := sd.rr hb (by unfold maxLen; decide)
            have CL := Lib.hid (EX2.out _ _ _ FF.out.2.2 RR)
            rw [FF.out.1] at CL
            clear hus hb sd tb RR
            go_wp2_with ((with_reducible refine wp_loadMem (MB) ?_ ?_ ?_); rfl; rfl)
            (with_reducible refine CL.out.mono ?_); rintro e w4 ⟨⟨A7, n7, c7, B7, rfl, ex7⟩, hb7⟩
            replace low := gCall low hb7
            rcases ex7 with ⟨h, _⟩ | ⟨_, hB, _, _⟩
            · exact absurd rfl h
            obtain rfl : B7 = true := by rw [hB]; exact FF.out.2.1
            clear hb7 CL hB
            go_wp2_with fail
            go_ret
            exact ⟨rfl, low⟩
      · rcases PA.out with ⟨-, -, rfl, rfl⟩ | ⟨h, -⟩
        · have hf : (allE r != 0) = true := by rw [AE.out]; simpa using hr
          clear PA AE hr
          go_wp2_with (first | (with_reducible refine wp_newMem ?_) | ((with_reducible refine wp_storeNew (zeroL_length) (hy) ?_ ?_ ?_); rfl; rfl))
          go_ret
          exact ⟨rfl, low⟩
        · exact absurd (AE.out.symm.trans h) hr
end Go.Proofs.Ytgoaedbhcldmiaa.orderFinds
