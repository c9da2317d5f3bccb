/-
Proved: the law 'MachineRight' returns true for every argument, and changes nothing that was there. Conditions: what New, Check and Step of package machine give (handed in).
-/
import Derived.Test.YtgdacpcifnpojaaGreatJoined8
namespace Go.Proofs.YtgdacpcifnpojaaGreat.machineRight
open Go.ChangeShapes Go.WideShapes Go.ChangeAt Go.RowKit Go.Joins

/-- How much further the first j nodes are. -/
def psum (M M' : Mc) (j : Nat) : Int := ((List.range j).map fun k => M'.at_.getD k 0 - M.at_.getD k 0).sum
theorem psum_succ (M M' : Mc) (j : Nat) : psum M M' (j + 1) = psum M M' j + (M'.at_.getD j 0 - M.at_.getD j 0) := by
  unfold psum
  rw [List.range_succ, List.map_append, List.sum_append]
  simp
theorem psum_range {M M' : Mc} (h : ∀ k, M.at_.getD k 0 ≤ M'.at_.getD k 0 ∧ M'.at_.getD k 0 ≤ M.at_.getD k 0 + 1) : ∀ j : Nat, 0 ≤ psum M M' j ∧ psum M M' j ≤ j
  | 0 => by simp [psum]
  | j + 1 => by
    have := psum_range h j
    have := h j
    rw [psum_succ]
    omega
theorem ints_read {w w' : World} {A : Option Addr} {n c : Nat} {xs : List Int} (h : Sl w w.heap.size 1 (.slice A n c) xs.length (xs.map (Value.int .i64))) (low : Below w.heap.size w w') {k : Nat} (hk : k < xs.length) : ∃ b o, A = some ⟨b, o, none⟩ ∧ w'.cell? ⟨b, o + k, none⟩ = some (.int .i64 (xs.getD k 0)) := by
  obtain ⟨_, A', c', e, h1, h2, h3⟩ := h
  injection e with e1 e2 e3
  subst e1
  obtain ⟨b, o, rfl, hb, hc⟩ := h3 (by omega)
  refine ⟨b, o, rfl, int_at hc hb low ?_⟩
  simp [List.getD, List.getElem?_eq_getElem hk]

set_option maxRecDepth 10000 in
set_option maxHeartbeats 4000000 in
theorem walk_bad (NI : MNewIs) (CI : MCheckIs) (v : Value) (M : Mc) (w : World) (h : MRead w v M) (hE : mcE M ≠ 0) :
    Calls Tryz.prog 3 #[v] w fun e w' => e = .returned (.bool true) ∧ Below w.heap.size w w' := by
  have YES := Lib.hid fun w => machines_yes NI w
  have HR := Lib.hid h
  have CK := Lib.hid fun w h => CI v M w h
  have m64 := h.m64
  obtain ⟨A0, c0, A1, c1, A2, c2, A3, c3, A4, c4, rfl, _, _, _, _, _⟩ := h.shape
  have sz : (mcA M.n M.s M.y M.b (.slice A0 M.css.length c0) M.mem (.slice A1 M.ring.length c1) (.slice A2 M.pr.length c2) (.slice A3 M.at_.length c3) (.slice A4 M.wts.length c4) M.had).size = (mcA 0 0 0 0 (.slice none 0 0) zeroL (.slice none 0 0) (.slice none 0 0) (.slice none 0 0) (.slice none 0 0) 0).size := by rw [mcA_size m64, mcA_size zeroL_length]
  generalize mcE M = E at *
  have hE' : (E != 0) = true := by simpa using hE
  clear h hE m64
  have low := Below.refl w.heap.size w
  have mb := boxNext low 37 (mcA M.n M.s M.y M.b (.slice A0 M.css.length c0) M.mem (.slice A1 M.ring.length c1) (.slice A2 M.pr.length c2) (.slice A3 M.at_.length c3) (.slice A4 M.wts.length c4) M.had)
  replace low := gAlloc low (.cells (mcA M.n M.s M.y M.b (.slice A0 M.css.length c0) M.mem (.slice A1 M.ring.length c1) (.slice A2 M.pr.length c2) (.slice A3 M.at_.length c3) (.slice A4 M.wts.length c4) M.had) 37)
  try simp only [World.size_alloc] at mb
  go_enter Tryz.func3, Tryz.ntmps3
  go_wp2_with fail
  (with_reducible refine (YES.out _).mono ?_); rintro e w1 ⟨rfl, hb⟩
  replace mb := mb.call hb
  replace low := gCall low hb
  clear hb YES
  go_wp2_with ((with_reducible refine wp_loadW (tyMach) (mb.range) (sz) ?_ ?_ ?_); rfl; rfl)
  (with_reducible refine (CK.out _ (HR.out.call low)).mono ?_); rintro e w2 ⟨rfl, hb⟩
  replace mb := mb.call hb
  replace low := gCall low hb
  clear hb
  go_wp2_with fail
  go_ret
  exact ⟨rfl, low⟩
theorem full_or {M : Mc} (ok : McOk M) : (999991 < M.had ∧ stepE M = 7) ∨ (M.had ≤ 999991 ∧ stepE M = 0) := by
  unfold stepE
  rw [if_neg (by simpa using mcE_zero.2 ok)]
  by_cases h : 999991 < M.had
  · exact .inl ⟨h, if_pos h⟩
  · exact .inr ⟨by omega, if_neg h⟩
theorem at_few {M : Mc} (ok : McOk M) {k : Nat} (hk : k < M.at_.length) : 0 ≤ M.at_.getD k 0 ∧ M.at_.getD k 0 ≤ 20 := by
  obtain ⟨x, l, hx, hl, gx, gl, x0, x1⟩ := ok.there hk
  have := (listE_zero.1 (progsE_zero ok.prg).2.2 k l hl).1
  omega
set_option maxRecDepth 10000 in
set_option maxHeartbeats 4000000 in
theorem walk_full (NI : MNewIs) (CI : MCheckIs) (SI : MStepIs) (v : Value) (M : Mc) (w : World) (h : MRead w v M) (ok : McOk M) (hh : 999991 < M.had) :
    Calls Tryz.prog 3 #[v] w fun e w' => e = .returned (.bool true) ∧ Below w.heap.size w w' := by
  have YES := Lib.hid fun w => machines_yes NI w
  have HR := Lib.hid h
  have CK := Lib.hid fun w h => CI v M w h
  have ST := Lib.hid fun w h => SI v M w h
  have m64 := h.m64
  obtain ⟨A0, c0, A1, c1, A2, c2, A3, c3, A4, c4, rfl, _, _, _, _, _⟩ := h.shape
  have sz : (mcA M.n M.s M.y M.b (.slice A0 M.css.length c0) M.mem (.slice A1 M.ring.length c1) (.slice A2 M.pr.length c2) (.slice A3 M.at_.length c3) (.slice A4 M.wts.length c4) M.had).size = (mcA 0 0 0 0 (.slice none 0 0) zeroL (.slice none 0 0) (.slice none 0 0) (.slice none 0 0) (.slice none 0 0) 0).size := by rw [mcA_size m64, mcA_size zeroL_length]
  rw [mcE_zero.2 ok] at CK
  have e7 : stepE M = 7 := by
    rcases full_or ok with ⟨_, e⟩ | ⟨h, _⟩
    · exact e
    · omega
  rw [e7] at ST
  have on := mcA_one (n := 0) (s := 0) (y := 0) (b := 0) (A0 := none) (A1 := none) (A2 := none) (A3 := none) (A4 := none) (n0 := 0) (n1 := 0) (n2 := 0) (n3 := 0) (n4 := 0) (c0 := 0) (c1 := 0) (c2 := 0) (c3 := 0) (c4 := 0) (m := zeroL) (h := 0)
  clear h m64 ok hh e7
  have low := Below.refl w.heap.size w
  have mb := boxNext low 37 (mcA M.n M.s M.y M.b (.slice A0 M.css.length c0) M.mem (.slice A1 M.ring.length c1) (.slice A2 M.pr.length c2) (.slice A3 M.at_.length c3) (.slice A4 M.wts.length c4) M.had)
  replace low := gAlloc low (.cells (mcA M.n M.s M.y M.b (.slice A0 M.css.length c0) M.mem (.slice A1 M.ring.length c1) (.slice A2 M.pr.length c2) (.slice A3 M.at_.length c3) (.slice A4 M.wts.length c4) M.had) 37)
  try simp only [World.size_alloc] at mb
  go_enter Tryz.func3, Tryz.ntmps3
  go_wp2_with fail
  (with_reducible refine (YES.out _).mono ?_); rintro e w1 ⟨rfl, hb⟩
  replace mb := mb.call hb
  replace low := gCall low hb
  clear hb YES
  go_wp2_with ((with_reducible refine wp_loadW (tyMach) (mb.range) (sz) ?_ ?_ ?_); rfl; rfl)
  (with_reducible refine (CK.out _ (HR.out.call low)).mono ?_); rintro e w2 ⟨rfl, hb⟩
  replace mb := mb.call hb
  replace low := gCall low hb
  clear hb
  go_wp2_with ((with_reducible refine wp_loadW (tyMach) (mb.range) (sz) ?_ ?_ ?_); rfl; rfl)
  (with_reducible refine (ST.out _ (HR.out.call low)).mono ?_); rintro e w3 ⟨⟨v3, u3, rfl, gv⟩, hb⟩
  replace mb := mb.call hb
  replace low := gCall low hb
  clear hb ST
  rcases gv with ⟨_, rfl, rfl⟩ | ⟨h0, _⟩
  · simp only [mc0]
    go_wp2_with (first | (with_reducible refine wp_newW (tyMach) ?_) | ((with_reducible refine wp_freshW (tyMach) (rfl) (rfl) (on) ?_ ?_ ?_); rfl; rfl))
    go_ret
    exact ⟨rfl, gAlloc low _⟩
  · cases h0
set_option maxRecDepth 10000 in
set_option maxHeartbeats 8000000 in
theorem walk_good (NI : MNewIs) (CI : MCheckIs) (SI : MStepIs) (v : Value) (M : Mc) (w : World) (h : MRead w v M) (ok : McOk M) (hh : M.had ≤ 999991) :
    Calls Tryz.prog 3 #[v] w fun e w' => e = .returned (.bool true) ∧ Below w.heap.size w w' := by
  have YES := Lib.hid fun w => machines_yes NI w
  have HR := Lib.hid h
  have CK := Lib.hid fun w h => CI v M w h
  have ST := Lib.hid fun w h => SI v M w h
  have m64 := h.m64
  obtain ⟨A0, c0, A1, c1, A2, c2, A3, c3, A4, c4, rfl, _, _, _, rat, _⟩ := h.shape
  have CI2 := Lib.hid CI
  have sz : (mcA M.n M.s M.y M.b (.slice A0 M.css.length c0) M.mem (.slice A1 M.ring.length c1) (.slice A2 M.pr.length c2) (.slice A3 M.at_.length c3) (.slice A4 M.wts.length c4) M.had).size = (mcA 0 0 0 0 (.slice none 0 0) zeroL (.slice none 0 0) (.slice none 0 0) (.slice none 0 0) (.slice none 0 0) 0).size := by rw [mcA_size m64, mcA_size zeroL_length]
  rw [mcE_zero.2 ok] at CK
  have e0 : stepE M = 0 := by
    rcases full_or ok with ⟨h, _⟩ | ⟨_, e⟩
    · omega
    · exact e
  rw [e0] at ST
  have mid := cyc_mid didF_ok ok m64 hh
  have EACH := Lib.hid (cyc_each didF_ok ok m64 hh)
  have COUNT := Lib.hid (cyc_count didF_ok ok m64 hh)
  have ok2 := mid.ok
  have m64' := mid.m64
  have alen : (cycM didF M).1.at_.length = M.at_.length := mid.alen
  have OK := Lib.hid ok
  have OK2 := Lib.hid ok2
  have RAT := Lib.hid rat
  have n8 := ok.nodes
  have ln := ok.len
  have at8 : M.at_.length ≤ 8 := by omega
  have t71 := mcA_tail (n := M.n) (s := M.s) (y := M.y) (b := M.b) (u := .slice A0 M.css.length c0) (rv := .slice A1 M.ring.length c1) (pv := .slice A2 M.pr.length c2) (av := .slice A3 M.at_.length c3) (tv := .slice A4 M.wts.length c4) (h := M.had) m64 2
  clear h ok hh e0 mid ok2 rat n8 ln
  have low := Below.refl w.heap.size w
  have mb := boxNext low 37 (mcA M.n M.s M.y M.b (.slice A0 M.css.length c0) M.mem (.slice A1 M.ring.length c1) (.slice A2 M.pr.length c2) (.slice A3 M.at_.length c3) (.slice A4 M.wts.length c4) M.had)
  replace low := gAlloc low (.cells (mcA M.n M.s M.y M.b (.slice A0 M.css.length c0) M.mem (.slice A1 M.ring.length c1) (.slice A2 M.pr.length c2) (.slice A3 M.at_.length c3) (.slice A4 M.wts.length c4) M.had) 37)
  try simp only [World.size_alloc] at mb
  go_enter Tryz.func3, Tryz.ntmps3
  go_wp2_with fail
  (with_reducible refine (YES.out _).mono ?_); rintro e w1 ⟨rfl, hb⟩
  replace mb := mb.call hb
  replace low := gCall low hb
  clear hb YES
  go_wp2_with ((with_reducible refine wp_loadW (tyMach) (mb.range) (sz) ?_ ?_ ?_); rfl; rfl)
  (with_reducible refine (CK.out _ (HR.out.call low)).mono ?_); rintro e w2 ⟨rfl, hb⟩
  replace mb := mb.call hb
  replace low := gCall low hb
  clear hb
  go_wp2_with ((with_reducible refine wp_loadW (tyMach) (mb.range) (sz) ?_ ?_ ?_); rfl; rfl)
  (with_reducible refine (ST.out _ (HR.out.call low)).mono ?_); rintro e w3 ⟨⟨v3, u3, rfl, gv⟩, hb⟩
  replace mb := mb.call hb
  replace low := gCall low hb
  clear hb ST
  rcases gv with ⟨h0, _⟩ | ⟨_, rd, el⟩
  · exact absurd rfl h0
  unfold cyc at rd el
  obtain ⟨B0, d0, B1, d1, B2, d2, B3, d3, B4, d4, rfl, _, _, _, rat2, _⟩ := rd.shape
  obtain ⟨Au, cu, rfl⟩ := el.shape
  have RD := Lib.hid rd
  have RAT2 := Lib.hid rat2
  have LW3 := Lib.hid low
  have sz2 : (mcA (cycM didF M).1.n (cycM didF M).1.s (cycM didF M).1.y (cycM didF M).1.b (.slice B0 (cycM didF M).1.css.length d0) (cycM didF M).1.mem (.slice B1 (cycM didF M).1.ring.length d1) (.slice B2 (cycM didF M).1.pr.length d2) (.slice B3 (cycM didF M).1.at_.length d3) (.slice B4 (cycM didF M).1.wts.length d4) (cycM didF M).1.had).size = (mcA 0 0 0 0 (.slice none 0 0) zeroL (.slice none 0 0) (.slice none 0 0) (.slice none 0 0) (.slice none 0 0) 0).size := by rw [mcA_size m64', mcA_size zeroL_length]
  have t71' := mcA_tail (n := (cycM didF M).1.n) (s := (cycM didF M).1.s) (y := (cycM didF M).1.y) (b := (cycM didF M).1.b) (u := .slice B0 (cycM didF M).1.css.length d0) (rv := .slice B1 (cycM didF M).1.ring.length d1) (pv := .slice B2 (cycM didF M).1.pr.length d2) (av := .slice B3 (cycM didF M).1.at_.length d3) (tv := .slice B4 (cycM didF M).1.wts.length d4) (h := (cycM didF M).1.had) m64' 2
  have on : (mcA (cycM didF M).1.n (cycM didF M).1.s (cycM didF M).1.y (cycM didF M).1.b (.slice B0 (cycM didF M).1.css.length d0) (cycM didF M).1.mem (.slice B1 (cycM didF M).1.ring.length d1) (.slice B2 (cycM didF M).1.pr.length d2) (.slice B3 (cycM didF M).1.at_.length d3) (.slice B4 (cycM didF M).1.wts.length d4) (cycM didF M).1.had).all (·.oneCell') = true := mcA_one
  generalize hX : mcA (cycM didF M).1.n (cycM didF M).1.s (cycM didF M).1.y (cycM didF M).1.b (.slice B0 (cycM didF M).1.css.length d0) (cycM didF M).1.mem (.slice B1 (cycM didF M).1.ring.length d1) (.slice B2 (cycM didF M).1.pr.length d2) (.slice B3 (cycM didF M).1.at_.length d3) (.slice B4 (cycM didF M).1.wts.length d4) (cycM didF M).1.had = XA at *
  clear hX rd rat2 el m64'
  generalize hes : (cycM didF M).2.length = ne at *
  generalize hM : (cycM didF M).1 = M' at *
  have xb := Box.new w3 37 XA
  replace mb := mb.alloc (.cells XA 37)
  replace low := gAlloc low (.cells XA 37)
  have RAT3 := Lib.hid (Sl.call RAT2.out (gAlloc (Below.refl w3.heap.size w3) (.cells XA 37)))
  have RD3 := Lib.hid (RD.out.call (gAlloc (Below.refl w3.heap.size w3) (.cells XA 37)))
  clear hes hM RAT2 RD
  have cm0 := mb.at_ 71 t71
  have cx0 := xb.at_ 71 t71'
  go_wp2_with (first | (with_reducible refine wp_newW (tyMach) ?_) | ((with_reducible refine wp_freshW (tyMach) (rfl) (sz2) (on) ?_ ?_ ?_); rfl; rfl))
  clear cm0 cx0 on
  generalize w3.alloc (.cells XA 37) = wL at *
  generalize w3.heap.size = gx at *
  have MB := Lib.hid mb
  have XB := Lib.hid xb
  have LW := Lib.hid low
  clear mb xb low LW3
  go_loopw [6, 31] (fun nv i wr => ∃ j : Nat, j ≤ M'.at_.length ∧ i = .int .i64 j ∧ nv = .int .i64 (psum M M' j) ∧ Below wL.heap.size wL wr) (fun _ i _ => M'.at_.length - (intOf i).toNat)
  case atStart => exact ⟨0, Nat.zero_le _, rfl, rfl, Below.refl _ _⟩
  case round =>
    obtain ⟨j, hj, rfl, rfl, near⟩ := hrel
    have low := gCall LW.out near
    have mb := MB.out.call near
    have xb := XB.out.call near
    have cm := mb.at_ 71 t71
    have cx := xb.at_ 71 t71'
    by_cases hlt : j < M'.at_.length
    · obtain ⟨b1, o1, rfl, ca⟩ := ints_read RAT.out low (k := j) (by omega)
      obtain ⟨b2, o2, rfl, ca'⟩ := ints_read RAT3.out near hlt
      have h1 := EACH.out j
      have h2 := at_few OK.out (k := j) (by omega)
      have h3 := psum_range EACH.out j
      have PS := Lib.hid (psum_succ M M' j)
      generalize M.at_.getD j 0 = a at *
      generalize M'.at_.getD j 0 = a' at *
      generalize psum M M' j = ps at *
      have k0 : (0 : Int) ≤ j := by omega
      have k1 : (j : Int) < M'.at_.length := by omega
      have k2 : (j : Int) < M.at_.length := by omega
      have k3 : decide ((M.at_.length : Int) ≤ (j : Int)) = false := decide_eq_false (by omega)
      have k3n : decide (M.at_.length ≤ j) = false := decide_eq_false (by omega)
      have k4 : decide (a' < a) = false := decide_eq_false (by omega)
      have k5 : decide (a + 1 < a') = false := decide_eq_false (by omega)
      go_wp2_with fail
      go_quiet (fail)
      go_wp2_with fail
      go_quiet (fail)
      go_wp2_with fail
      go_roundw
      case rel => exact ⟨j + 1, by omega, by go_num, by rw [PS.out], gDrewN near _⟩
      case measure => simp [intOf]; omega
    · obtain rfl : j = M'.at_.length := by omega
      have xr := xb.range
      have hps : (psum M M' M.at_.length == (ne : Int)) = true := by
        rw [beq_iff_eq]
        exact COUNT.out
      have C2 := Lib.hid (CI2.out _ M' wr (RD3.out.call near))
      rw [mcE_zero.2 OK2.out] at C2
      go_wp2_with ((with_reducible refine wp_loadW (tyMach) (xr) (sz2) ?_ ?_ ?_); rfl; rfl)
      (with_reducible refine C2.out.mono ?_); rintro e w9 ⟨rfl, hb9⟩
      replace low := gCall low hb9
      clear hb9 C2
      go_wp2_with fail
      go_ret
      exact ⟨rfl, low⟩
theorem walk (NI : MNewIs) (CI : MCheckIs) (SI : MStepIs) (v : Value) (w : World) (h : IsMach w v) :
    Calls Tryz.prog 3 #[v] w fun e w' => e = .returned (.bool true) ∧ Below w.heap.size w w' := by
  obtain ⟨M, h, _⟩ := h
  by_cases hE : mcE M = 0
  · have ok := mcE_zero.1 hE
    by_cases hh : 999991 < M.had
    · exact walk_full NI CI SI v M w h ok hh
    · exact walk_good NI CI SI v M w h ok (by omega)
  · exact walk_bad NI CI v M w h hE
end Go.Proofs.YtgdacpcifnpojaaGreat.machineRight
