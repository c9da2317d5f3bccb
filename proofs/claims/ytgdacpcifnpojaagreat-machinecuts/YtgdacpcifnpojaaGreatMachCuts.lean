/-
Proved: the law 'MachineCuts' returns true for every argument, and changes nothing that was there. Conditions: what New and Run of package machine give (handed in).
-/
import Derived.Test.YtgdacpcifnpojaaGreatJoined8
import Derived.Test.YtgdacpcifnpojaaGreatMachSame3
import Derived.Test.YtgdacpcifnpojaaGreatJoined6
namespace Go.Proofs.YtgdacpcifnpojaaGreat.machineCuts
open Go.ChangeShapes Go.WideShapes Go.ChangeAt Go.RowKit Go.Joins

/-- At most eight events a cycle. -/
theorem cyc_few {D : DidF} (hD : DidOk D) {M : Mc} (h : McOk M) (hm : M.mem.length = 64) (hh : M.had ≤ 999991) : (cycM D M).2.length ≤ 8 := by
  have c := cyc_count hD h hm hh
  have each := cyc_each hD h hm hh
  have hl := h.len
  have hn := h.nodes
  have bound : ∀ n : Nat, ((List.range n).map fun k => (cycM D M).1.at_.getD k 0 - M.at_.getD k 0).sum ≤ n := by
    intro n
    induction n with
    | zero => simp
    | succ n ih =>
      rw [List.range_succ, List.map_append, List.sum_append]
      have := (each n).2
      simp only [List.map_cons, List.map_nil, List.sum_cons, List.sum_nil]
      push_cast
      omega
  have := bound M.at_.length
  omega
theorem run_few {D : DidF} (hD : DidOk D) : ∀ (c : Nat) (M : Mc), McOk M → M.mem.length = 64 → runF D c M = 0 → (runC D c M).2.length ≤ 8 * c
  | 0, M, h, hm, _ => by simp [runC]
  | c + 1, M, h, hm, hr => by
    by_cases he : endB M = true
    · rw [(run_ended he (c + 1)).1]
      simp
    · unfold runF at hr
      rw [if_neg he] at hr
      by_cases hf : 999991 < M.had
      · rw [if_pos hf] at hr; cases hr
      · rw [if_neg hf] at hr
        have mid := cyc_mid hD h hm (by omega)
        have := run_few hD c (cycM D M).1 mid.ok mid.m64 hr
        have := cyc_few hD h hm (by omega)
        rw [runC, if_neg he]
        simp only [List.length_append]
        omega

theorem arr_read {w : World} {v : Value} {M : Mc} (h : MRead w v M) : ∃ XA : Array Value, v = .agg XA ∧ XA.size = mc0A.size ∧ XA.all (·.oneCell') = true := by
  have m64 := h.m64
  obtain ⟨A0, c0, A1, c1, A2, c2, A3, c3, A4, c4, rfl, _⟩ := h.shape
  exact ⟨_, rfl, by rw [mcA_size m64, mcA_size zeroL_length], mcA_one⟩
def noMc : Mc := ⟨0, 0, 0, 0, [], zeroL, [], [], [], [], 0⟩
theorem noMc_read (w : World) : MRead w mc0 noMc := by
  refine ⟨zeroL_length, _, _, _, _, _, rfl, ?_, ?_, ?_, ?_, ?_⟩
  · exact ⟨none, 0, rfl, Nat.le_refl _, Nat.zero_le _, fun h => absurd h (Nat.lt_irrefl 0)⟩
  · exact ⟨rfl, none, 0, rfl, Nat.le_refl _, Nat.zero_le _, fun h => absurd h (Nat.lt_irrefl 0)⟩
  · exact ⟨none, 0, rfl, Nat.le_refl _, Nat.zero_le _, fun h => absurd h (Nat.lt_irrefl 0)⟩
  · exact sl_nil w
  · exact sl_nil w
/-- What a call gives, in one form. -/
theorem gives {E : Int} {X : Mc × List Ev} {e : Ending} {w' : World} (h : GivesM E X e w') : ∃ XA Au nu cu, e = .returned (.tuple #[.agg XA, .slice Au nu cu, .int .i64 E]) ∧ XA.size = mc0A.size ∧ XA.all (·.oneCell') = true ∧ (E ≠ 0 → nu = 0) ∧
    (∃ M1, MRead w' (.agg XA) M1 ∧ (E = 0 → M1 = X.1)) ∧ (E = 0 → elE.R w' (.slice Au nu cu) X.2 ∧ nu = X.2.length) := by
  obtain ⟨v, u, rfl, ⟨h0, rfl, rfl⟩ | ⟨rfl, rd, el⟩⟩ := h
  · refine ⟨mc0A, none, 0, 0, rfl, rfl, mcA_one, fun _ => rfl, ⟨noMc, noMc_read _, fun h => absurd h h0⟩, fun h => absurd h h0⟩
  · obtain ⟨XA, rfl, h1, h2⟩ := arr_read rd
    obtain ⟨A, c, rfl⟩ := el.shape
    exact ⟨XA, A, _, c, rfl, h1, h2, fun h => absurd rfl h, ⟨_, rd, fun _ => rfl⟩, fun _ => ⟨el, rfl⟩⟩
theorem clamp (a : Int) : 0 ≤ minI (maxI a 0) 40 ∧ minI (maxI a 0) 40 ≤ 40 := by
  unfold minI maxI
  split <;> split <;> omega
theorem cuts {M M1 : Mc} (m64 : M.mem.length = 64) {p q : Int} (p0 : 0 ≤ p) (p1 : p ≤ 40) (q0 : 0 ≤ q) (q1 : q ≤ 40) (is1 : runE' M p = 0 → M1 = (runs M p).1) (h1 : runE' M p = 0) (h3 : runE' M (p + q) = 0) :
    runE' M1 q = 0 ∧ (runs M (p + q)).1 = (runs M1 q).1 ∧ (runs M (p + q)).2 = (runs M p).2 ++ (runs M1 q).2 ∧ (runs M p).2.length + (runs M1 q).2.length ≤ 1000 := by
  obtain rfl := is1 h1
  have z : mcE M = 0 := by
    apply Decidable.byContradiction
    intro h
    unfold runE' at h1
    rw [if_pos h] at h1
    exact h h1
  have ok := mcE_zero.1 z
  unfold runE' at h1 h3
  rw [if_neg (by simpa using z), if_neg (by omega)] at h1 h3
  have ok1 := run_ok didF_ok p.toNat M ok m64 h1
  have e : (p + q).toNat = p.toNat + q.toNat := by omega
  rw [e] at h3
  obtain ⟨c1, c2⟩ := run_cut (D := didF) p.toNat q.toNat M h1
  rw [c2] at h3
  have f1 := run_few didF_ok p.toNat M ok m64 h1
  have f2 := run_few didF_ok q.toNat _ ok1.1 ok1.2 h3
  unfold runs runE'
  rw [e, c1]
  refine ⟨?_, rfl, rfl, by omega⟩
  rw [if_neg (by simpa using mcE_zero.2 ok1.1), if_neg (by omega)]
  exact h3
set_option maxRecDepth 10000 in
set_option maxHeartbeats 8000000 in
theorem walk_any (NI : MNewIs) (RI : MRunIs) (v : Value) (M : Mc) (a b : Int) (w : World) (h : MRead w v M) :
    Calls Tryz.prog 5 #[v, .int .i64 a, .int .i64 b] w fun e w' => e = .returned (.bool true) ∧ Below w.heap.size w w' := by
  have YES := Lib.hid fun w => machines_yes NI w
  have RN := Lib.hid RI
  have HR := Lib.hid h
  have m64 := h.m64
  obtain ⟨VA, rfl, sv, ov⟩ := arr_read h
  clear h NI RI
  have low := Below.refl w.heap.size w
  have mb := boxNext low 37 VA
  replace low := gAlloc low (.cells VA 37)
  try simp only [World.size_alloc] at mb
  go_enter Tryz.func5, Tryz.ntmps5
  go_wp2_with fail
  (with_reducible refine (YES.out _).mono ?_); rintro e w1 ⟨rfl, hb⟩
  replace mb := mb.call hb
  replace low := gCall low hb
  clear hb YES
  go_wp2_with (first | ((with_reducible apply wpList_max); rfl; rfl) | ((with_reducible apply wpList_min); rfl; rfl) | ((with_reducible refine wp_loadW (tyMach) (mb.range) (sv) ?_ ?_ ?_); rfl; rfl))
  have pa := clamp a
  have pb := clamp b
  generalize minI (maxI a 0) 40 = p at *
  generalize minI (maxI b 0) 40 = q at *
  generalize maxI a 0 = a1 at *
  generalize maxI b 0 = b1 at *
  obtain ⟨p0, p1⟩ := pa
  obtain ⟨q0, q1⟩ := pb
  have RQ := RN.out _ M w1 p (HR.out.call low)
  (with_reducible refine RQ.mono ?_); rintro e w2 ⟨gv, hb⟩
  obtain ⟨XA, Au, nu, cu, rfl, sx, ox, ne1, ⟨M1, rd1, is1⟩, el1⟩ := gives gv
  replace mb := mb.call hb
  replace low := gCall low hb
  clear hb gv RQ
  have xb := Box.new w2 37 XA
  replace rd1 := rd1.call (gAlloc (Below.refl w2.heap.size w2) (.cells XA 37))
  have EL1 := Lib.hid fun h => ((el1 h).1.alloc (.cells XA 37))
  have NU := Lib.hid fun h => (el1 h).2
  replace mb := mb.alloc (.cells XA 37)
  replace low := gAlloc low (.cells XA 37)
  clear el1
  go_wp2_with (first | (with_reducible refine wp_newW (tyMach) ?_) | ((with_reducible refine wp_freshW (tyMach) (rfl) (sx) (ox) ?_ ?_ ?_); rfl; rfl) | ((with_reducible refine wp_loadW (tyMach) (xb.range) (sx) ?_ ?_ ?_); rfl; rfl))
  generalize w2.alloc (.cells XA 37) = wL at *
  generalize w2.heap.size = gx at *
  have RQ := RN.out _ M1 wL q rd1
  (with_reducible refine RQ.mono ?_); rintro e w3 ⟨gv, hb⟩
  obtain ⟨YA, Av, nv, cv, rfl, sy, oy, ne2, ⟨M2, rd2, is2⟩, el2⟩ := gives gv
  replace mb := mb.call hb
  replace low := gCall low hb
  replace EL1 := Lib.hid fun h => (EL1.out h).call hb
  clear hb gv xb RQ
  have yb := Box.new w3 37 YA
  have RD2 := Lib.hid (rd2.call (gAlloc (Below.refl w3.heap.size w3) (.cells YA 37)))
  have EL2 := Lib.hid fun h => ((el2 h).1.alloc (.cells YA 37))
  have NV := Lib.hid fun h => (el2 h).2
  replace EL1 := Lib.hid fun h => (EL1.out h).alloc (.cells YA 37)
  replace mb := mb.alloc (.cells YA 37)
  replace low := gAlloc low (.cells YA 37)
  clear el2 rd2
  go_wp2_with (first | (with_reducible refine wp_newW (tyMach) ?_) | ((with_reducible refine wp_freshW (tyMach) (rfl) (sy) (oy) ?_ ?_ ?_); rfl; rfl) | ((with_reducible refine wp_loadW (tyMach) (mb.range) (sv) ?_ ?_ ?_); rfl; rfl))
  have CU := Lib.hid fun h1 h3 => cuts (M1 := M1) m64 p0 p1 q0 q1 is1 h1 h3
  have RQ := RN.out _ M (w3.alloc (.cells YA 37)) (p + q) (HR.out.call low)
  (with_reducible refine RQ.mono ?_); rintro e w4 ⟨gv, hb⟩
  obtain ⟨ZA, Aw, nw, cw, rfl, sz', oz, ne3, ⟨M3, rd3, is3⟩, el3⟩ := gives gv
  replace low := gCall low hb
  replace yb := yb.call hb
  replace RD2 := Lib.hid (RD2.out.call hb)
  replace EL1 := Lib.hid fun h => (EL1.out h).call hb
  replace EL2 := Lib.hid fun h => (EL2.out h).call hb
  clear hb gv mb RQ
  have zb := Box.new w4 37 ZA
  replace RD2 := Lib.hid (RD2.out.call (gAlloc (Below.refl w4.heap.size w4) (.cells ZA 37)))
  have RD3 := Lib.hid (rd3.call (gAlloc (Below.refl w4.heap.size w4) (.cells ZA 37)))
  have EL3 := Lib.hid fun h => ((el3 h).1.alloc (.cells ZA 37))
  have NW := Lib.hid fun h => (el3 h).2
  replace EL1 := Lib.hid fun h => (EL1.out h).alloc (.cells ZA 37)
  replace EL2 := Lib.hid fun h => (EL2.out h).alloc (.cells ZA 37)
  replace yb := yb.alloc (.cells ZA 37)
  replace low := gAlloc low (.cells ZA 37)
  clear el3 rd3 RN HR rd1 ov sv
  generalize runs M p = X1 at *
  generalize runs M1 q = X2 at *
  generalize runs M (p + q) = X3 at *
  generalize runE' M p = E1 at *
  generalize runE' M1 q = E2 at *
  generalize runE' M (p + q) = E3 at *
  generalize p + q = pq at *
  by_cases h1 : E1 = 0
  · by_cases h3 : E3 = 0
    · obtain ⟨rfl, e1, e2, few⟩ := CU.out h1 h3
      subst h1 h3
      obtain rfl := is2 rfl
      obtain rfl := is3 rfl
      rw [e1] at RD3
      have L1 := Lib.hid (EL1.out rfl)
      have L2 := Lib.hid (EL2.out rfl)
      have L3 := Lib.hid (EL3.out rfl)
      rw [e2] at L3
      have few := Lib.hid few
      clear CU EL1 EL2 EL3 is1 is2 is3 ne1 ne2 ne3 e1 e2 NU NV NW
      go_wp2_with (first | (with_reducible refine wp_newW (tyMach) ?_) | ((with_reducible refine wp_freshW (tyMach) (rfl) (sz') (oz) ?_ ?_ ?_); rfl; rfl) | ((with_reducible refine wp_loadW (tyMach) (yb.range) (sy) ?_ ?_ ?_); rfl; rfl) | ((with_reducible refine wp_loadW (tyMach) (zb.range) (sz') ?_ ?_ ?_); rfl; rfl))
      have SM := Lib.hid (sameMach_yes _ _ _ _ RD2.out RD3.out)
      (with_reducible refine SM.out.mono ?_); rintro e w5 ⟨rfl, hb⟩
      replace low := gCall low hb
      replace L1 := Lib.hid (L1.out.call hb)
      replace L2 := Lib.hid (L2.out.call hb)
      replace L3 := Lib.hid (L3.out.call hb)
      clear hb SM RD2 RD3 yb zb
      go_wp2_with fail
      have cb := Box.new w5 41 #[.slice Au nu cu, .slice Av nv cv]
      have CC := Lib.hid (concatEvs w5.heap.size _ _ _ _ (w5.alloc (.cells #[.slice Au nu cu, .slice Av nv cv] 41)) (cb.at_ 0 rfl) (cb.at_ 1 rfl) (L1.out.alloc _) (L2.out.alloc _) few.out)
      replace low := gAlloc low (.cells #[.slice Au nu cu, .slice Av nv cv] 41)
      replace L3 := Lib.hid (L3.out.alloc (.cells #[.slice Au nu cu, .slice Av nv cv] 41))
      (with_reducible refine CC.out.mono ?_); rintro e w6 ⟨⟨v6, rfl, r6⟩, hb⟩
      replace low := gCall low hb
      replace L3 := Lib.hid (L3.out.call hb)
      clear hb cb CC L1 L2
      have EQ := Lib.hid (equalEvs_yes _ _ _ _ L3.out r6)
      clear r6 L3
      go_wp2_with fail
      (with_reducible refine EQ.out.mono ?_); rintro e w7 ⟨rfl, hb⟩
      replace low := gCall low hb
      clear hb EQ
      go_wp2_with fail
      go_ret
      exact ⟨rfl, low⟩
    · have h3' : (E3 != 0) = true := by simpa using h3
      have h3'' : (E3 == 0) = false := by simpa using h3
      obtain rfl := ne3 h3
      clear CU EL1 EL2 EL3 is1 is2 is3 ne1 ne2 ne3 NU NV NW RD2 RD3
      subst h1
      have NE3 := Lib.hid h3
      clear h3
      go_wp2_with (first | (with_reducible refine wp_newW (tyMach) ?_) | ((with_reducible refine wp_freshW (tyMach) (rfl) (sz') (oz) ?_ ?_ ?_); rfl; rfl))
      go_ret
      exact ⟨rfl, low⟩
  · have h1' : (E1 != 0) = true := by simpa using h1
    have h1'' : (E1 == 0) = false := by simpa using h1
    obtain rfl := ne1 h1
    clear CU EL1 EL2 EL3 is1 is2 is3 ne1 ne2 ne3 NU NV NW RD2 RD3 h1
    go_wp2_with (first | (with_reducible refine wp_newW (tyMach) ?_) | ((with_reducible refine wp_freshW (tyMach) (rfl) (sz') (oz) ?_ ?_ ?_); rfl; rfl))
    go_ret
    exact ⟨rfl, low⟩
theorem walk (NI : MNewIs) (RI : MRunIs) (v : Value) (a b : Int) (w : World) (h : IsMach w v) :
    Calls Tryz.prog 5 #[v, .int .i64 a, .int .i64 b] w fun e w' => e = .returned (.bool true) ∧ Below w.heap.size w w' := by
  obtain ⟨M, h, _⟩ := h
  exact walk_any NI RI v M a b w h
end Go.Proofs.YtgdacpcifnpojaaGreat.machineCuts
