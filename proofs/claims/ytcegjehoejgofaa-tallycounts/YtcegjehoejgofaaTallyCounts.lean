/-
Proved: the given statement TallyCounts: the counts of all nodes add up to the number of events, those by the ring to the events by the ring, and the logs have each event once. No condition.
-/
import Derived.Test.YtcegjehoejgofaaTallyCnt
import Derived.Test.YtcegjehoejgofaaTallyLogs
import Derived.Test.YtcegjehoejgofaaEvOpen
import Derived.Test.YtcegjehoejgofaaSmall
namespace Go.Proofs.Ytcegjehoejgofaa.tallyCounts
open Go.ChangeShapes Go.WideShapes Go.ChangeAt Go.RowKit Go.Joins

theorem tallies_yes (w : World) : Calls Try.prog 12 #[] w fun e w' => e = .returned (.bool true) ∧ Below w.heap.size w w' := by
  have C := Lib.hid fun w => tallyCounts_is 2 1 1 1 (.slice none 0 0) [] w (El.R.nil elE w)
  have S := Lib.hid fun w => small_is w
  have low := Below.refl w.heap.size w
  go_enter Try.func12, Try.ntmps12
  go_wp2_with fail
  (with_reducible refine (S.out _).mono ?_); rintro e w1 ⟨rfl, hb⟩
  replace low := gCall low hb
  clear hb S
  go_wp2_with fail
  (with_reducible refine (C.out _).mono ?_); rintro e w2 ⟨⟨A, m, c, rfl, h⟩, hb⟩
  replace low := gCall low hb
  have hm : m = 2 ∧ tallyE 2 1 1 1 [] = 0 := by
    rcases h with ⟨h, _⟩ | ⟨h, rfl, _⟩
    · exact absurd rfl h
    · exact ⟨rfl, h⟩
  obtain ⟨rfl, hE⟩ := hm
  rw [hE]
  clear hb C h hE
  go_wp2_with fail
  go_ret
  exact ⟨rfl, low⟩
/-- How many observations the first logs have. -/
theorem logs_sum {n : Nat} {l : List Ev} (h : ∀ x ∈ l, 0 ≤ x.d.nd ∧ x.d.nd < n) : sumTo (fun k => ((keyT.on k (evTd l)).length : Int)) n = l.length := by
  revert h
  refine foldl_snoc_ind (P := fun l => (∀ x ∈ l, 0 ≤ x.d.nd ∧ x.d.nd < n) → sumTo (fun k => ((keyT.on k (evTd l)).length : Int)) n = l.length) ?_ ?_ l
  · intro _
    have z : ∀ (f : Nat → Int), (∀ k, f k = 0) → ∀ n, sumTo f n = 0 := by
      intro f hf n
      induction n with
      | zero => rfl
      | succ n ih => rw [sumTo_succ, ih, hf]; rfl
    exact z _ (fun k => rfl) n
  · intro l x ih h
    have i1 := ih (fun y hy => h y (List.mem_append_left _ hy))
    obtain ⟨h1, h2⟩ := h x (by simp)
    obtain ⟨q, hq⟩ : ∃ q : Nat, x.d.nd = q := ⟨x.d.nd.toNat, by omega⟩
    have ea : evTd (l ++ [x]) = evTd l ++ [⟨x.d, x.told⟩] := by simp [evTd]
    have s1 := sumTo_one (f := fun k => ((keyT.on k (evTd (l ++ [x]))).length : Int)) (g := fun k => ((keyT.on k (evTd l)).length : Int)) (q := q) (d := 1)
      (by show ((keyT.on q (evTd (l ++ [x]))).length : Int) = _; rw [ea, KeyEl.on_same (E := keyT) (k := q) _ (c := ⟨x.d, x.told⟩) hq, List.length_append]; simp)
      (fun k hk => by show ((keyT.on k (evTd (l ++ [x]))).length : Int) = _; rw [ea, KeyEl.on_other (E := keyT) (k := k) _ (c := ⟨x.d, x.told⟩) (by show x.d.nd ≠ _; omega)]) n
    rw [if_pos (by omega)] at s1
    rw [s1, i1, List.length_append]
    simp
set_option maxRecDepth 10000 in
set_option maxHeartbeats 8000000 in
theorem walk (c lv : Value) (w : World) (hc : IsCfg c) (hl : IsEvs w lv) :
    Calls Try.prog 4 #[c, lv] w fun e w' => e = .returned (.bool true) ∧ Below w.heap.size w w' := by
  obtain ⟨n, s, y, b, rfl, _⟩ := hc
  obtain ⟨l, hl⟩ := hl
  have TY := Lib.hid fun w => tallies_yes w
  have TC := Lib.hid fun w h => tallyCounts_is n s y b lv l w h
  have TL := Lib.hid fun w h => tallyLogs_is n s y b lv l w h
  have HR := Lib.hid hl
  obtain ⟨_, A, cc, rfl, g1, g2, g3⟩ := hl
  have G3 := Lib.hid g3
  unfold maxLen at g2
  clear g3
  have TE := Lib.hid (tallyE_zero (n := n) (s := s) (y := y) (b := b) (l := l)).1
  have low := Below.refl w.heap.size w
  have cb := boxNext low 23 #[.int .i64 n, .int .i64 s, .int .i64 y, .int .i64 b]
  replace low := gAlloc low (.cells #[.int .i64 n, .int .i64 s, .int .i64 y, .int .i64 b] 23)
  try simp only [World.size_alloc] at cb
  go_enter Try.func4, Try.ntmps4
  go_wp2_with fail
  (with_reducible refine (TY.out _).mono ?_); rintro e w1 ⟨rfl, hb⟩
  replace cb := cb.call hb
  replace low := gCall low hb
  clear hb TY
  have cb_0 := cb.at_ 0 rfl
  have cb_1 := cb.at_ 1 rfl
  have cb_2 := cb.at_ 2 rfl
  have cb_3 := cb.at_ 3 rfl
  go_wp2_with fail
  (with_reducible refine (TC.out _ (HR.out.call low)).mono ?_); rintro e w2 ⟨⟨A1, m1, c1, rfl, cn⟩, hb⟩
  replace cb := cb.call hb
  replace low := gCall low hb
  have CN := Lib.hid cn
  clear hb TC cn
  clear cb_0 cb_1 cb_2 cb_3
  have cb_0 := cb.at_ 0 rfl
  have cb_1 := cb.at_ 1 rfl
  have cb_2 := cb.at_ 2 rfl
  have cb_3 := cb.at_ 3 rfl
  go_wp2_with fail
  (with_reducible refine (TL.out _ (HR.out.call low)).mono ?_); rintro e w3 ⟨⟨A2, m2, c2, rfl, lg⟩, hb⟩
  replace low := gCall low hb
  have LG := Lib.hid lg
  have low3 := Lib.hid hb
  clear TL lg cb hb
  clear cb_0 cb_1 cb_2 cb_3
  by_cases hE : tallyE n s y b l = 0
  · obtain ⟨hcB, hl2, hn⟩ := TE.out hE
    have hn8 := cfgB_iff.1 hcB
    have ND := nodeE_zero.1 hn
    rcases CN.out with ⟨h, _⟩ | ⟨_, rfl, cr⟩
    · exact absurd hE h
    rcases LG.out with ⟨h, _⟩ | ⟨_, rfl, lr⟩
    · exact absurd hE h
    obtain ⟨N, rfl⟩ : ∃ N : Nat, n = N := ⟨n.toNat, by omega⟩
    simp only [Int.toNat_natCast] at cr lr ⊢
    have nk : ∀ x ∈ l, (0 ≤ x.d.nd ∧ x.d.nd < (N : Int)) ∧ 1 ≤ x.d.kd ∧ x.d.kd ≤ 4 := fun x hx => by
      have h1 := ND x hx
      have h2 := deedE_ok h1.1
      exact ⟨⟨h2.1.1, h1.2⟩, h2.2.1⟩
    have LS := Lib.hid (logs_sum (fun x hx => (nk x hx).1))
    obtain ⟨cs1, cs2⟩ := cnts_sum nk
    have CS1 := Lib.hid cs1
    have CS2 := Lib.hid cs2
    have hN : N ≤ 8 := by omega
    obtain ⟨_, A9, c9, e9, q1, q2, q3⟩ := cr
    simp only [Value.slice.injEq] at e9
    obtain ⟨rfl, -, rfl⟩ := e9
    have C3 := Lib.hid q3
    obtain ⟨A9, c9, e9, r1, r2, r3⟩ := lr.ex
    simp only [Value.slice.injEq] at e9
    obtain ⟨rfl, -, rfl⟩ := e9
    have L3 := Lib.hid r3
    rw [hE]
    clear CN LG TE hcB hn hn8 ND nk cs1 cs2 q1 q2 q3 r1 r2 r3 lr hE
    have c3 : decide ((0 : Int) = 0) = true := by decide
    generalize hF : (fun k => (cntOf k l).all) = F at *
    generalize hG : (fun k => (cntOf k l).rg) = G at *
    generalize hL : (fun k => ((keyT.on k (evTd l)).length : Int)) = L at *
    have Fat := Lib.hid (fun k => (show F k = (cntOf k l).all by rw [← hF]))
    have Gat := Lib.hid (fun k => (show G k = (cntOf k l).rg by rw [← hG]))
    have Lat := Lib.hid (fun k => (show L k = ((keyT.on k (evTd l)).length : Int) by rw [← hL]))
    have CI := Lib.hid (fun k => cntOf_in k l)
    have F0 := Lib.hid (fun k => (show 0 ≤ F k by rw [Fat.out]; have := CI.out k; have := this.ld; have := (CI.out k).st; have := (CI.out k).sw; have := (CI.out k).pt; unfold Cn.all; omega))
    have G0 := Lib.hid (fun k => (show 0 ≤ G k by rw [Gat.out]; exact (CI.out k).rg.1))
    have L0 := Lib.hid (fun k => (show 0 ≤ L k by rw [Lat.out]; omega))
    have B3 := Lib.hid (byN_in l)
    have LW3 := Lib.hid low3.out
    clear hF hG hL low3 c3
    go_wp2_with fail
    go_loopw [9, 11, 52] (fun nv bv i wr => ∃ j : Nat, j ≤ N ∧ i = .int .i64 j ∧ nv = .int .i64 (sumTo F j) ∧ bv = .int .i64 (sumTo G j) ∧ Below w3.heap.size w3 wr) (fun _ _ i _ => N - (intOf i).toNat)
    case atStart => exact ⟨0, Nat.zero_le _, rfl, rfl, rfl, Below.refl _ _⟩
    case round =>
      obtain ⟨j, hj, rfl, rfl, rfl, near⟩ := hrel
      by_cases hlt : j < N
      · obtain ⟨b2, o2, rfl, hb2, hc2⟩ := C3.out (by rw [cntL_length]; omega)
        have hx := cntL_at (n := N) (l := l) hlt
        have near2 := gCall LW3.out near
        have c0 := El.R.at_ (E := elC) hc2 hb2 near2 hx 0 _ (by decide) rfl
        have c1 := El.R.at_ (E := elC) hc2 hb2 near2 hx 1 _ (by decide) rfl
        have c2 := El.R.at_ (E := elC) hc2 hb2 near2 hx 2 _ (by decide) rfl
        have c3 := El.R.at_ (E := elC) hc2 hb2 near2 hx 3 _ (by decide) rfl
        have c4 := El.R.at_ (E := elC) hc2 hb2 near2 hx 4 _ (by decide) rfl
        have ci := CI.out j
        have sf := Lib.hid ((sumTo_succ F j).trans (by rw [Fat.out]))
        have sg := Lib.hid ((sumTo_succ G j).trans (by rw [Gat.out]))
        have m1 := sumTo_mono F0.out (show j + 1 ≤ N by omega)
        have m2 := sumTo_mono G0.out (show j + 1 ≤ N by omega)
        have m3 := sumTo_mono F0.out (show j ≤ j + 1 by omega)
        have m4 := sumTo_mono G0.out (show j ≤ j + 1 by omega)
        rw [CS1.out] at m1
        rw [CS2.out] at m2
        have b3 := B3.out
        generalize hh9 : sumTo F (j + 1) = sf1 at *
        have HS1 := Lib.hid hh9
        clear hh9
        generalize hh9 : sumTo G (j + 1) = sg1 at *
        have HS2 := Lib.hid hh9
        clear hh9
        generalize sumTo F j = sf0 at *
        generalize sumTo G j = sg0 at *
        generalize cntOf j l = cj at *
        obtain ⟨ld, st, sw, pt, rg⟩ := cj
        obtain ⟨k1, k2, k3, k4, k5⟩ := ci
        simp only at k1 k2 k3 k4 k5
        have e1 := sf.out
        have e2 := sg.out
        unfold Cn.all at e1
        simp only at e1 e2
        have SF := Lib.hid e1
        have SG := Lib.hid e2
        have k6 : (0 : Int) ≤ j := by omega
        have k7 : (j : Int) < N := by omega
        have q1 : sf0 + (ld + st + sw + pt) ≤ 200 := by omega
        have q2 : sg0 + rg ≤ 200 := by omega
        have q3 : 0 ≤ sf0 := by omega
        have q4 : 0 ≤ sg0 := by omega
        clear sf sg e1 e2 m1 m2 m3 m4 b3 hx hc2 near2
        replace c0 : wr.cell? ⟨b2, o2 + j * 5, none⟩ = some (.int .i64 ld) := c0
        replace c1 : wr.cell? ⟨b2, o2 + j * 5 + 1, none⟩ = some (.int .i64 st) := c1
        replace c2 : wr.cell? ⟨b2, o2 + j * 5 + 2, none⟩ = some (.int .i64 sw) := c2
        replace c3 : wr.cell? ⟨b2, o2 + j * 5 + 3, none⟩ = some (.int .i64 pt) := c3
        replace c4 : wr.cell? ⟨b2, o2 + j * 5 + 4, none⟩ = some (.int .i64 rg) := c4
        have db := Box.new wr 50 #[.int .i64 ld, .int .i64 st, .int .i64 sw, .int .i64 pt, .int .i64 rg]
        replace near := gAlloc near (.cells #[.int .i64 ld, .int .i64 st, .int .i64 sw, .int .i64 pt, .int .i64 rg] 50)
        have db_0 := db.at_ 0 rfl
        have db_1 := db.at_ 1 rfl
        have db_2 := db.at_ 2 rfl
        have db_3 := db.at_ 3 rfl
        have db_4 := db.at_ 4 rfl
        go_wp2_with fail
        clear db_0 db_1 db_2 db_3 db_4
        go_roundw
        case rel => exact ⟨j + 1, by omega, by go_num, by rw [HS1.out, SF.out], by rw [HS2.out, SG.out], near⟩
        case measure => simp [intOf]; omega
      · obtain rfl : j = N := by omega
        rw [CS1.out, CS2.out]
        have LWX := Lib.hid near
        clear near
        go_wp2_with fail
        rename World => wA
        go_loopw [10, 76] (fun mv i wr => ∃ k : Nat, k ≤ j ∧ i = .int .i64 k ∧ mv = .int .i64 (sumTo L k) ∧ Below w3.heap.size w3 wr) (fun _ i _ => j - (intOf i).toNat)
        case atStart => exact ⟨0, Nat.zero_le _, rfl, rfl, LWX.out⟩
        case round =>
          obtain ⟨k, hk, rfl, rfl, near⟩ := hrel
          by_cases hlt : k < j
          · obtain ⟨b2, o2, rfl, hb2, hc2⟩ := L3.out (by rw [logsL_length]; simpa using (by omega : 0 < j))
            obtain ⟨A8, c8, e8, ds⟩ := hc2 k _ (logsL_at (n := (j : Int)) (es := l) (k := k) (by simpa using hlt))
            have cl := (near.cell (p := ⟨b2, o2 + k, none⟩) hb2).trans e8
            have sl := Lib.hid ((sumTo_succ L k).trans (by rw [Lat.out]))
            have m1 := sumTo_mono L0.out (show k + 1 ≤ j by omega)
            have m3 := sumTo_mono L0.out (show k ≤ k + 1 by omega)
            rw [LS.out] at m1
            have e1 := sl.out
            generalize hh9 : sumTo L (k + 1) = s1 at *
            have HS3 := Lib.hid hh9
            clear hh9
            generalize sumTo L k = s0 at *
            generalize (keyT.on k (evTd l)).length = ln at *
            have SL := Lib.hid e1
            have k6 : (0 : Int) ≤ k := by omega
            have k7 : (k : Int) < j := by omega
            have q1 : s0 + ln ≤ 200 := by omega
            have q2 : 0 ≤ s0 := by omega
            clear sl e1 m1 m3 hc2 e8 ds
            rename World => wB
            go_wp2_with fail
            go_roundw
            case rel => exact ⟨k + 1, by omega, by go_num, by rw [HS3.out, SL.out], near⟩
            case measure => simp [intOf]; omega
          · obtain rfl : k = j := by omega
            rw [LS.out]
            have LWY := Lib.hid (gCall low near)
            clear near
            go_wp2_with fail
            rename World => wB
            go_loopw [12, 87] (fun mv i wr => ∃ i0 : Nat, i0 ≤ l.length ∧ i = .int .i64 i0 ∧ mv = .int .i64 (byN (l.take i0)) ∧ Below w.heap.size w wr) (fun _ i _ => l.length - (intOf i).toNat)
            case atStart => exact ⟨0, Nat.zero_le _, rfl, rfl, LWY.out⟩
            case round =>
              clear low
              obtain ⟨i, hi, rfl, rfl, low⟩ := hrel
              by_cases hlt : i < l.length
              · obtain ⟨b2, o2, rfl, hb2, hc2⟩ := G3.out (by omega)
                have hx : l[i]? = some l[i] := List.getElem?_eq_getElem _
                generalize l[i] = x at hx
                obtain ⟨c0, c1, c2, c3, c4, c5⟩ := evAt_of hc2 hb2 low hx
                have SB := byN_snoc (l.take i) x
                rw [← take_snoc hx] at SB
                have bi := byN_in (l.take i)
                have tl : ((l.take i).length : Int) ≤ 200 := by rw [List.length_take]; omega
                obtain ⟨⟨dn, dk, da, dv⟩, tv, bv⟩ := x
                simp only at c0 c1 c2 c3 c4 c5 SB
                generalize hh9 : byN (l.take (i + 1)) = n1 at *
                have HS4 := Lib.hid hh9
                clear hh9
                generalize byN (l.take i) = n0 at *
                generalize (l.take i).length = tn at *
                have q1 : 0 ≤ n0 := by omega
                have q2 : n0 ≤ 200 := by omega
                have i0' : (0 : Int) ≤ i := by omega
                have i1 : (i : Int) < l.length := by omega
                clear hx hc2 bi tl
                have db := Box.new wr 43 #[.int .i64 dn, .int .i64 dk, .int .i64 da, .int .u64 dv, .int .u64 tv, .bool bv]
                replace low := gAlloc low (.cells #[.int .i64 dn, .int .i64 dk, .int .i64 da, .int .u64 dv, .int .u64 tv, .bool bv] 43)
                rename World => wC
                cases bv with
                | true =>
                  have SB2 := Lib.hid (show n1 = n0 + 1 from SB)
                  clear SB
                  have db_0 := db.at_ 0 rfl
                  have db_1 := db.at_ 1 rfl
                  have db_2 := db.at_ 2 rfl
                  have db_3 := db.at_ 3 rfl
                  have db_4 := db.at_ 4 rfl
                  have db_5 := db.at_ 5 rfl
                  go_wp2_with fail
                  clear db_0 db_1 db_2 db_3 db_4 db_5
                  go_roundw
                  case rel => exact ⟨i + 1, by omega, by go_num, by rw [HS4.out, SB2.out], low⟩
                  case measure => simp [intOf]; omega
                | false =>
                  have SB2 := Lib.hid (show n1 = n0 by rw [SB]; simp [one1])
                  clear SB
                  have db_0 := db.at_ 0 rfl
                  have db_1 := db.at_ 1 rfl
                  have db_2 := db.at_ 2 rfl
                  have db_3 := db.at_ 3 rfl
                  have db_4 := db.at_ 4 rfl
                  have db_5 := db.at_ 5 rfl
                  go_wp2_with fail
                  clear db_0 db_1 db_2 db_3 db_4 db_5
                  go_roundw
                  case rel => exact ⟨i + 1, by omega, by go_num, by rw [HS4.out, SB2.out], low⟩
                  case measure => simp [intOf]; omega
              · obtain rfl : i = l.length := by omega
                rw [List.take_length]
                go_wp2_with fail
                go_ret
                exact ⟨rfl, low⟩
  · generalize hT : tallyE n s y b l = E at *
    have hE' : (E != 0) = true := by simpa using hE
    rcases CN.out with ⟨_, rfl, rfl, rfl⟩ | ⟨h, _⟩
    · rcases LG.out with ⟨_, rfl, rfl, rfl⟩ | ⟨h, _⟩
      · clear hT TE CN LG hE
        go_wp2_with fail
        go_ret
        exact ⟨rfl, low⟩
      · exact absurd h hE
    · exact absurd h hE
set_option maxRecDepth 100000 in
theorem lifted (os : Os) (started : os.Started) (H : Type) (enc : TypeId × Value → H) :
    ReturnsInHanded {} Try.checked os 4 .any (Rows.tallyCountsSpec.pre6 enc Try.prog Try.f4 Rows.tallyCountsRow.domain false) (Rows.tallyCountsSpec.post enc Try.prog Try.f4 false true false false) := by
  refine returnsInHanded_of_change (C := Try.checked) own started (by kernel_rfl) Try.func4
    (ChangeSpec.witness6 (enc := enc) (C := Try.checked) false ⟨#[], #[cfg 0 0 0 0, .slice none 0 0], []⟩ 8 (by kernel_rfl) (by kernel_rfl) (by kernel_rfl) (by kernel_rfl)) ?_
  intro W base args ds gs before hval0 hW hcnd _
  have hval : ∀ (j : Nat) t v, Try.f4.params[j]? = some t → args[j]? = some v → Value.okWide Try.prog W .any base t v := hval0
  have hW' := hW
  obtain ⟨p, q, hA0, hV, rfl, hfz, hnd⟩ := hW
  have hA : DataW.TrodAll enc Try.prog W 0 (fun _ => true) true Try.f4.params.toList args.toList ds p := hA0
  rw [Try.params4] at hA hval
  obtain ⟨v0, vs0, d0, ds0, p0, q0, hargs, rfl, rfl, h0, r0⟩ := trodAll_cons hA
  obtain ⟨v1, vs1, d1, ds1, p1, q1, rfl, rfl, rfl, h1, r1⟩ := trodAll_cons r0
  obtain ⟨rfl, rfl, rfl⟩ := trodAll_nil r1
  obtain rfl : args = #[v0, v1] := by cases args; simp_all
  have k0 := openCfg (hval 0 23 v0 rfl rfl) h0
  have k1 := openEvs (hval 1 29 v1 rfl rfl) h1
  obtain ⟨rfl, rfl⟩ := trodVars_none hV
  clear hA0 hval0
  refine (walk v0 v1 W k0 k1).mono fun e W' ⟨he, bel⟩ => ⟨_, he, ?_⟩
  exact law_post (by kernel_rfl) (by kernel_rfl) rfl hW' rfl rfl rfl bel

theorem over : Rows.tallyCountsRow.holds Try.pinned (OpenSpec.ofChange Rows.tallyCountsSpec) :=
  OpenClaim.holds_of_wide 4 Try.f4 rfl rfl rfl rfl rfl rfl rfl ⟨rfl, rfl, rfl, rfl, rfl⟩ rfl rfl rfl rfl rfl (by kernel_rfl) Try.func4 (by kernel_rfl)
    (of_decide_eq_true (by kernel_rfl)) (by unfold Func.isWrapper; first | (rw [if_pos (by decide +kernel)]; kernel_rfl) | (rw [if_neg (by decide +kernel)]; exact ⟨rfl, rfl⟩))
    (fun os started H enc _ => lifted os started H enc)

/-- The statement. -/
theorem tallyCounts_holds : Rows.TallyCountsSaid := over
end Go.Proofs.Ytcegjehoejgofaa.tallyCounts
namespace Go.Proofs.Ytcegjehoejgofaa
theorem tallyCounts_holds : Rows.TallyCountsSaid := tallyCounts.tallyCounts_holds
#print axioms tallyCounts_holds
end Go.Proofs.Ytcegjehoejgofaa
