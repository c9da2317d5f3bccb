/-
Proved: what checkLine of package agree returns, for every slice of copies that can be read; it changes nothing that was there. No condition.
-/
import Derived.Test.YtmodajmjmdigfaaCopies
import Derived.Test.YtmodajmjmdigfaaRegion
namespace Go.Proofs.Ytmodajmjmdigfaa
open Go.ChangeShapes Go.WideShapes Go.ChangeAt Go.RowKit Go.Joins

/-- The state, the data of copy i. -/
def stA (l : List Cp) (i : Nat) : Int := ((l[i]?).map (fun c => c.x.st)).getD 0
def datA (l : List Cp) (i : Nat) : L4 := ((l[i]?).map (fun c => c.x.dat)).getD ⟨0, 0, 0, 0⟩
theorem stA_at {l : List Cp} {i : Nat} {c : Cp} (h : l[i]? = some c) : stA l i = c.x.st := by simp [stA, h]
theorem datA_at {l : List Cp} {i : Nat} {c : Cp} (h : l[i]? = some c) : datA l i = c.x.dat := by simp [datA, h]

/-- May all of them be beside one another? Have all the same data? -/
def pairsB (l : List Cp) : Bool := (List.range l.length).all fun i => (List.range i).all fun j => bsB (stA l i) (stA l j)
def sameD (l : List Cp) : Bool := (List.range l.length).all fun i => eq4 (datA l i) (datA l 0)
/-- The error of a line with these copies and these data in memory. -/
def lnE (l : List Cp) (d : L4) : Int := if pairsB l = false then 8 else if sameD l = false then 3 else if ownN l < 0 ∧ eq4 (valL l d) d = false then 3 else 0

theorem pairsB_iff {l : List Cp} : pairsB l = true ↔ ∀ i j, i < l.length → j < i → bsB (stA l i) (stA l j) = true := by
  simp only [pairsB, List.all_eq_true, List.mem_range]
  exact ⟨fun h i j hi hj => h i hi j hj, fun h i hi j hj => h i j hi hj⟩
theorem sameD_iff {l : List Cp} : sameD l = true ↔ ∀ i, i < l.length → eq4 (datA l i) (datA l 0) = true := by
  simp only [sameD, List.all_eq_true, List.mem_range]
theorem pairsB_no {l : List Cp} {i j : Nat} (hi : i < l.length) (hj : j < i) (h : bsB (stA l i) (stA l j) = false) : pairsB l = false := by
  cases hp : pairsB l
  · rfl
  · have := pairsB_iff.1 hp i j hi hj
    rw [h] at this
    cases this
theorem sameD_no {l : List Cp} {i : Nat} (hi : i < l.length) (h : eq4 (datA l i) (datA l 0) = false) : sameD l = false := by
  cases hp : sameD l
  · rfl
  · have := sameD_iff.1 hp i hi
    rw [h] at this
    cases this

set_option maxRecDepth 10000 in
set_option maxHeartbeats 4000000 in
theorem checkLine_any (v : Value) (l : List Cp) (d : L4) (w : World) (h : Cps w v l) :
    Calls Try.prog 91 #[v, line d.a d.b d.c d.d] w fun e w' => e = .returned (.int .i64 (lnE l d)) ∧ Below w.heap.size w w' := by
  have H := Lib.hid h
  obtain ⟨hl, A, cp, rfl, h1, h2, h3⟩ := h
  have H3 := Lib.hid h3
  unfold maxLen at h2
  clear hl h3
  generalize hE : lnE l d = E
  unfold lnE at hE
  have HE := Lib.hid hE
  clear hE
  have low := Below.refl w.heap.size w
  have db := boxNext low 30 #[.int .u64 d.a, .int .u64 d.b, .int .u64 d.c, .int .u64 d.d]
  replace low := gAlloc low (.cells #[.int .u64 d.a, .int .u64 d.b, .int .u64 d.c, .int .u64 d.d] 30)
  try simp only [World.size_alloc] at db
  go_enter Try.func91, Try.ntmps91
  go_wp2_with fail
  go_loopw [13] (fun i wr => ∃ k : Nat, k ≤ l.length ∧ i = .int .i64 k ∧ Hid (∀ i j, i < k → j < i → bsB (stA l i) (stA l j) = true) ∧ Box wr w.heap.size 30 #[.int .u64 d.a, .int .u64 d.b, .int .u64 d.c, .int .u64 d.d] ∧ Below w.heap.size w wr) (fun i _ => l.length - (intOf i).toNat)
  case atStart => exact ⟨0, Nat.zero_le _, rfl, Lib.hid fun i j hi => absurd hi (by omega), db, low⟩
  case round =>
    clear db low
    obtain ⟨k, hk, rfl, hno, db, low⟩ := hrel
    by_cases hlt : k < l.length
    · obtain ⟨bb, o, rfl, hb, hc⟩ := H3.out (by omega)
      have hx : l[k]? = some l[k] := List.getElem?_eq_getElem _
      generalize l[k] = x at hx
      obtain ⟨c0, c1, c2, c3, c4, c5, c6⟩ := cpAt_of hc hb low hx
      have HX := Lib.hid (stA_at hx)
      have HC := Lib.hid hc
      clear hx hc
      have xb := boxNext low 118 x.box
      replace low := gAlloc low (.cells x.box 118)
      replace db := db.alloc (.cells x.box 118)
      try simp only [World.size_alloc] at xb
      simp only [Cp.box] at xb
      have k0 : (0 : Int) ≤ k := by omega
      have k1 : (k : Int) ≤ cp := by omega
      have k2 : (k : Int) < l.length := by omega
      have WH := Lib.hid (Nat.le_refl wr.heap.size)
      go_wp2_with fail
      go_loopw [22] (fun i wx => ∃ q : Nat, q ≤ k ∧ i = .int .i64 q ∧ Hid (∀ j, j < q → bsB x.x.st (stA l j) = true) ∧ Box wx wr.heap.size 118 x.box ∧ Box wx w.heap.size 30 #[.int .u64 d.a, .int .u64 d.b, .int .u64 d.c, .int .u64 d.d] ∧ Below w.heap.size w wx) (fun i _ => k - (intOf i).toNat)
      case atStart => exact ⟨0, Nat.zero_le _, rfl, Lib.hid fun j hj => absurd hj (by omega), xb, db, low⟩
      case round =>
        clear xb db low c0 c1 c2 c3 c4 c5 c6
        obtain ⟨q, hq, rfl, hyes, xb, db, low⟩ := hrel
        simp only [Cp.box] at xb
        by_cases hlt2 : q < k
        · have hy : l[q]? = some (l[q]'(by omega)) := List.getElem?_eq_getElem _
          generalize l[q]'(by omega) = y at hy
          obtain ⟨c0, c1, c2, c3, c4, c5, c6⟩ := cpAt_of HC.out hb low hy
          have HY := Lib.hid (stA_at hy)
          have BS := Lib.hid fun w => beside_any x.x.st y.x.st w
          clear hy
          have q0 : (0 : Int) ≤ q := by omega
          have q1 : (q : Int) < k := by omega
          have yb := boxNext low 118 y.box
          replace low := gAlloc low (.cells y.box 118)
          replace xb := xb.alloc (.cells y.box 118)
          replace db := db.alloc (.cells y.box 118)
          try simp only [World.size_alloc] at yb
          simp only [Cp.box] at yb
          have xb_1 := xb.at_ 1 rfl
          cases hbs : bsB x.x.st y.x.st
          · rw [hbs] at BS
            obtain rfl : 8 = E := by
              have := HE.out
              rwa [if_pos (pairsB_no hlt hlt2 (by rw [HX.out, HY.out]; exact hbs))] at this
            clear hbs
            go_wp2_with fail
            (with_reducible refine (BS.out _).mono ?_); rintro e w2 ⟨rfl, rfl⟩
            go_wp2_with fail
            go_ret
            exact ⟨rfl, low⟩
          · rw [hbs] at BS
            have HB := Lib.hid hbs
            clear hbs
            go_wp2_with fail
            (with_reducible refine (BS.out _).mono ?_); rintro e w2 ⟨rfl, rfl⟩
            go_wp2_with fail
            go_roundw
            case rel => exact ⟨q + 1, by omega, by go_num, Lib.hid fun j hj => by
              by_cases e : j < q
              · exact hyes.out j e
              · obtain rfl : j = q := by omega
                rw [HY.out]
                exact HB.out, xb, db, low⟩
            case measure => simp [intOf]; omega
        · obtain rfl : q = k := by omega
          go_wp2_with fail
          go_roundw
          case rel => exact ⟨q + 1, by omega, by go_num, Lib.hid fun i j hi hj => by
            by_cases e : i < q
            · exact hno.out i j e hj
            · obtain rfl : i = q := by omega
              rw [HX.out]
              exact hyes.out j hj, db, low⟩
          case measure => simp [intOf]; omega
    · have PB := Lib.hid (pairsB_iff.2 (fun i j hi hj => hno.out i j (by omega) hj))
      replace HE := Lib.hid (HE.out.symm.trans (if_neg (by rw [PB.out]; decide))).symm
      clear hno
      go_wp2_with fail
      clear hlt hk
      go_loopw [38] (fun i wr => ∃ k : Nat, k ≤ l.length ∧ i = .int .i64 k ∧ Hid (∀ i, i < k → eq4 (datA l i) (datA l 0) = true) ∧ Box wr w.heap.size 30 #[.int .u64 d.a, .int .u64 d.b, .int .u64 d.c, .int .u64 d.d] ∧ Below w.heap.size w wr) (fun i _ => l.length - (intOf i).toNat)
      case atStart => exact ⟨0, Nat.zero_le _, rfl, Lib.hid fun i hi => absurd hi (by omega), db, low⟩
      case round =>
        clear db low
        obtain ⟨k, hk, rfl, hno, db, low⟩ := hrel
        by_cases hlt : k < l.length
        · obtain ⟨bb, o, rfl, hb, hc⟩ := H3.out (by omega)
          have hx : l[k]? = some l[k] := List.getElem?_eq_getElem _
          generalize l[k] = x at hx
          have hz : l[0]? = some (l[0]'(by omega)) := List.getElem?_eq_getElem _
          generalize l[0]'(by omega) = z at hz
          obtain ⟨c0, c1, c2, c3, c4, c5, c6⟩ := cpAt_of hc hb low hx
          have HX := Lib.hid (show datA l k = x.x.dat from datA_at hx)
          have HZ := Lib.hid (show datA l 0 = z.x.dat from datA_at hz)
          have xb := boxNext low 118 x.box
          replace low := gAlloc low (.cells x.box 118)
          replace db := db.alloc (.cells x.box 118)
          try simp only [World.size_alloc] at xb
          simp only [Cp.box] at xb
          obtain ⟨z0, z1, z2, z3, z4, z5, z6⟩ := cpAt_of hc hb low hz
          simp only [Nat.zero_mul, Nat.add_zero] at z0 z1 z2 z3 z4 z5 z6
          clear hx hc hz z0 z1 z2
          have k2 : (k : Int) < l.length := by omega
          have k3 : (0 : Int) < l.length := by omega
          have eqL := fun w => eqL4 x.x.dat z.x.dat w
          simp only [Wy.dat] at eqL
          have xb_3 := xb.at_ 3 rfl
          have xb_4 := xb.at_ 4 rfl
          have xb_5 := xb.at_ 5 rfl
          have xb_6 := xb.at_ 6 rfl
          have HQ := Lib.hid (show eq4 (datA l k) (datA l 0) = eq4 x.x.dat z.x.dat by rw [HX.out, HZ.out])
          simp only [Wy.dat] at HQ
          generalize eq4 ⟨x.x.a, x.x.b, x.x.c, x.x.d⟩ ⟨z.x.a, z.x.b, z.x.c, z.x.d⟩ = Z at eqL HQ
          cases Z
          · obtain rfl : 3 = E := by
              have := HE.out
              rwa [if_pos (sameD_no hlt HQ.out)] at this
            go_wp2_with fail
            go_quiet (fail)
            go_wp2_with fail
            go_ret
            exact ⟨rfl, gDrewN low _⟩
          · go_wp2_with fail
            go_quiet (fail)
            go_wp2_with fail
            go_roundw
            case rel => exact ⟨k + 1, by omega, by go_num, Lib.hid fun i hi => by
              by_cases e : i < k
              · exact hno.out i e
              · obtain rfl : i = k := by omega
                exact HQ.out, db.drewN _, gDrewN low _⟩
            case measure => simp [intOf]; omega
        · have SB := Lib.hid (sameD_iff.2 (fun i hi => hno.out i (by omega)))
          replace HE := Lib.hid (HE.out.symm.trans (if_neg (by rw [SB.out]; decide))).symm
          clear hno
          go_wp2_with fail
          clear hlt hk
          have cps := H.out.call low
          have OW := Lib.hid fun w hw => ownerOf_any (.slice A l.length cp) l w hw
          have VA := Lib.hid fun w hw => valueOf_any (.slice A l.length cp) l d w hw
          generalize ownN l = O at OW HE
          have eqL := fun w => eqL4 (valL l d) d w
          generalize valL l d = z at VA HE eqL
          have d0 := db.at_ 0 rfl
          have d1 := db.at_ 1 rfl
          have d2 := db.at_ 2 rfl
          have d3 := db.at_ 3 rfl
          refine wp_region_noPanic ?_
          refine wp_region_held_drew (S := fun w' => w'.cell? ⟨w.heap.size, 0, none⟩ = some (.int .u64 d.a) ∧ w'.cell? ⟨w.heap.size, 1, none⟩ = some (.int .u64 d.b) ∧ w'.cell? ⟨w.heap.size, 2, none⟩ = some (.int .u64 d.c) ∧ w'.cell? ⟨w.heap.size, 3, none⟩ = some (.int .u64 d.d)) (by kernel_rfl) ⟨drewC d0, drewC d1, drewC d2, drewC d3⟩ (fun hHeld => ?_)
          clear db d0 d1 d2 d3
          refine takeFirst (i := 0) (v := ?_) rfl (by kernel_rfl) (by kernel_rfl) (by kernel_rfl) (by rfl) (fun _ _ _ h => h) ?_ (by assumption) ?_
          rotate_left
          · (intro w hSw; go_simp; try (with_reducible rfl))
          try simp only [Act.put, List.setIfInBounds_toArray, List.set_cons_zero, List.set_cons_succ]
          refine stepNext (i := 1) (by kernel_rfl) rfl (by rfl) (fun K hK => ?_)
          go_simp
          (with_reducible refine (OW.out _ cps.drew).mono ?_); rintro e w1 ⟨rfl, hb1⟩
          replace cps := cps.drew.call hb1
          replace low := gCall low.drew hb1
          obtain ⟨hh0, hh1, hh2, hh3⟩ := hHeld
          have hHeld := (And.intro (callC hb1 hh0) (And.intro (callC hb1 hh1) (And.intro (callC hb1 hh2) (callC hb1 hh3))))
          clear hh0 hh1 hh2 hh3
          refine hK.out _ _ hHeld ?_
          clear hK K
          try simp only [Act.put]
          try simp only [List.setIfInBounds_toArray, List.set_cons_zero, List.set_cons_succ]
          cases ho : decide (O < 0)
          · obtain rfl : 0 = E := by have := HE.out; rwa [if_neg (by have := of_decide_eq_false ho; omega)] at this
            refine takeFirst (i := 2) (v := ?_) rfl (by kernel_rfl) (by kernel_rfl) (by kernel_rfl) (by rfl) (fun _ _ _ h => h) ?_ (by assumption) ?_
            rotate_left
            · (intro w hSw; go_simp; try (with_reducible rfl))
            try simp only [Act.put, List.setIfInBounds_toArray, List.set_cons_zero, List.set_cons_succ]
            refine takeFirst (i := 3) (v := ?_) rfl (by kernel_rfl) (by kernel_rfl) (by kernel_rfl) (by rfl) (fun _ _ _ h => h) ?_ (by assumption) ?_
            rotate_left
            · (intro w hSw; go_simp; try (with_reducible rfl))
            try simp only [Act.put, List.setIfInBounds_toArray, List.set_cons_zero, List.set_cons_succ]
            refine skipFirst (i := 4) rfl (by kernel_rfl) (by kernel_rfl) (by kernel_rfl) (by rfl) (fun _ _ _ h => h) (by assumption) ?_
            try simp only [Act.put, List.setIfInBounds_toArray, List.set_cons_zero, List.set_cons_succ]
            refine skipFirst (i := 5) rfl (by kernel_rfl) (by kernel_rfl) (by kernel_rfl) (by rfl) (fun _ _ _ h => h) (by assumption) ?_
            try simp only [Act.put, List.setIfInBounds_toArray, List.set_cons_zero, List.set_cons_succ]
            refine skipFirst (i := 6) rfl (by kernel_rfl) (by kernel_rfl) (by kernel_rfl) (by rfl) (fun _ _ _ h => h) (by assumption) ?_
            try simp only [Act.put, List.setIfInBounds_toArray, List.set_cons_zero, List.set_cons_succ]
            refine skipFirst (i := 7) rfl (by kernel_rfl) (by kernel_rfl) (by kernel_rfl) (by rfl) (fun _ _ _ h => h) (by assumption) ?_
            try simp only [Act.put, List.setIfInBounds_toArray, List.set_cons_zero, List.set_cons_succ]
            refine skipFirst (i := 8) rfl (by kernel_rfl) (by kernel_rfl) (by kernel_rfl) (by rfl) (fun _ _ _ h => h) (by assumption) ?_
            try simp only [Act.put, List.setIfInBounds_toArray, List.set_cons_zero, List.set_cons_succ]
            refine takeFirst (i := 9) (v := ?_) rfl (by kernel_rfl) (by kernel_rfl) (by kernel_rfl) (by rfl) (fun _ _ _ h => h) ?_ (by assumption) ?_
            rotate_left
            · (intro w hSw; go_simp; try (with_reducible rfl))
            try simp only [Act.put, List.setIfInBounds_toArray, List.set_cons_zero, List.set_cons_succ]
            refine wpAnyH_done (by kernel_rfl) ?_ _
            refine NoPanic.normal ?_
            go_wp2_with fail
            go_ret
            exact ⟨rfl, low⟩
          · refine takeFirst (i := 2) (v := ?_) rfl (by kernel_rfl) (by kernel_rfl) (by kernel_rfl) (by rfl) (fun _ _ _ h => h) ?_ (by assumption) ?_
            rotate_left
            · (intro w hSw; go_simp; try (with_reducible rfl))
            try simp only [Act.put, List.setIfInBounds_toArray, List.set_cons_zero, List.set_cons_succ]
            refine takeFirst (i := 3) (v := ?_) rfl (by kernel_rfl) (by kernel_rfl) (by kernel_rfl) (by rfl) (fun _ _ _ h => h) ?_ (by assumption) ?_
            rotate_left
            · (intro w hSw; go_simp; try (with_reducible rfl))
            try simp only [Act.put, List.setIfInBounds_toArray, List.set_cons_zero, List.set_cons_succ]
            refine takeFirst (i := 4) (v := ?_) rfl (by kernel_rfl) (by kernel_rfl) (by kernel_rfl) (by rfl) (fun _ _ _ h => h) ?_ (by assumption) ?_
            rotate_left
            · (intro w hSw; go_simp; try (with_reducible rfl))
            try simp only [Act.put, List.setIfInBounds_toArray, List.set_cons_zero, List.set_cons_succ]
            refine takeFirst (i := 5) (v := ?_) rfl (by kernel_rfl) (by kernel_rfl) (by kernel_rfl) (by rfl) (fun _ _ _ h => h) ?_ (by assumption) ?_
            rotate_left
            · (intro w hSw; go_simp; try (with_reducible rfl))
            try simp only [Act.put, List.setIfInBounds_toArray, List.set_cons_zero, List.set_cons_succ]
            refine takeFirst (i := 7) (v := ?_) rfl (by kernel_rfl) (by kernel_rfl) (by kernel_rfl) (by rfl) (fun _ _ _ h => h) ?_ (by assumption) ?_
            rotate_left
            · (intro w hSw; go_simp; try (with_reducible rfl))
            try simp only [Act.put, List.setIfInBounds_toArray, List.set_cons_zero, List.set_cons_succ]
            refine stepNext (i := 6) (by kernel_rfl) rfl (by rfl) (fun K hK => ?_)
            go_simp
            (with_reducible refine (VA.out _ cps).mono ?_); rintro e w2 ⟨rfl, hb2⟩
            replace low := gCall low hb2
            obtain ⟨hh0, hh1, hh2, hh3⟩ := hHeld
            have hHeld := (And.intro (callC hb2 hh0) (And.intro (callC hb2 hh1) (And.intro (callC hb2 hh2) (callC hb2 hh3))))
            clear hh0 hh1 hh2 hh3
            refine hK.out _ _ hHeld ?_
            clear hK K
            try simp only [Act.put]
            try simp only [List.setIfInBounds_toArray, List.set_cons_zero, List.set_cons_succ]
            cases hz : eq4 z d
            · obtain rfl : 3 = E := by have := HE.out; rwa [if_pos ⟨of_decide_eq_true ho, hz⟩] at this
              simp only [hz] at eqL
              refine takeFirst (i := 8) (v := ?_) rfl (by kernel_rfl) (by kernel_rfl) (by kernel_rfl) (by rfl) (fun _ _ _ h => h) ?_ (by assumption) ?_
              rotate_left
              · (intro w hSw; go_simp; try (with_reducible rfl))
              try simp only [Act.put, List.setIfInBounds_toArray, List.set_cons_zero, List.set_cons_succ]
              refine takeFirst (i := 9) (v := ?_) rfl (by kernel_rfl) (by kernel_rfl) (by kernel_rfl) (by rfl) (fun _ _ _ h => h) ?_ (by assumption) ?_
              rotate_left
              · (intro w hSw; go_simp; try (with_reducible rfl))
              try simp only [Act.put, List.setIfInBounds_toArray, List.set_cons_zero, List.set_cons_succ]
              refine wpAnyH_done (by kernel_rfl) ?_ _
              refine NoPanic.normal ?_
              go_wp2_with fail
              go_ret
              exact ⟨rfl, low⟩
            · obtain rfl : 0 = E := by have := HE.out; rwa [if_neg (by rw [hz]; simp)] at this
              simp only [hz] at eqL
              refine takeFirst (i := 8) (v := ?_) rfl (by kernel_rfl) (by kernel_rfl) (by kernel_rfl) (by rfl) (fun _ _ _ h => h) ?_ (by assumption) ?_
              rotate_left
              · (intro w hSw; go_simp; try (with_reducible rfl))
              try simp only [Act.put, List.setIfInBounds_toArray, List.set_cons_zero, List.set_cons_succ]
              refine takeFirst (i := 9) (v := ?_) rfl (by kernel_rfl) (by kernel_rfl) (by kernel_rfl) (by rfl) (fun _ _ _ h => h) ?_ (by assumption) ?_
              rotate_left
              · (intro w hSw; go_simp; try (with_reducible rfl))
              try simp only [Act.put, List.setIfInBounds_toArray, List.set_cons_zero, List.set_cons_succ]
              refine wpAnyH_done (by kernel_rfl) ?_ _
              refine NoPanic.normal ?_
              go_wp2_with fail
              go_ret
              exact ⟨rfl, low⟩
end Go.Proofs.Ytmodajmjmdigfaa
