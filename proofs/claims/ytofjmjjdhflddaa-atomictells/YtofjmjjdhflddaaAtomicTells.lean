/-
Proved: the law 'AtomicTells' returns true for every argument, and changes nothing that was there. No condition.
-/
import Derived.Test.YtofjmjjdhflddaaAtomic3
import Derived.Test.YtofjmjjdhflddaaRefAtomic
namespace Go.Proofs.Ytofjmjjdhflddaa.atomicTells
open Go.ChangeShapes Go.WideShapes Go.ChangeAt Go.RowKit Go.Joins




/-- What a call owns is kept by a store into another block. -/
theorem own_stored {w w' : World} {g base size n : Nat} {e : TypeId} {v : Value} {xs : List Value} (h : w.ownsRow base e size v n xs) (st : Stored w g w') (hg : g < base) : w'.ownsRow base e size v n xs := by
  refine ⟨h.1, ?_⟩
  rcases h.2 with h2 | ⟨b, cap, cur, hv, hb, hh, r⟩
  · exact .inl h2
  · exact .inr ⟨b, cap, cur, hv, hb, (st.heap (by omega)).trans hh, r⟩

/-- What the law's own loop has, behind j operations. -/
def RelS (l : List Int) (r : List Dd) (w : World) (B : Nat) (bad s : Value) (j : Nat) : Prop :=
  (runE (r.take j) = 0 ∧ bad = .int .i64 0 ∧ Mb w B (runM l (r.take j)) ∧ w.ownsRow (B + 1) 22 1 s j ((runV l (r.take j)).map (Value.int .u64))) ∨
  (runE (r.take j) ≠ 0 ∧ bad = .int .i64 (runE (r.take j)))

set_option maxRecDepth 10000 in
set_option maxHeartbeats 4000000 in
theorem walk_all (l : List Int) (hl : l.length = 64) (d : Dd) (v : Value) (r : List Dd) (w : World) (ds : Ds w v r) :
    Calls Try.prog 3 #[memV l, d.val, v] w fun e w' => e = .returned (.bool true) ∧ Below w.heap.size w w' := by
  obtain ⟨i0, hi, hz0, hz1, hz2⟩ := info_parts info_word
  have HI := Lib.hid hi
  have HZ := Lib.hid (And.intro hz0 (And.intro hz1 hz2))
  clear hi hz0 hz1 hz2
  obtain ⟨x0, u0, e0, DI, hx0, DO⟩ := do_is l hl d
  replace DO := Lib.hid DO
  have DF := Lib.hid fun W => deedFault_any d W
  have RI := Lib.hid fun W => atomicRight_any d W
  have PL := Lib.hid fun W (h : deedE d = 0) => plain_ok l hl d h W
  have PY := Lib.hid fun W h => play_is l hl v r W h
  unfold DoIs at DI
  replace DI := Lib.hid DI
  obtain ⟨n, k, a, z⟩ := d
  generalize deedE ⟨n, k, a, z⟩ = dE at *
  have DS := Lib.hid ds
  obtain ⟨A, c, rfl⟩ : ∃ A c, v = .slice A r.length c := by obtain ⟨_, A, c, e, _⟩ := ds; exact ⟨A, c, e⟩
  clear ds
  generalize hq : r.length = q at *
  have HQ := Lib.hid hq
  clear hq
  have low := Below.refl w.heap.size w
  have mb := boxNext low 26 (memA l)
  replace low := gAlloc low (.cells (memA l) 26)
  try simp only [World.size_alloc] at mb
  have db := boxNext low 29 #[.int .i64 n, .int .i64 k, .int .i64 a, .int .u64 z]
  replace low := gAlloc low (.cells #[.int .i64 n, .int .i64 k, .int .i64 a, .int .u64 z] 29)
  replace mb := mb.alloc (.cells #[.int .i64 n, .int .i64 k, .int .i64 a, .int .u64 z] 29)
  try simp only [World.size_alloc] at db
  replace DS := Lib.hid (DS.out.call low)
  have db_0 := db.at_ 0 rfl
  have db_1 := db.at_ 1 rfl
  have db_2 := db.at_ 2 rfl
  have db_3 := db.at_ 3 rfl
  go_enter Try.func3, Try.ntmps3
  go_wp2_with ((with_reducible refine wp_loadMem (⟨mb, hl⟩) ?_ ?_ ?_); rfl; rfl)
  (with_reducible refine (DO.out _).mono ?_); rintro e w1 ⟨rfl, hb⟩
  clear db_0 db_1 db_2 db_3
  replace DS := Lib.hid (DS.out.call hb)
  replace mb := mb.call hb
  replace db := db.call hb
  replace low := gCall low hb
  clear hb DO
  have xb := Box.new w1 26 (memA x0)
  replace DS := Lib.hid (DS.out.alloc (.cells (memA x0) 26))
  replace mb := mb.alloc (.cells (memA x0) 26)
  replace db := db.alloc (.cells (memA x0) 26)
  replace low := gAlloc low (.cells (memA x0) 26)
  go_wp2_with (first | (with_reducible refine wp_newMem ?_) | ((with_reducible refine wp_storeNew (zeroL_length) (hx0) ?_ ?_ ?_); rfl; rfl) | ((with_reducible refine wp_loadMem (⟨mb, hl⟩) ?_ ?_ ?_); rfl; rfl))
  (with_reducible refine (PY.out _ DS.out).mono ?_); rintro e w2 ⟨⟨y, s, f, rfl, hy, PA⟩, hb⟩
  replace DS := Lib.hid (DS.out.call hb)
  replace mb := mb.call hb
  replace db := db.call hb
  replace xb := xb.call hb
  replace low := gCall low hb
  clear hb PY
  have yb := Box.new w2 26 (memA y)
  replace DS := Lib.hid (DS.out.alloc (.cells (memA y) 26))
  replace mb := mb.alloc (.cells (memA y) 26)
  replace db := db.alloc (.cells (memA y) 26)
  replace xb := xb.alloc (.cells (memA y) 26)
  replace PA := Lib.hid (PA.call (gAlloc (Below.refl _ _) (.cells (memA y) 26)))
  replace low := gAlloc low (.cells (memA y) 26)
  have zb := boxNext low 26 (memA zeroL)
  replace low := gAlloc low (.cells (memA zeroL) 26)
  replace mb := mb.alloc (.cells (memA zeroL) 26)
  replace db := db.alloc (.cells (memA zeroL) 26)
  replace xb := xb.alloc (.cells (memA zeroL) 26)
  replace yb := yb.alloc (.cells (memA zeroL) 26)
  try simp only [World.size_alloc] at zb
  replace DS := Lib.hid (DS.out.alloc (.cells (memA zeroL) 26))
  replace PA := Lib.hid (PA.out.call (gAlloc (Below.refl _ _) (.cells (memA zeroL) 26)))
  have db_0 := db.at_ 0 rfl
  have db_1 := db.at_ 1 rfl
  have db_2 := db.at_ 2 rfl
  have db_3 := db.at_ 3 rfl
  go_wp2_with (first | (with_reducible refine wp_newMem ?_) | (with_reducible refine wp_zeroMem ?_) | ((with_reducible refine wp_storeNew (zeroL_length) (hy) ?_ ?_ ?_); rfl; rfl) | ((with_reducible refine wp_storeNew (zeroL_length) (zeroL_length) ?_ ?_ ?_); rfl; rfl))
  (with_reducible refine (DF.out _).mono ?_); rintro e w3 ⟨rfl, hb⟩
  clear db_0 db_1 db_2 db_3
  replace DS := Lib.hid (DS.out.call hb)
  replace PA := Lib.hid (PA.out.call hb)
  replace mb := mb.call hb
  replace db := db.call hb
  replace xb := xb.call hb
  replace yb := yb.call hb
  replace zb := zb.call hb
  replace low := gCall low hb
  clear hb
  have db_0 := db.at_ 0 rfl
  have db_1 := db.at_ 1 rfl
  have db_2 := db.at_ 2 rfl
  have db_3 := db.at_ 3 rfl
  go_wp2_with fail
  (with_reducible refine (RI.out _).mono ?_); rintro e w4 ⟨rfl, hb⟩
  clear db_0 db_1 db_2 db_3
  replace DS := Lib.hid (DS.out.call hb)
  replace PA := Lib.hid (PA.out.call hb)
  replace mb := mb.call hb
  replace db := db.call hb
  replace xb := xb.call hb
  replace yb := yb.call hb
  replace zb := zb.call hb
  replace low := gCall low hb
  clear hb
  have hd : (dE != dE) = false := by simp
  clear DF RI
  rcases DI.out with ⟨hE, rfl, rfl, rfl⟩ | ⟨hE, rfl, rfl, rfl⟩
  · have hE2 : (e0 != 0) = true := by simpa using hE
    have eqM := eqMem zeroL zeroL zeroL_length zeroL_length
    have eq1 : sameM zeroL zeroL = true := by simp [sameM]
    clear hE DI PL
    have near0 : Below w4.heap.size w4 (w4.alloc (.cells (memA l) 26)) := gAlloc (Below.refl _ _) _
    by_cases hq : 200 < q
    · have hq2 : 200 < (q : Int) := by omega
      have hA : allE r = 2 := if_pos (by rw [HQ.out]; exact hq)
      rcases PA.out with ⟨-, rfl, rfl, rfl⟩ | ⟨h, -⟩
      rotate_left
      · rw [hA] at h; cases h
      rw [hA]
      clear PA hA
      go_wp2_with (first | ((with_reducible refine wp_loadMem (⟨xb, zeroL_length⟩) ?_ ?_ ?_); rfl; rfl) | ((with_reducible refine wp_loadMem (⟨xb, hx0⟩) ?_ ?_ ?_); rfl; rfl) | ((with_reducible refine wp_loadMem (⟨zb, zeroL_length⟩) ?_ ?_ ?_); rfl; rfl) | ((with_reducible refine wp_loadMem (⟨mb, hl⟩) ?_ ?_ ?_); rfl; rfl) | (with_reducible refine wp_newMem ?_) | ((with_reducible refine wp_storeNew (zeroL_length) (hl) ?_ ?_ ?_); rfl; rfl))
      clear eqM eq1
      go_loopw [14, 81] (fun bad i wr => ∃ j : Nat, j ≤ q ∧ i = .int .i64 j ∧ bad = .int .i64 2 ∧ Below w4.heap.size w4 wr) (fun _ i _ => q - (intOf i).toNat)
      case atStart => exact ⟨0, Nat.zero_le _, rfl, rfl, near0⟩
      case round =>
        clear near0
        obtain ⟨j, hj, rfl, rfl, near⟩ := hrel
        by_cases hlt : j < q
        · obtain ⟨_, A', c', e', h1, h2, h3⟩ := DS.out
          obtain ⟨rfl, rfl⟩ : A = A' ∧ c = c' := by injection e' with e1 e2 e3; exact ⟨e1, e3⟩
          obtain ⟨b, o, rfl, hb, hc⟩ := h3 (by have := HQ.out; omega)
          have hx : r[j]? = some (r[j]'(by have := HQ.out; omega)) := List.getElem?_eq_getElem _
          generalize r[j]'(by have := HQ.out; omega) = x at hx
          obtain ⟨c0, c1, c2, c3⟩ := deedAt_of hc hb near hx
          have HX := Lib.hid hx
          have k0 : (0 : Int) ≤ j := by omega
          have k1 : (j : Int) < q := by omega
          have hcq : q ≤ 2 ^ 63 - 1 := by unfold maxLen at h2; have := HQ.out; omega
          clear hx hc h3 h1 h2 e'
          go_wp2_with fail
          go_roundw
          case rel => exact ⟨j + 1, by omega, by go_num, rfl, gAlloc near _⟩
          case measure => simp [intOf]; omega
        · replace yb := yb.call near
          replace zb := zb.call near
          replace low := gCall low near
          have eqM := eqMem zeroL zeroL zeroL_length zeroL_length
          have eq1 : sameM zeroL zeroL = true := by simp [sameM]
          go_wp2_with (first | ((with_reducible refine wp_loadMem (⟨yb, zeroL_length⟩) ?_ ?_ ?_); rfl; rfl) | ((with_reducible refine wp_loadMem (⟨zb, zeroL_length⟩) ?_ ?_ ?_); rfl; rfl))
          go_ret
          exact ⟨rfl, low⟩
    · have hq2 : (q : Int) ≤ 200 := by omega
      have HA := Lib.hid (show allE r = runE r from if_neg (by rw [HQ.out]; exact hq))
      have nb : Mb _ _ _ := Mb.new (l := l) w4 hl
      go_wp2_with (first | ((with_reducible refine wp_loadMem (⟨xb, zeroL_length⟩) ?_ ?_ ?_); rfl; rfl) | ((with_reducible refine wp_loadMem (⟨xb, hx0⟩) ?_ ?_ ?_); rfl; rfl) | ((with_reducible refine wp_loadMem (⟨zb, zeroL_length⟩) ?_ ?_ ?_); rfl; rfl) | ((with_reducible refine wp_loadMem (⟨mb, hl⟩) ?_ ?_ ?_); rfl; rfl) | (with_reducible refine wp_newMem ?_) | ((with_reducible refine wp_storeNew (zeroL_length) (hl) ?_ ?_ ?_); rfl; rfl))
      clear eqM eq1
      go_loopw [14, 18, 81] (fun bad s i wr => ∃ j : Nat, j ≤ q ∧ i = .int .i64 j ∧ Below w4.heap.size w4 wr ∧ Hid (RelS l r wr w4.heap.size bad s j)) (fun _ _ i _ => q - (intOf i).toNat)
      case atStart => exact ⟨0, Nat.zero_le _, rfl, near0, Lib.hid (.inl ⟨rfl, rfl, nb, World.ownsRow_nil _ _ _ _⟩)⟩
      case round =>
        clear near0 nb
        obtain ⟨j, hj, rfl, near, RS⟩ := hrel
        by_cases hlt : j < q
        · obtain ⟨_, A', c', e', h1, h2, h3⟩ := DS.out
          obtain ⟨rfl, rfl⟩ : A = A' ∧ c = c' := by injection e' with e1 e2 e3; exact ⟨e1, e3⟩
          obtain ⟨b, o, rfl, hb, hc⟩ := h3 (by have := HQ.out; omega)
          have hx : r[j]? = some (r[j]'(by have := HQ.out; omega)) := List.getElem?_eq_getElem _
          generalize r[j]'(by have := HQ.out; omega) = x at hx
          obtain ⟨c0, c1, c2, c3⟩ := deedAt_of hc hb near hx
          have HX := Lib.hid hx
          have k0 : (0 : Int) ≤ j := by omega
          have k1 : (j : Int) < q := by omega
          have hcq : q ≤ 2 ^ 63 - 1 := by unfold maxLen at h2; have := HQ.out; omega
          clear hx hc h3 h1 h2 e'
          rcases RS.out with ⟨e, rfl, nb, own⟩ | ⟨e, rfl⟩
          · have FX := Lib.hid fun W => deedFault_any x W
            have hl1 := nb.2
            have PX := Lib.hid fun W (h : deedE x = 0) => plain_ok (runM l (r.take j)) hl1 x h W
            have hl2 := doM_length x hl1
            have OWN := Lib.hid own
            have E := Lib.hid e
            have ln := nb.lt
            clear RS own e
            have xd := Box.new wr 29 x.arr
            replace nb := nb.alloc (.cells x.arr 29)
            replace OWN := Lib.hid (OWN.out.alloc (.cells x.arr 29))
            replace near := gAlloc near (.cells x.arr 29)
            go_wp2_with fail
            (with_reducible refine (FX.out _).mono ?_); rintro e w7 ⟨rfl, hb7⟩
            replace nb := nb.call hb7
            replace OWN := Lib.hid (own_below OWN.out hb7)
            replace near := gCall near hb7
            replace xd := xd.call hb7
            clear hb7 c0 c1 c2 c3 FX
            by_cases hE : deedE x = 0
            · rw [hE]
              have P2 := Lib.hid fun W => PX.out W hE
              have HE := Lib.hid (show runE (r.take (j + 1)) = 0 by rw [take_more HX.out, runE_append, if_pos E.out]; simp [runE, hE])
              have HM := Lib.hid (show doM (runM l (r.take j)) x = runM l (r.take (j + 1)) by rw [take_more HX.out, runM_append]; rfl)
              have HV := Lib.hid (show runV l (r.take (j + 1)) = runV l (r.take j) ++ [doV (runM l (r.take j)) x] by rw [take_more HX.out, runV_append]; rfl)
              clear PX hE
              have xd_0 := xd.at_ 0 rfl
              have xd_1 := xd.at_ 1 rfl
              have xd_2 := xd.at_ 2 rfl
              have xd_3 := xd.at_ 3 rfl
              go_wp2_with ((with_reducible refine wp_loadMem (nb) ?_ ?_ ?_); rfl; rfl)
              (with_reducible refine (P2.out _).mono ?_); rintro e w8 ⟨rfl, hb8⟩
              replace nb := nb.call hb8
              replace OWN := Lib.hid (own_below OWN.out hb8)
              replace near := gCall near hb8
              clear xd_0 xd_1 xd_2 xd_3
              clear hb8 P2 xd
              generalize doM (runM l (r.take j)) x = m8 at *
              generalize doV (runM l (r.take j)) x = v8 at *
              have ol := OWN.out.lt
              go_wp2_with ((with_reducible refine wp_storeMem (nb) (hl2) ?_ ?_ ?_); rfl; rfl)
              intro w9 m9 st
              replace near := st.low near (by omega)
              replace OWN := Lib.hid (own_stored OWN.out st (by omega))
              clear st nb ol
              have ln9 := m9.lt
              go_wp2_with (at_builtin; refine wpList_append_own _ rfl _ _ 34 rfl (w4.heap.size + 1) 22 i0 (.int .u64 0) 1 8 Try.underlying34 HI.out HZ.out.1 HZ.out.2.1 HZ.out.2.2 rfl (by decide) _ _ _ rfl (OWN.out.alloc _) ⟨w9.heap.size, 0, none⟩ 1 1 [.int .u64 v8] rfl rfl ?c1 ?c2 ?c3 ?c4 ?c5 ?_)
              case c1 =>
                intro j u hj
                match j, hj with
                | 0, hj => simp at hj; subst hj; simp [Addr.add]
              case c2 => intro u hu; simp at hu; subst hu; rfl
              case c3 => unfold maxLen; omega
              case c4 => omega
              case c5 => simp; omega
              intro v10 w10 own10 grow10 _
              have ol := OWN.out.lt
              have m10 : Mb w10 w4.heap.size m8 := ⟨(m9.1.alloc (.cells #[.int .u64 v8] 22)).grown grow10 (fun e => by have := ol _ e.symm; omega), hl2⟩
              have near10 : Below w4.heap.size w4 w10 := (gAlloc near _).grown grow10 (by simp; omega) (fun g e => by have := ol _ e; omega)
              have O10 := Lib.hid own10
              clear grow10 own10 OWN m9 near ol
              go_wp2_with fail
              go_roundw
              case rel =>
                refine ⟨j + 1, by omega, by go_num, near10, Lib.hid (.inl ⟨HE.out, rfl, by rw [← HM.out]; exact m10, ?_⟩)⟩
                rw [HV.out, List.map_append]
                exact O10.out
              case measure => simp [intOf]; omega
            · have hE2 : (deedE x == 0) = false := by simpa using hE
              have HE := Lib.hid (show runE (r.take (j + 1)) = deedE x by rw [take_more HX.out, runE_append, if_pos E.out]; simp [runE, hE])
              have HE3 := Lib.hid hE
              clear PX hE
              go_wp2_with fail
              go_roundw
              case rel => exact ⟨j + 1, by omega, by go_num, near, Lib.hid (.inr ⟨by rw [HE.out]; exact HE3.out, by rw [HE.out]⟩)⟩
              case measure => simp [intOf]; omega
          · have hE2 : (runE (r.take j) == 0) = false := by simpa using e
            have HE := Lib.hid (show runE (r.take (j + 1)) = runE (r.take j) by rw [take_more HX.out, runE_append, if_neg e])
            have HE3 := Lib.hid e
            clear e RS
            go_wp2_with fail
            go_roundw
            case rel => exact ⟨j + 1, by omega, by go_num, gAlloc near _, Lib.hid (.inr ⟨by rw [HE.out]; exact HE3.out, by rw [HE.out]⟩)⟩
            case measure => simp [intOf]; omega
        · obtain rfl : j = q := by omega
          have tk : r.take j = r := List.take_of_length_le (by rw [HQ.out]; omega)
          unfold RelS at RS
          rw [tk] at RS
          clear tk
          replace PA := Lib.hid (PA.out.call near)
          replace low := gCall low near
          replace yb := yb.call near
          replace zb := zb.call near
          clear near DS
          rcases RS.out with ⟨e, rfl, nb, own⟩ | ⟨e, rfl⟩
          · rcases PA.out with ⟨h, -⟩ | ⟨-, rfl, rfl, sl⟩
            · rw [HA.out] at h; exact absurd e h
            replace sl := sl.sl
            rw [HQ.out] at sl
            have SL := Lib.hid sl
            obtain ⟨A3, c3, rfl⟩ : ∃ A c, s = .slice A j c := by obtain ⟨_, A, c, e, _⟩ := sl; exact ⟨A, c, e⟩
            have SO := Lib.hid (Sl.ofOwn own)
            obtain ⟨A4, c4, rfl⟩ : ∃ A c, u18 = .slice A j c := by obtain ⟨_, A, c, e, _⟩ := Sl.ofOwn own; exact ⟨A, c, e⟩
            clear PA RS own sl e HA
            have hm := nb.2
            have eqM := eqMem (runM l r) (runM l r) hm hm
            have eq1 : sameM (runM l r) (runM l r) = true := by simp [sameM]
            go_wp2_with (first | ((with_reducible refine wp_loadMem (⟨yb, hy⟩) ?_ ?_ ?_); rfl; rfl) | ((with_reducible refine wp_loadMem (nb) ?_ ?_ ?_); rfl; rfl))
            (with_reducible refine (equalWords_yes _ _ _ _ _ SL.out SO.out).mono ?_); rintro e w12 ⟨rfl, hb12⟩
            replace low := gCall low hb12
            clear hb12
            go_wp2_with fail
            go_ret
            exact ⟨rfl, low⟩
          · rcases PA.out with ⟨-, rfl, rfl, rfl⟩ | ⟨h, -⟩
            rotate_left
            · rw [HA.out] at h; exact absurd h e
            rw [HA.out]
            have hE2 : (runE r != 0) = true := by simpa using e
            have hE3 : (runE r == runE r) = true := by simp
            have eqM := eqMem zeroL zeroL zeroL_length zeroL_length
            have eq1 : sameM zeroL zeroL = true := by simp [sameM]
            clear PA RS e HA
            go_wp2_with (first | ((with_reducible refine wp_loadMem (⟨yb, zeroL_length⟩) ?_ ?_ ?_); rfl; rfl) | ((with_reducible refine wp_loadMem (⟨zb, zeroL_length⟩) ?_ ?_ ?_); rfl; rfl))
            go_ret
            exact ⟨rfl, low⟩
  · have P1 := Lib.hid fun W => PL.out W hE
    have hE2 : (dE != 0) = false := by simpa using hE
    clear hE DI PL
    generalize doM l ⟨n, k, a, z⟩ = x0 at *
    generalize doV l ⟨n, k, a, z⟩ = u0 at *
    have db_0 := db.at_ 0 rfl
    have db_1 := db.at_ 1 rfl
    have db_2 := db.at_ 2 rfl
    have db_3 := db.at_ 3 rfl
    go_wp2_with ((with_reducible refine wp_loadMem (⟨mb, hl⟩) ?_ ?_ ?_); rfl; rfl)
    (with_reducible refine (P1.out _).mono ?_); rintro e w5 ⟨rfl, hb⟩
    clear db_0 db_1 db_2 db_3
    replace DS := Lib.hid (DS.out.call hb)
    replace PA := Lib.hid (PA.out.call hb)
    replace mb := mb.call hb
    replace db := db.call hb
    replace xb := xb.call hb
    replace yb := yb.call hb
    replace zb := zb.call hb
    replace low := gCall low hb
    clear hb
    clear P1
    have nb := Mb.new (l := zeroL) w5 zeroL_length
    go_wp2_with (first | (with_reducible refine wp_newMem ?_) | ((with_reducible refine wp_storeMem (nb) (hx0) ?_ ?_ ?_); rfl; rfl))
    intro w6 m6 st
    have hb : Below w5.heap.size w5 w6 := st.low (gAlloc (Below.refl _ _) _) (Nat.le_refl _)
    clear nb st
    replace DS := Lib.hid (DS.out.call hb)
    replace PA := Lib.hid (PA.out.call hb)
    replace mb := mb.call hb
    replace db := db.call hb
    replace xb := xb.call hb
    replace yb := yb.call hb
    replace zb := zb.call hb
    replace low := gCall low hb
    clear hb
    have eqM := eqMem x0 x0 hx0 hx0
    have eq1 : sameM x0 x0 = true := by simp [sameM]
    have uu : (u0 != u0) = false := by simp
    have near0 : Below w6.heap.size w6 (w6.alloc (.cells (memA l) 26)) := gAlloc (Below.refl _ _) _
    by_cases hq : 200 < q
    · have hq2 : 200 < (q : Int) := by omega
      have hA : allE r = 2 := if_pos (by rw [HQ.out]; exact hq)
      rcases PA.out with ⟨-, rfl, rfl, rfl⟩ | ⟨h, -⟩
      rotate_left
      · rw [hA] at h; cases h
      rw [hA]
      clear PA hA
      go_wp2_with (first | ((with_reducible refine wp_loadMem (m6) ?_ ?_ ?_); rfl; rfl) | ((with_reducible refine wp_loadMem (⟨xb, hx0⟩) ?_ ?_ ?_); rfl; rfl) | ((with_reducible refine wp_loadMem (⟨zb, zeroL_length⟩) ?_ ?_ ?_); rfl; rfl) | ((with_reducible refine wp_loadMem (⟨mb, hl⟩) ?_ ?_ ?_); rfl; rfl) | (with_reducible refine wp_newMem ?_) | ((with_reducible refine wp_storeNew (zeroL_length) (hl) ?_ ?_ ?_); rfl; rfl))
      clear eqM eq1
      go_loopw [14, 81] (fun bad i wr => ∃ j : Nat, j ≤ q ∧ i = .int .i64 j ∧ bad = .int .i64 2 ∧ Below w6.heap.size w6 wr) (fun _ i _ => q - (intOf i).toNat)
      case atStart => exact ⟨0, Nat.zero_le _, rfl, rfl, near0⟩
      case round =>
        clear near0
        obtain ⟨j, hj, rfl, rfl, near⟩ := hrel
        by_cases hlt : j < q
        · obtain ⟨_, A', c', e', h1, h2, h3⟩ := DS.out
          obtain ⟨rfl, rfl⟩ : A = A' ∧ c = c' := by injection e' with e1 e2 e3; exact ⟨e1, e3⟩
          obtain ⟨b, o, rfl, hb, hc⟩ := h3 (by have := HQ.out; omega)
          have hx : r[j]? = some (r[j]'(by have := HQ.out; omega)) := List.getElem?_eq_getElem _
          generalize r[j]'(by have := HQ.out; omega) = x at hx
          obtain ⟨c0, c1, c2, c3⟩ := deedAt_of hc hb near hx
          have HX := Lib.hid hx
          have k0 : (0 : Int) ≤ j := by omega
          have k1 : (j : Int) < q := by omega
          have hcq : q ≤ 2 ^ 63 - 1 := by unfold maxLen at h2; have := HQ.out; omega
          clear hx hc h3 h1 h2 e'
          go_wp2_with fail
          go_roundw
          case rel => exact ⟨j + 1, by omega, by go_num, rfl, gAlloc near _⟩
          case measure => simp [intOf]; omega
        · replace yb := yb.call near
          replace zb := zb.call near
          replace low := gCall low near
          have eqM := eqMem zeroL zeroL zeroL_length zeroL_length
          have eq1 : sameM zeroL zeroL = true := by simp [sameM]
          go_wp2_with (first | ((with_reducible refine wp_loadMem (⟨yb, zeroL_length⟩) ?_ ?_ ?_); rfl; rfl) | ((with_reducible refine wp_loadMem (⟨zb, zeroL_length⟩) ?_ ?_ ?_); rfl; rfl))
          go_ret
          exact ⟨rfl, low⟩
    · have hq2 : (q : Int) ≤ 200 := by omega
      have HA := Lib.hid (show allE r = runE r from if_neg (by rw [HQ.out]; exact hq))
      have nb : Mb _ _ _ := Mb.new (l := l) w6 hl
      go_wp2_with (first | ((with_reducible refine wp_loadMem (m6) ?_ ?_ ?_); rfl; rfl) | ((with_reducible refine wp_loadMem (⟨xb, hx0⟩) ?_ ?_ ?_); rfl; rfl) | ((with_reducible refine wp_loadMem (⟨zb, zeroL_length⟩) ?_ ?_ ?_); rfl; rfl) | ((with_reducible refine wp_loadMem (⟨mb, hl⟩) ?_ ?_ ?_); rfl; rfl) | (with_reducible refine wp_newMem ?_) | ((with_reducible refine wp_storeNew (zeroL_length) (hl) ?_ ?_ ?_); rfl; rfl))
      clear eqM eq1
      go_loopw [14, 18, 81] (fun bad s i wr => ∃ j : Nat, j ≤ q ∧ i = .int .i64 j ∧ Below w6.heap.size w6 wr ∧ Hid (RelS l r wr w6.heap.size bad s j)) (fun _ _ i _ => q - (intOf i).toNat)
      case atStart => exact ⟨0, Nat.zero_le _, rfl, near0, Lib.hid (.inl ⟨rfl, rfl, nb, World.ownsRow_nil _ _ _ _⟩)⟩
      case round =>
        clear near0 nb
        obtain ⟨j, hj, rfl, near, RS⟩ := hrel
        by_cases hlt : j < q
        · obtain ⟨_, A', c', e', h1, h2, h3⟩ := DS.out
          obtain ⟨rfl, rfl⟩ : A = A' ∧ c = c' := by injection e' with e1 e2 e3; exact ⟨e1, e3⟩
          obtain ⟨b, o, rfl, hb, hc⟩ := h3 (by have := HQ.out; omega)
          have hx : r[j]? = some (r[j]'(by have := HQ.out; omega)) := List.getElem?_eq_getElem _
          generalize r[j]'(by have := HQ.out; omega) = x at hx
          obtain ⟨c0, c1, c2, c3⟩ := deedAt_of hc hb near hx
          have HX := Lib.hid hx
          have k0 : (0 : Int) ≤ j := by omega
          have k1 : (j : Int) < q := by omega
          have hcq : q ≤ 2 ^ 63 - 1 := by unfold maxLen at h2; have := HQ.out; omega
          clear hx hc h3 h1 h2 e'
          rcases RS.out with ⟨e, rfl, nb, own⟩ | ⟨e, rfl⟩
          · have FX := Lib.hid fun W => deedFault_any x W
            have hl1 := nb.2
            have PX := Lib.hid fun W (h : deedE x = 0) => plain_ok (runM l (r.take j)) hl1 x h W
            have hl2 := doM_length x hl1
            have OWN := Lib.hid own
            have E := Lib.hid e
            have ln := nb.lt
            clear RS own e
            have xd := Box.new wr 29 x.arr
            replace nb := nb.alloc (.cells x.arr 29)
            replace OWN := Lib.hid (OWN.out.alloc (.cells x.arr 29))
            replace near := gAlloc near (.cells x.arr 29)
            go_wp2_with fail
            (with_reducible refine (FX.out _).mono ?_); rintro e w7 ⟨rfl, hb7⟩
            replace nb := nb.call hb7
            replace OWN := Lib.hid (own_below OWN.out hb7)
            replace near := gCall near hb7
            replace xd := xd.call hb7
            clear hb7 c0 c1 c2 c3 FX
            by_cases hE : deedE x = 0
            · rw [hE]
              have P2 := Lib.hid fun W => PX.out W hE
              have HE := Lib.hid (show runE (r.take (j + 1)) = 0 by rw [take_more HX.out, runE_append, if_pos E.out]; simp [runE, hE])
              have HM := Lib.hid (show doM (runM l (r.take j)) x = runM l (r.take (j + 1)) by rw [take_more HX.out, runM_append]; rfl)
              have HV := Lib.hid (show runV l (r.take (j + 1)) = runV l (r.take j) ++ [doV (runM l (r.take j)) x] by rw [take_more HX.out, runV_append]; rfl)
              clear PX hE
              have xd_0 := xd.at_ 0 rfl
              have xd_1 := xd.at_ 1 rfl
              have xd_2 := xd.at_ 2 rfl
              have xd_3 := xd.at_ 3 rfl
              go_wp2_with ((with_reducible refine wp_loadMem (nb) ?_ ?_ ?_); rfl; rfl)
              (with_reducible refine (P2.out _).mono ?_); rintro e w8 ⟨rfl, hb8⟩
              replace nb := nb.call hb8
              replace OWN := Lib.hid (own_below OWN.out hb8)
              replace near := gCall near hb8
              clear xd_0 xd_1 xd_2 xd_3
              clear hb8 P2 xd
              generalize doM (runM l (r.take j)) x = m8 at *
              generalize doV (runM l (r.take j)) x = v8 at *
              have ol := OWN.out.lt
              go_wp2_with ((with_reducible refine wp_storeMem (nb) (hl2) ?_ ?_ ?_); rfl; rfl)
              intro w9 m9 st
              replace near := st.low near (by omega)
              replace OWN := Lib.hid (own_stored OWN.out st (by omega))
              clear st nb ol
              have ln9 := m9.lt
              go_wp2_with (at_builtin; refine wpList_append_own _ rfl _ _ 34 rfl (w6.heap.size + 1) 22 i0 (.int .u64 0) 1 8 Try.underlying34 HI.out HZ.out.1 HZ.out.2.1 HZ.out.2.2 rfl (by decide) _ _ _ rfl (OWN.out.alloc _) ⟨w9.heap.size, 0, none⟩ 1 1 [.int .u64 v8] rfl rfl ?c1 ?c2 ?c3 ?c4 ?c5 ?_)
              case c1 =>
                intro j u hj
                match j, hj with
                | 0, hj => simp at hj; subst hj; simp [Addr.add]
              case c2 => intro u hu; simp at hu; subst hu; rfl
              case c3 => unfold maxLen; omega
              case c4 => omega
              case c5 => simp; omega
              intro v10 w10 own10 grow10 _
              have ol := OWN.out.lt
              have m10 : Mb w10 w6.heap.size m8 := ⟨(m9.1.alloc (.cells #[.int .u64 v8] 22)).grown grow10 (fun e => by have := ol _ e.symm; omega), hl2⟩
              have near10 : Below w6.heap.size w6 w10 := (gAlloc near _).grown grow10 (by simp; omega) (fun g e => by have := ol _ e; omega)
              have O10 := Lib.hid own10
              clear grow10 own10 OWN m9 near ol
              go_wp2_with fail
              go_roundw
              case rel =>
                refine ⟨j + 1, by omega, by go_num, near10, Lib.hid (.inl ⟨HE.out, rfl, by rw [← HM.out]; exact m10, ?_⟩)⟩
                rw [HV.out, List.map_append]
                exact O10.out
              case measure => simp [intOf]; omega
            · have hE2 : (deedE x == 0) = false := by simpa using hE
              have HE := Lib.hid (show runE (r.take (j + 1)) = deedE x by rw [take_more HX.out, runE_append, if_pos E.out]; simp [runE, hE])
              have HE3 := Lib.hid hE
              clear PX hE
              go_wp2_with fail
              go_roundw
              case rel => exact ⟨j + 1, by omega, by go_num, near, Lib.hid (.inr ⟨by rw [HE.out]; exact HE3.out, by rw [HE.out]⟩)⟩
              case measure => simp [intOf]; omega
          · have hE2 : (runE (r.take j) == 0) = false := by simpa using e
            have HE := Lib.hid (show runE (r.take (j + 1)) = runE (r.take j) by rw [take_more HX.out, runE_append, if_neg e])
            have HE3 := Lib.hid e
            clear e RS
            go_wp2_with fail
            go_roundw
            case rel => exact ⟨j + 1, by omega, by go_num, gAlloc near _, Lib.hid (.inr ⟨by rw [HE.out]; exact HE3.out, by rw [HE.out]⟩)⟩
            case measure => simp [intOf]; omega
        · obtain rfl : j = q := by omega
          have tk : r.take j = r := List.take_of_length_le (by rw [HQ.out]; omega)
          unfold RelS at RS
          rw [tk] at RS
          clear tk
          replace PA := Lib.hid (PA.out.call near)
          replace low := gCall low near
          replace yb := yb.call near
          replace zb := zb.call near
          clear near DS
          rcases RS.out with ⟨e, rfl, nb, own⟩ | ⟨e, rfl⟩
          · rcases PA.out with ⟨h, -⟩ | ⟨-, rfl, rfl, sl⟩
            · rw [HA.out] at h; exact absurd e h
            replace sl := sl.sl
            rw [HQ.out] at sl
            have SL := Lib.hid sl
            obtain ⟨A3, c3, rfl⟩ : ∃ A c, s = .slice A j c := by obtain ⟨_, A, c, e, _⟩ := sl; exact ⟨A, c, e⟩
            have SO := Lib.hid (Sl.ofOwn own)
            obtain ⟨A4, c4, rfl⟩ : ∃ A c, u18 = .slice A j c := by obtain ⟨_, A, c, e, _⟩ := Sl.ofOwn own; exact ⟨A, c, e⟩
            clear PA RS own sl e HA
            have hm := nb.2
            have eqM := eqMem (runM l r) (runM l r) hm hm
            have eq1 : sameM (runM l r) (runM l r) = true := by simp [sameM]
            go_wp2_with (first | ((with_reducible refine wp_loadMem (⟨yb, hy⟩) ?_ ?_ ?_); rfl; rfl) | ((with_reducible refine wp_loadMem (nb) ?_ ?_ ?_); rfl; rfl))
            (with_reducible refine (equalWords_yes _ _ _ _ _ SL.out SO.out).mono ?_); rintro e w12 ⟨rfl, hb12⟩
            replace low := gCall low hb12
            clear hb12
            go_wp2_with fail
            go_ret
            exact ⟨rfl, low⟩
          · rcases PA.out with ⟨-, rfl, rfl, rfl⟩ | ⟨h, -⟩
            rotate_left
            · rw [HA.out] at h; exact absurd h e
            rw [HA.out]
            have hE2 : (runE r != 0) = true := by simpa using e
            have hE3 : (runE r == runE r) = true := by simp
            have eqM := eqMem zeroL zeroL zeroL_length zeroL_length
            have eq1 : sameM zeroL zeroL = true := by simp [sameM]
            clear PA RS e HA
            go_wp2_with (first | ((with_reducible refine wp_loadMem (⟨yb, zeroL_length⟩) ?_ ?_ ?_); rfl; rfl) | ((with_reducible refine wp_loadMem (⟨zb, zeroL_length⟩) ?_ ?_ ?_); rfl; rfl))
            go_ret
            exact ⟨rfl, low⟩

theorem walk (v0 v1 v2 : Value) (w : World) (h0 : IsMem v0) (h1 : IsDeed v1) (h2 : IsDeeds w v2) :
    Calls Try.prog 3 #[v0, v1, v2] w fun e w' => e = .returned (.bool true) ∧ Below w.heap.size w w' := by
  obtain ⟨l, rfl, hl⟩ := h0
  obtain ⟨d, rfl⟩ := h1
  obtain ⟨r, ds⟩ := h2
  exact walk_all l hl d v2 r w ds

set_option maxRecDepth 100000 in
theorem lifted (os : Os) (started : os.Started) (H : Type) (enc : TypeId × Value → H) :
    ReturnsInHanded {} Try.checked os 3 .any (Rows.atomicTellsSpec.pre6 enc Try.prog Try.f3 Rows.atomicTellsRow.domain false) (Rows.atomicTellsSpec.post enc Try.prog Try.f3 false true false false) := by
  refine returnsInHanded_of_change (C := Try.checked) own started (by kernel_rfl) Try.func3
    (ChangeSpec.witness6 (enc := enc) (C := Try.checked) false ⟨#[], #[memV zeroL, .agg #[.int .i64 0, .int .i64 1, .int .i64 0, .int .u64 0], .slice none 0 0], []⟩ 8 (by kernel_rfl) (by kernel_rfl) (by kernel_rfl) (by kernel_rfl)) ?_
  intro W base args ds gs before hval0 hW hcnd _
  have hval : ∀ (j : Nat) t v, Try.f3.params[j]? = some t → args[j]? = some v → Value.okWide Try.prog W .any base t v := hval0
  have hW' := hW
  obtain ⟨p, q, hA0, hV, rfl, hfz, hnd⟩ := hW
  have hA : DataW.TrodAll enc Try.prog W 0 (fun _ => true) true Try.f3.params.toList args.toList ds p := hA0
  rw [Try.params3] at hA hval
  obtain ⟨v0, vs0, d0, ds0, p0, q0, hargs, rfl, rfl, h0, r0⟩ := trodAll_cons hA
  obtain ⟨v1, vs1, d1, ds1, p1, q1, rfl, rfl, rfl, h1, r1⟩ := trodAll_cons r0
  obtain ⟨v2, vs2, d2, ds2, p2, q2, rfl, rfl, rfl, h2, r2⟩ := trodAll_cons r1
  obtain ⟨rfl, rfl, rfl⟩ := trodAll_nil r2
  obtain rfl : args = #[v0, v1, v2] := by cases args; simp_all
  have k0 := openMem (hval 0 26 v0 rfl rfl) h0
  have k1 := openDeed (hval 1 29 v1 rfl rfl) h1
  have k2 := openDeeds (hval 2 30 v2 rfl rfl) h2
  obtain ⟨rfl, rfl⟩ := trodVars_none hV
  clear hA0 hval0
  refine (walk v0 v1 v2 W k0 k1 k2).mono fun e W' ⟨he, bel⟩ => ⟨_, he, ?_⟩
  exact law_post (by kernel_rfl) (by kernel_rfl) rfl hW' rfl rfl rfl bel

theorem over : Rows.atomicTellsRow.holds Try.pinned (OpenSpec.ofChange Rows.atomicTellsSpec) :=
  OpenClaim.holds_of_wide 3 Try.f3 rfl rfl rfl rfl rfl rfl rfl ⟨rfl, rfl, rfl, rfl, rfl⟩ rfl rfl rfl rfl rfl (by kernel_rfl) Try.func3 (by kernel_rfl)
    (of_decide_eq_true (by kernel_rfl)) (by unfold Func.isWrapper; first | (rw [if_pos (by decide +kernel)]; kernel_rfl) | (rw [if_neg (by decide +kernel)]; exact ⟨rfl, rfl⟩))
    (fun os started H enc _ => lifted os started H enc)

/-- The statement. -/
theorem atomicTells_holds : Rows.AtomicTellsSaid := over
end Go.Proofs.Ytofjmjjdhflddaa.atomicTells
namespace Go.Proofs.Ytofjmjjdhflddaa
theorem atomicTells_holds : Rows.AtomicTellsSaid := atomicTells.atomicTells_holds
#print axioms atomicTells_holds
end Go.Proofs.Ytofjmjjdhflddaa
