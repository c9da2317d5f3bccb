/-
Proved: the law 'RingKeeps' returns true for every argument, and changes nothing that was there. No condition.
-/
import Derived.Test.YtiefeeondeablaaRingFacts
import Derived.Test.YtiefeeondeablaaRings
import Derived.Test.YtiefeeondeablaaSlices
import Derived.Test.YtiefeeondeablaaDeleted
import Derived.Test.YtiefeeondeablaaIntsEqual
namespace Go.Proofs.Ytiefeeondeablaa.ringKeeps
open Go.ChangeShapes Go.WideShapes Go.ChangeAt Go.RowKit Go.Joins

theorem undL_succ {l : List Sw} {k : Nat} {x : Sw} (h : l[k]? = some x) : undL (l.take (k + 1)) = undL (l.take k) ++ if x.fu = true then [x.nd] else [] := by
  have e : l.take (k + 1) = l.take k ++ [x] := by rw [List.take_add_one, h]; rfl
  unfold undL
  rw [e, List.filter_append, List.map_append]
  cases hr : x.fu <;> simp [hr]
theorem undL_few (l : List Sw) : (undL l).length ≤ l.length := by
  unfold undL
  rw [List.length_map]
  exact List.length_filter_le _ _

/-- Who is under way, in order. -/
def Und (w : World) (base : Nat) (v : Value) (l : List Sw) : Prop := ∃ ts, ts.Perm (undL l) ∧ UpI ts ∧ w.ownsRow base 3 1 v ts.length (ts.map (Value.int .i64))

set_option maxHeartbeats 2000000 in
theorem under_any (v : Value) (l : List Sw) (w : World) (h : Rs w v l) (h8 : l.length ≤ 8) :
    Calls Try.prog 20 #[v] w fun e w' => (∃ uv, e = .returned uv ∧ Und w' w.heap.size uv l) ∧ Below w.heap.size w w' := by
  obtain ⟨i0, hi, hz0, hz1, hz2⟩ := info_parts info_int2
  have HI := Lib.hid hi
  have HZ := Lib.hid (And.intro hz0 (And.intro hz1 hz2))
  obtain ⟨_, A, c, rfl, h1, h2, h3⟩ := h
  have H3 := Lib.hid h3
  unfold maxLen at h2
  clear h3 hi hz0 hz1 hz2
  have low := Below.refl w.heap.size w
  go_enter Try.func20, Try.ntmps20
  go_wp2_with fail
  go_loopw [3, 8] (fun bv i wr => ∃ k : Nat, k ≤ l.length ∧ i = .int .i64 k ∧ Hid (wr.ownsRow w.heap.size 3 1 bv (undL (l.take k)).length ((undL (l.take k)).map (Value.int .i64))) ∧ Below w.heap.size w wr) (fun _ i _ => l.length - (intOf i).toNat)
  case atStart => exact ⟨0, Nat.zero_le _, rfl, Lib.hid (World.ownsRow_nil _ _ _ _), low⟩
  case round =>
    clear low
    obtain ⟨k, hk, rfl, row, low⟩ := hrel
    by_cases hlt : k < l.length
    · obtain ⟨bb, o, rfl, hb, hc⟩ := H3.out (by omega)
      have hx : l[k]? = some l[k] := List.getElem?_eq_getElem _
      generalize l[k] = x at hx
      obtain ⟨c0, c1, c2, c3⟩ := slotAt_of hc hb low hx
      have HUK := Lib.hid (undL_succ hx)
      obtain ⟨a, f, d, t⟩ := x
      simp only at c0 c1 c2 c3 HUK
      have k0 : (0 : Int) ≤ k := by omega
      have k1 : (k : Int) < l.length := by omega
      clear hx hc
      cases f
      · have row2 := row.out.alloc (.cells #[.int .i64 a, .bool false, .int .i64 d, .int .i64 t] 38)
        have e0 : undL (l.take (k + 1)) = undL (l.take k) := HUK.out.trans (by rw [if_neg Bool.false_ne_true, List.append_nil])
        rw [← e0] at row2
        have ROW := Lib.hid row2
        clear row2 row HUK e0
        go_wp2_with fail
        go_roundw
        case rel => exact ⟨k + 1, by omega, by go_num, ROW, gAlloc low _⟩
        case measure => simp [intOf]; omega
      · replace HUK : Hid (undL (l.take (k + 1)) = undL (l.take k) ++ [d]) := HUK
        have sb := boxNext low 38 #[.int .i64 a, .bool true, .int .i64 d, .int .i64 t]
        replace low := gAlloc low (.cells #[.int .i64 a, .bool true, .int .i64 d, .int .i64 t] 38)
        try simp only [World.size_alloc] at sb
        have db := boxNext low 3 #[.int .i64 d]
        replace low := gAlloc low (.cells #[.int .i64 d] 3)
        replace sb := sb.alloc (.cells #[.int .i64 d] 3)
        try simp only [World.size_alloc] at db
        have ROW := Lib.hid ((row.out.alloc (.cells #[.int .i64 a, .bool true, .int .i64 d, .int .i64 t] 38)).alloc (.cells #[.int .i64 d] 3))
        have few := Lib.hid (show (undL (l.take k)).length ≤ 8 by have := undL_few (l.take k); rw [List.length_take] at this; omega)
        clear row sb
        have zr := Lib.hid low.size
        go_wp2_with (at_builtin; refine wpList_append_own _ rfl _ _ 31 rfl w.heap.size 3 i0 (.int .i64 0) 1 8 Try.underlying31 HI.out HZ.out.1 HZ.out.2.1 HZ.out.2.2 rfl (by decide) _ _ _ rfl ROW.out ⟨wr.heap.size + 1, 0, none⟩ 1 1 [.int .i64 d] rfl rfl ?c1 ?c2 ?c3 ?c4 ?c5 ?_)
        case c1 =>
          intro j u hj
          match j, hj with
          | 0, hj => simp at hj; subst hj; simp [Addr.add]
        case c2 => intro u hu; simp at hu; subst hu; rfl
        case c3 => have := few.out; unfold maxLen; omega
        case c4 => have := few.out; omega
        case c5 => exact zr.out
        intro v4 w4 own4 grow4 _
        replace low := low.grown grow4 zr.out (row_from ROW.out)
        have e1 : (undL (l.take (k + 1))).length = (undL (l.take k)).length + 1 := by rw [HUK.out, List.length_append, List.length_singleton]
        have e2 : (undL (l.take (k + 1))).map (Value.int .i64) = (undL (l.take k)).map (Value.int .i64) ++ [.int .i64 d] := by rw [HUK.out, List.map_append]; rfl
        rw [← e1, ← e2] at own4
        replace ROW := Lib.hid own4
        clear own4 grow4 e1 e2 few db HUK zr
        go_wp2_with fail
        go_roundw
        case rel => exact ⟨k + 1, by omega, by go_num, ROW, low⟩
        case measure => simp [intOf]; omega
    · obtain rfl : k = l.length := by omega
      have RW := row.out
      rw [List.take_length] at RW
      have SO := Lib.hid (sort_row w.heap.size _ (undL l) wr RW (by have := undL_few l; omega))
      clear row RW
      go_wp2_with fail
      (with_reducible refine SO.out.mono ?_); rintro e w9 ⟨rfl, ⟨ts, hp, hu, row9⟩, st⟩
      replace low := st.low low (Nat.le_refl _)
      have U := Lib.hid (show Und w9 w.heap.size _ l from ⟨ts, hp, hu, hp.length_eq ▸ row9⟩)
      clear st row9 hp hu
      go_wp2_with fail
      go_ret
      exact ⟨⟨_, rfl, U.out⟩, low⟩

/-- Is a node told? -/
theorem told_any (tv : Value) (ts : List Int) (x : Int) (g : Nat) (w : World) (hc : w.cell? ⟨g, 0, none⟩ = some tv) (h : Sl w w.heap.size 1 tv ts.length (ts.map (Value.int .i64))) :
    Calls Try.prog 23 #[.int .i64 x, .pointer (some ⟨g, 0, none⟩)] w fun e w' => e = .returned (.bool (decide (x ∈ ts))) ∧ w = w' := by
  have CON := Lib.hid (contains_any tv ts.length ts x w h)
  obtain ⟨A, c, rfl⟩ : ∃ A c, tv = .slice A ts.length c := by obtain ⟨_, A, c, e, _⟩ := h; exact ⟨A, c, e⟩
  generalize decide (x ∈ ts) = B at *
  clear h
  go_enter Try.func23, Try.ntmps23
  go_wp2_with fail
  (with_reducible refine (CON.out).mono ?_); rintro e w' ⟨rfl, rfl⟩
  go_wp2_with fail
  go_ret
  exact ⟨rfl, rfl⟩

set_option maxHeartbeats 1000000 in
theorem walk_bad (n s y b : Int) (v : Value) (l : List Sw) (w : World) (h : Rs w v l) (hE : ringE n s y b l ≠ 0) :
    Calls Try.prog 5 #[cfg n s y b, v] w fun e w' => e = .returned (.bool true) ∧ Below w.heap.size w w' := by
  have P := Lib.hid fun w hw => ringStep_bad n s y b v l w hw hE
  generalize ringE n s y b l = E at *
  have hE' : (E != 0) = true := by simpa using hE
  clear hE
  obtain ⟨A, c, rfl⟩ := h.shape
  have low := Below.refl w.heap.size w
  have cb := boxNext low 23 #[.int .i64 n, .int .i64 s, .int .i64 y, .int .i64 b]
  replace low := gAlloc low (.cells #[.int .i64 n, .int .i64 s, .int .i64 y, .int .i64 b] 23)
  replace h := h.alloc (.cells #[.int .i64 n, .int .i64 s, .int .i64 y, .int .i64 b] 23)
  try simp only [World.size_alloc] at cb
  go_enter Try.func5, Try.ntmps5
  go_wp2_with fail
  (with_reducible refine (rings_yes _).mono ?_); rintro e w1 ⟨rfl, hb⟩
  replace cb := cb.call hb
  replace h := h.call hb
  replace low := gCall low hb
  clear hb
  have cb_0 := cb.at_ 0 rfl
  have cb_1 := cb.at_ 1 rfl
  have cb_2 := cb.at_ 2 rfl
  have cb_3 := cb.at_ 3 rfl
  go_wp2_with fail
  (with_reducible refine (P.out _ h).mono ?_); rintro e w2 ⟨rfl, hb⟩
  replace low := gCall low hb
  clear hb cb_0 cb_1 cb_2 cb_3
  go_wp2_with fail
  go_ret
  exact ⟨rfl, gAlloc low _⟩

set_option maxHeartbeats 4000000 in
theorem walk_ok (n s y b : Int) (v : Value) (l : List Sw) (w : World) (h : Rs w v l) (hE : ringE n s y b l = 0) :
    Calls Try.prog 5 #[cfg n s y b, v] w fun e w' => e = .returned (.bool true) ∧ Below w.heap.size w w' := by
  have P := Lib.hid fun w hw => ringStep_ok n s y b v l w hw hE
  obtain ⟨g1, m1, m8, ok⟩ := ringE_zero.1 hE
  have hn : 2 ≤ n := by have := cfgB_iff.1 g1; omega
  have CK := Lib.hid fun w v hw => ringCheck_any n s y b v (l.map (advS n)) w hw
  rw [ringE_zero.2 ⟨g1, by rw [List.length_map]; exact m1, by rw [List.length_map]; exact m8, ok.step hn⟩] at CK
  have UN := Lib.hid fun w hw => under_any v l w hw m8
  have UX := Lib.hid fun w v hw => under_any v (l.map (advS n)) w hw (by rw [List.length_map]; exact m8)
  have LEFT := Lib.hid ok.left
  have CNT := Lib.hid (undL_count n l)
  have HM8 := Lib.hid m8
  have HL := Lib.hid (show (l.map (advS n)).length = l.length from List.length_map _)
  clear hE g1 ok
  have H := Lib.hid h
  obtain ⟨A, c, rfl⟩ := h.shape
  have low := Below.refl w.heap.size w
  have cb := boxNext low 23 #[.int .i64 n, .int .i64 s, .int .i64 y, .int .i64 b]
  replace low := gAlloc low (.cells #[.int .i64 n, .int .i64 s, .int .i64 y, .int .i64 b] 23)
  replace h := h.alloc (.cells #[.int .i64 n, .int .i64 s, .int .i64 y, .int .i64 b] 23)
  try simp only [World.size_alloc] at cb
  go_enter Try.func5, Try.ntmps5
  go_wp2_with fail
  (with_reducible refine (rings_yes _).mono ?_); rintro e w1 ⟨rfl, hb⟩
  replace cb := cb.call hb
  replace h := h.call hb
  replace low := gCall low hb
  clear hb
  have cb_0 := cb.at_ 0 rfl
  have cb_1 := cb.at_ 1 rfl
  have cb_2 := cb.at_ 2 rfl
  have cb_3 := cb.at_ 3 rfl
  go_wp2_with fail
  (with_reducible refine (P.out _ h).mono ?_); rintro e w2 ⟨⟨v', tv, ts, rfl, fr, hp, hu, row⟩, hb⟩
  obtain ⟨g, hg1, hg2, own⟩ := fr
  obtain ⟨A', c', rfl⟩ := own.rs.shape
  rw [HL.out] at own ⊢
  have OW := Lib.hid own
  have SL := Lib.hid (Sl.ofOwn row)
  have HP := Lib.hid hp
  have HT8 := Lib.hid (show ts.length ≤ 8 by have := hp.length_eq; have := backL_few n l; have := HM8.out; omega)
  obtain ⟨At, ct, rfl⟩ : ∃ A c, tv = .slice A ts.length c := by obtain ⟨_, A, c, e, _⟩ := SL.out; exact ⟨A, c, e⟩
  replace cb := cb.call hb
  replace low := gCall low hb
  clear hb hp hu row P h hg1 hg2 own
  clear cb_0 cb_1 cb_2 cb_3
  have tb := boxNext low 31 #[.slice At ts.length ct]
  replace low := gAlloc low (.cells #[.slice At ts.length ct] 31)
  replace cb := cb.alloc (.cells #[.slice At ts.length ct] 31)
  try simp only [World.size_alloc] at tb
  have o1 := gAlloc (Below.refl w2.heap.size w2) (.cells #[.slice At ts.length ct] 31)
  replace OW := Lib.hid (OW.out.call o1)
  replace SL := Lib.hid (SL.out.call o1)
  clear o1
  go_wp2_with fail
  generalize w2.alloc (.cells #[.slice At ts.length ct] 31) = wA at *
  (with_reducible refine (UN.out _ (H.out.call low)).mono ?_); rintro e w3 ⟨⟨uv, rfl, us, up, uu, urow⟩, hb⟩
  have DF := Lib.hid (deleteInts 23 (fun _ _ => by kernel_rfl) w2.heap.size (fun x => decide (x ∈ ts)) wA.heap.size wA.heap.size wA uv us w3 (Nat.le_refl _) hb urow
    (by have := up.length_eq; have := undL_few l; have := HM8.out; omega) fun x W hW => told_any _ ts x w2.heap.size W ((tb.call hW).at_ 0 rfl) (SL.out.call hW))
  have zA := low.size
  replace cb := cb.call hb
  replace tb := tb.call hb
  replace low := gCall low hb
  replace OW := Lib.hid (OW.out.call hb)
  have UP := Lib.hid up
  have UU := Lib.hid uu
  clear hb urow up uu SL
  go_wp2_with fail
  (with_reducible refine DF.out.mono ?_); rintro e w4 ⟨⟨dv, rfl, dsl⟩, st⟩
  replace cb := st.box cb (by decide)
  replace tb := st.box tb (by decide)
  replace low := st.low low (by omega)
  replace OW := Lib.hid (OW.out.sorted st)
  have ELF : (us.filter fun x => !decide (x ∈ ts)).Perm (undL (l.map (advS n))) := by
    rw [LEFT.out]
    have e : us.filter (fun x => !decide (x ∈ ts)) = us.filter fun x => !decide (x ∈ backL n l) := by
      refine List.filter_congr fun x _ => ?_
      rw [decide_eq_decide.2 (HP.out.mem_iff (a := x))]
    rw [e]
    exact UP.out.filter _
  have ULF : UpI (us.filter fun x => !decide (x ∈ ts)) := UU.out.filter _
  generalize us.filter (fun x => !decide (x ∈ ts)) = LF at dsl ELF ULF
  have DSL := Lib.hid dsl
  have PLF := Lib.hid ELF
  have QLF := Lib.hid ULF
  have LF8 : LF.length ≤ 8 := by have := ELF.length_eq; have := undL_few (l.map (advS n)); rw [List.length_map] at this; have := HM8.out; omega
  have TS8 := HT8.out
  have CT := Lib.hid (show (undL l).length = LF.length + ts.length by rw [CNT.out, ELF.length_eq, HP.out.length_eq])
  obtain ⟨Ad, cd, rfl⟩ : ∃ A c, dv = .slice A LF.length c := by obtain ⟨_, A, c, e, _⟩ := DSL.out; exact ⟨A, c, e⟩
  clear dsl ELF ULF st DF UP UU CNT LEFT HT8
  go_wp2_with fail
  have cb_0 := cb.at_ 0 rfl
  have cb_1 := cb.at_ 1 rfl
  have cb_2 := cb.at_ 2 rfl
  have cb_3 := cb.at_ 3 rfl
  have tb_0 := tb.at_ 0 rfl
  refine wp_region_noPanic ?_
  refine wp_region_held_drew (S := fun w' => w'.cell? ⟨w.heap.size, 0, none⟩ = some (.int .i64 n) ∧ w'.cell? ⟨w.heap.size, 1, none⟩ = some (.int .i64 s) ∧ w'.cell? ⟨w.heap.size, 2, none⟩ = some (.int .i64 y) ∧ w'.cell? ⟨w.heap.size, 3, none⟩ = some (.int .i64 b) ∧ w'.cell? ⟨w2.heap.size, 0, none⟩ = some (.slice At ts.length ct)) (by kernel_rfl) ⟨drewC cb_0, drewC cb_1, drewC cb_2, drewC cb_3, drewC tb_0⟩ (fun hHeld => ?_)
  clear cb_0 cb_1 cb_2 cb_3 tb_0
  replace low := low.drew
  replace OW := Lib.hid (OW.out.drew)
  replace DSL := Lib.hid (DSL.out.call (Below.refl _ _).drew)
  clear cb tb
  generalize w4.drew = wN at *
  refine takeFirst (i := 0) (v := ?_) rfl (by kernel_rfl) (by kernel_rfl) (by kernel_rfl) (by rfl) (fun _ _ _ h => h) ?_ (by assumption) ?_
  rotate_left
  · (intro w hSw; go_simp; try (with_reducible rfl))
  try simp only [Act.put, List.setIfInBounds_toArray, List.set_cons_zero, List.set_cons_succ]
  refine takeFirst (i := 1) (v := ?_) rfl (by kernel_rfl) (by kernel_rfl) (by kernel_rfl) (by rfl) (fun _ _ _ h => h) ?_ (by assumption) ?_
  rotate_left
  · (intro w hSw; go_simp; try (with_reducible rfl))
  try simp only [Act.put, List.setIfInBounds_toArray, List.set_cons_zero, List.set_cons_succ]
  refine stepNext (i := 2) (by kernel_rfl) rfl (by rfl) (fun K hK => ?_)
  go_simp
  (with_reducible refine (CK.out _ _ OW.out.rs).mono ?_); rintro e w5 ⟨rfl, hb⟩
  replace low := gCall low hb
  replace OW := Lib.hid (OW.out.call hb)
  replace DSL := Lib.hid (DSL.out.call hb)
  obtain ⟨hh0, hh1, hh2, hh3, hh4⟩ := hHeld
  have hHeld := (And.intro (callC hb hh0) (And.intro (callC hb hh1) (And.intro (callC hb hh2) (And.intro (callC hb hh3) (callC hb hh4)))))
  clear hh0 hh1 hh2 hh3 hh4
  clear hb
  refine hK.out _ _ hHeld ?_
  clear hK K
  try simp only [Act.put]
  try simp only [List.setIfInBounds_toArray, List.set_cons_zero, List.set_cons_succ]
  refine takeFirst (i := 3) (v := ?_) rfl (by kernel_rfl) (by kernel_rfl) (by kernel_rfl) (by rfl) (fun _ _ _ h => h) ?_ (by assumption) ?_
  rotate_left
  · (intro w hSw; go_simp; try (with_reducible rfl))
  try simp only [Act.put, List.setIfInBounds_toArray, List.set_cons_zero, List.set_cons_succ]
  refine takeFirst (i := 4) (v := ?_) rfl (by kernel_rfl) (by kernel_rfl) (by kernel_rfl) (by rfl) (fun _ _ _ h => h) ?_ (by assumption) ?_
  rotate_left
  · (intro w hSw; go_simp; try (with_reducible rfl))
  try simp only [Act.put, List.setIfInBounds_toArray, List.set_cons_zero, List.set_cons_succ]
  refine takeFirst (i := 5) (v := ?_) rfl (by kernel_rfl) (by kernel_rfl) (by kernel_rfl) (by rfl) (fun _ _ _ h => h) ?_ (by assumption) ?_
  rotate_left
  · (intro w hSw; go_simp; try (with_reducible rfl))
  try simp only [Act.put, List.setIfInBounds_toArray, List.set_cons_zero, List.set_cons_succ]
  refine takeFirst (i := 6) (v := ?_) rfl (by kernel_rfl) (by kernel_rfl) (by kernel_rfl) (by rfl) (fun _ _ _ h => h) ?_ (by assumption) ?_
  rotate_left
  · (intro w hSw; go_simp; try (with_reducible rfl))
  try simp only [Act.put, List.setIfInBounds_toArray, List.set_cons_zero, List.set_cons_succ]
  refine takeFirst (i := 7) (v := ?_) rfl (by kernel_rfl) (by kernel_rfl) (by kernel_rfl) (by rfl) (fun _ _ _ h => h) ?_ (by assumption) ?_
  rotate_left
  · (intro w hSw; go_simp; try (with_reducible rfl))
  try simp only [Act.put, List.setIfInBounds_toArray, List.set_cons_zero, List.set_cons_succ]
  refine takeFirst (i := 8) (v := ?_) rfl (by kernel_rfl) (by kernel_rfl) (by kernel_rfl) (by rfl) (fun _ _ _ h => h) ?_ (by assumption) ?_
  rotate_left
  · (intro w hSw; go_simp; try (with_reducible rfl))
  try simp only [Act.put, List.setIfInBounds_toArray, List.set_cons_zero, List.set_cons_succ]
  refine takeFirst (i := 9) (v := ?_) rfl (by kernel_rfl) (by kernel_rfl) (by kernel_rfl) (by rfl) (fun _ _ _ h => h) ?_ (by assumption) ?_
  rotate_left
  · (intro w hSw; go_simp; try (with_reducible rfl))
  try simp only [Act.put, List.setIfInBounds_toArray, List.set_cons_zero, List.set_cons_succ]
  refine takeFirst (i := 10) (v := ?_) rfl (by kernel_rfl) (by kernel_rfl) (by kernel_rfl) (by rfl) (fun _ _ _ h => h) ?_ (by assumption) ?_
  rotate_left
  · (intro w hSw; go_simp; try (with_reducible rfl))
  try simp only [Act.put, List.setIfInBounds_toArray, List.set_cons_zero, List.set_cons_succ]
  refine takeFirst (i := 11) (v := ?_) rfl (by kernel_rfl) (by kernel_rfl) (by kernel_rfl) (by rfl) (fun _ _ _ h => h) ?_ (by assumption) ?_
  rotate_left
  · (intro w hSw; go_simp; try (with_reducible rfl))
  try simp only [Act.put, List.setIfInBounds_toArray, List.set_cons_zero, List.set_cons_succ]
  refine takeFirst (i := 12) (v := ?_) rfl (by kernel_rfl) (by kernel_rfl) (by kernel_rfl) (by rfl) (fun _ _ _ h => h) ?_ (by assumption) ?_
  rotate_left
  · (intro w hSw; go_simp; try (with_reducible rfl))
  try simp only [Act.put, List.setIfInBounds_toArray, List.set_cons_zero, List.set_cons_succ]
  refine takeFirst (i := 13) (v := ?_) rfl (by kernel_rfl) (by kernel_rfl) (by kernel_rfl) (by rfl) (fun _ _ _ h => h) ?_ (by assumption) ?_
  rotate_left
  · (intro w hSw; go_simp; try (with_reducible rfl))
  try simp only [Act.put, List.setIfInBounds_toArray, List.set_cons_zero, List.set_cons_succ]
  refine takeFirst (i := 15) (v := ?_) rfl (by kernel_rfl) (by kernel_rfl) (by kernel_rfl) (by rfl) (fun _ _ _ h => h) ?_ (by assumption) ?_
  rotate_left
  · (intro w hSw; go_simp; try (with_reducible rfl))
  try simp only [Act.put, List.setIfInBounds_toArray, List.set_cons_zero, List.set_cons_succ]
  refine stepNext (i := 14) (by kernel_rfl) rfl (by rfl) (fun K hK => ?_)
  go_simp
  (with_reducible refine (UX.out _ _ OW.out.rs).mono ?_); rintro e w6 ⟨⟨xv, rfl, xs, xp, xu, xrow⟩, hb⟩
  replace low := gCall low hb
  replace DSL := Lib.hid (DSL.out.call hb)
  have EX : xs = LF := up_unique xu QLF.out (xp.trans PLF.out.symm)
  subst EX
  have XSL := Lib.hid (Sl.ofOwn xrow)
  obtain ⟨Ax, cx, rfl⟩ : ∃ A c, xv = .slice A xs.length c := by obtain ⟨_, A, c, e, _⟩ := XSL.out; exact ⟨A, c, e⟩
  obtain ⟨hh0, hh1, hh2, hh3, hh4⟩ := hHeld
  have hHeld := (And.intro (callC hb hh0) (And.intro (callC hb hh1) (And.intro (callC hb hh2) (And.intro (callC hb hh3) (callC hb hh4)))))
  clear hh0 hh1 hh2 hh3 hh4
  clear hb xp xu xrow
  refine hK.out _ _ hHeld ?_
  clear hK K
  try simp only [Act.put]
  try simp only [List.setIfInBounds_toArray, List.set_cons_zero, List.set_cons_succ]
  refine stepNext (i := 16) (by kernel_rfl) rfl (by rfl) (fun K hK => ?_)
  go_simp
  (with_reducible refine (equalInts_yes _ _ _ _ _ XSL.out DSL.out).mono ?_); rintro e w7 ⟨rfl, hb⟩
  replace low := gCall low hb
  obtain ⟨hh0, hh1, hh2, hh3, hh4⟩ := hHeld
  have hHeld := (And.intro (callC hb hh0) (And.intro (callC hb hh1) (And.intro (callC hb hh2) (And.intro (callC hb hh3) (callC hb hh4)))))
  clear hh0 hh1 hh2 hh3 hh4
  clear hb XSL DSL
  refine hK.out _ _ hHeld ?_
  clear hK K
  try simp only [Act.put]
  try simp only [List.setIfInBounds_toArray, List.set_cons_zero, List.set_cons_succ]
  have e5 : IntKind.i64.wrap ((xs.length : Int) + ts.length) = ((xs.length + ts.length : Nat) : Int) := by
    have := wrap_i64_ediv ((xs.length : Int) + ts.length) 1 (by omega) (by omega) (by omega)
    rw [Int.ediv_one] at this
    rw [this]
    push_cast
    rfl
  refine takeFirst (i := 17) (v := ?_) rfl (by kernel_rfl) (by kernel_rfl) (by kernel_rfl) (by rfl) (fun _ _ _ h => h) ?_ (by assumption) ?_
  rotate_left
  · (intro w hSw; go_simp; try (with_reducible rfl))
  try simp only [Act.put, List.setIfInBounds_toArray, List.set_cons_zero, List.set_cons_succ]
  refine takeFirst (i := 18) (v := ?_) rfl (by kernel_rfl) (by kernel_rfl) (by kernel_rfl) (by rfl) (fun _ _ _ h => h) ?_ (by assumption) ?_
  rotate_left
  · (intro w hSw; go_simp; try (with_reducible rfl))
  try simp only [Act.put, List.setIfInBounds_toArray, List.set_cons_zero, List.set_cons_succ]
  refine takeFirst (i := 19) (v := ?_) rfl (by kernel_rfl) (by kernel_rfl) (by kernel_rfl) (by rfl) (fun _ _ _ h => h) ?_ (by assumption) ?_
  rotate_left
  · (intro w hSw; go_simp; try (with_reducible rfl))
  try simp only [Act.put, List.setIfInBounds_toArray, List.set_cons_zero, List.set_cons_succ]
  refine takeFirst (i := 20) (v := ?_) rfl (by kernel_rfl) (by kernel_rfl) (by kernel_rfl) (by rfl) (fun _ _ _ h => h) ?_ (by assumption) ?_
  rotate_left
  · (intro w hSw; go_simp; try (with_reducible rfl))
  try simp only [Act.put, List.setIfInBounds_toArray, List.set_cons_zero, List.set_cons_succ]
  refine takeFirst (i := 23) (v := ?_) rfl (by kernel_rfl) (by kernel_rfl) (by kernel_rfl) (by rfl) (fun _ _ _ h => h) ?_ (by assumption) ?_
  rotate_left
  · (intro w hSw; go_simp; try (with_reducible rfl))
  try simp only [Act.put, List.setIfInBounds_toArray, List.set_cons_zero, List.set_cons_succ]
  refine takeFirst (i := 24) (v := ?_) rfl (by kernel_rfl) (by kernel_rfl) (by kernel_rfl) (by rfl) (fun _ _ _ h => h) ?_ (by assumption) ?_
  rotate_left
  · (intro w hSw; go_simp; try (with_reducible rfl))
  try simp only [Act.put, List.setIfInBounds_toArray, List.set_cons_zero, List.set_cons_succ]
  refine takeFirst (i := 25) (v := ?_) rfl (by kernel_rfl) (by kernel_rfl) (by kernel_rfl) (by rfl) (fun _ _ _ h => h) ?_ (by assumption) ?_
  rotate_left
  · (intro w hSw; go_simp; try (with_reducible rfl))
  try simp only [Act.put, List.setIfInBounds_toArray, List.set_cons_zero, List.set_cons_succ]
  refine takeFirst (i := 26) (v := ?_) rfl (by kernel_rfl) (by kernel_rfl) (by kernel_rfl) (by rfl) (fun _ _ _ h => h) ?_ (by assumption) ?_
  rotate_left
  · (intro w hSw; go_simp; try (with_reducible rfl))
  try simp only [Act.put, List.setIfInBounds_toArray, List.set_cons_zero, List.set_cons_succ]
  refine takeFirst (i := 27) (v := ?_) rfl (by kernel_rfl) (by kernel_rfl) (by kernel_rfl) (by rfl) (fun _ _ _ h => h) ?_ (by assumption) ?_
  rotate_left
  · (intro w hSw; go_simp; try (with_reducible rfl))
  try simp only [Act.put, List.setIfInBounds_toArray, List.set_cons_zero, List.set_cons_succ]
  refine stepNext (i := 21) (by kernel_rfl) rfl (by rfl) (fun K hK => ?_)
  go_simp
  (with_reducible refine (UN.out _ (H.out.call low)).mono ?_); rintro e w8 ⟨⟨rv, rfl, rs, rp, ru, rrow⟩, hb⟩
  replace low := gCall low hb
  have RL := Lib.hid (show rs.length = xs.length + ts.length by rw [rp.length_eq, CT.out])
  obtain ⟨Ar, cr, rfl⟩ : ∃ A c, rv = .slice A rs.length c := by obtain ⟨_, A, c, e, _⟩ := Sl.ofOwn rrow; exact ⟨A, c, e⟩
  obtain ⟨hh0, hh1, hh2, hh3, hh4⟩ := hHeld
  have hHeld := (And.intro (callC hb hh0) (And.intro (callC hb hh1) (And.intro (callC hb hh2) (And.intro (callC hb hh3) (callC hb hh4)))))
  clear hh0 hh1 hh2 hh3 hh4
  clear hb rp ru rrow
  refine hK.out _ _ hHeld ?_
  clear hK K
  try simp only [Act.put]
  try simp only [List.setIfInBounds_toArray, List.set_cons_zero, List.set_cons_succ]
  have e6 : ((rs.length : Int) == (xs.length : Int) + ts.length) = true := by rw [RL.out]; simp
  refine takeFirst (i := 22) (v := ?_) rfl (by kernel_rfl) (by kernel_rfl) (by kernel_rfl) (by rfl) (fun _ _ _ h => h) ?_ (by assumption) ?_
  rotate_left
  · (intro w hSw; go_simp; try (with_reducible rfl))
  try simp only [Act.put, List.setIfInBounds_toArray, List.set_cons_zero, List.set_cons_succ]
  refine takeFirst (i := 28) (v := ?_) rfl (by kernel_rfl) (by kernel_rfl) (by kernel_rfl) (by rfl) (fun _ _ _ h => h) ?_ (by assumption) ?_
  rotate_left
  · (intro w hSw; go_simp; try (with_reducible rfl))
  try simp only [Act.put, List.setIfInBounds_toArray, List.set_cons_zero, List.set_cons_succ]
  refine takeFirst (i := 29) (v := ?_) rfl (by kernel_rfl) (by kernel_rfl) (by kernel_rfl) (by rfl) (fun _ _ _ h => h) ?_ (by assumption) ?_
  rotate_left
  · (intro w hSw; go_simp; try (with_reducible rfl))
  try simp only [Act.put, List.setIfInBounds_toArray, List.set_cons_zero, List.set_cons_succ]
  refine stepNext (i := 30) (by kernel_rfl) rfl (by rfl) (fun K hK => ?_)
  go_simp
  refine hK.out _ _ hHeld ?_
  clear hK K
  try simp only [Act.put]
  try simp only [List.setIfInBounds_toArray, List.set_cons_zero, List.set_cons_succ]
  refine wpAnyH_done (by kernel_rfl) ?_ _
  refine NoPanic.normal ?_
  clear hHeld
  go_wp2_with fail
  go_ret
  exact ⟨rfl, low⟩

theorem walk (v0 v1 : Value) (w : World) (h0 : IsCfg v0) (h1 : IsRing w v1) :
    Calls Try.prog 5 #[v0, v1] w fun e w' => e = .returned (.bool true) ∧ Below w.heap.size w w' := by
  obtain ⟨n, s, y, b, rfl, _, _, _, _⟩ := h0
  obtain ⟨l, h⟩ := h1
  by_cases c : ringE n s y b l = 0
  · exact walk_ok n s y b v1 l w h c
  · exact walk_bad n s y b v1 l w h c

set_option maxRecDepth 100000 in
theorem lifted (os : Os) (started : os.Started) (H : Type) (enc : TypeId × Value → H) :
    ReturnsInHanded {} Try.checked os 5 .any (Rows.ringKeepsSpec.pre6 enc Try.prog Try.f5 Rows.ringKeepsRow.domain false) (Rows.ringKeepsSpec.post enc Try.prog Try.f5 false true false false) := by
  refine returnsInHanded_of_change (C := Try.checked) own started (by kernel_rfl) Try.func5
    (ChangeSpec.witness6 (enc := enc) (C := Try.checked) false ⟨#[], #[cfg 0 0 0 0, .slice none 0 0], []⟩ 8 (by kernel_rfl) (by kernel_rfl) (by kernel_rfl) (by kernel_rfl)) ?_
  intro W base args ds gs before hval0 hW hcnd _
  have hval : ∀ (j : Nat) t v, Try.f5.params[j]? = some t → args[j]? = some v → Value.okWide Try.prog W .any base t v := hval0
  have hW' := hW
  obtain ⟨p, q, hA0, hV, rfl, hfz, hnd⟩ := hW
  have hA : DataW.TrodAll enc Try.prog W 0 (fun _ => true) true Try.f5.params.toList args.toList ds p := hA0
  rw [Try.params5] at hA hval
  obtain ⟨v0, vs0, d0, ds0, p0, q0, hargs, rfl, rfl, h0, r0⟩ := trodAll_cons hA
  obtain ⟨v1, vs1, d1, ds1, p1, q1, rfl, rfl, rfl, h1, r1⟩ := trodAll_cons r0
  obtain ⟨rfl, rfl, rfl⟩ := trodAll_nil r1
  obtain rfl : args = #[v0, v1] := by cases args; simp_all
  have k0 := openCfg (hval 0 23 v0 rfl rfl) h0
  have k1 := openRing (hval 1 25 v1 rfl rfl) h1
  obtain ⟨rfl, rfl⟩ := trodVars_none hV
  clear hA0 hval0
  refine (walk v0 v1 W k0 k1).mono fun e W' ⟨he, bel⟩ => ⟨_, he, ?_⟩
  exact law_post (by kernel_rfl) (by kernel_rfl) rfl hW' rfl rfl rfl bel

theorem over : Rows.ringKeepsRow.holds Try.pinned (OpenSpec.ofChange Rows.ringKeepsSpec) :=
  OpenClaim.holds_of_wide 5 Try.f5 rfl rfl rfl rfl rfl rfl rfl ⟨rfl, rfl, rfl, rfl, rfl⟩ rfl rfl rfl rfl rfl (by kernel_rfl) Try.func5 (by kernel_rfl)
    (of_decide_eq_true (by kernel_rfl)) (by unfold Func.isWrapper; first | (rw [if_pos (by decide +kernel)]; kernel_rfl) | (rw [if_neg (by decide +kernel)]; exact ⟨rfl, rfl⟩))
    (fun os started H enc _ => lifted os started H enc)

/-- The statement. -/
theorem ringKeeps_holds : Rows.RingKeepsSaid := over
end Go.Proofs.Ytiefeeondeablaa.ringKeeps
namespace Go.Proofs.Ytiefeeondeablaa
theorem ringKeeps_holds : Rows.RingKeepsSaid := ringKeeps.ringKeeps_holds
#print axioms ringKeeps_holds
end Go.Proofs.Ytiefeeondeablaa
