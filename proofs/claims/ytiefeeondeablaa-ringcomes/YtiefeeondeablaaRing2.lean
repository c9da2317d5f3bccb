/-
Proved: what Check of package ring returns, for every ring that can be read, and what one slot is behind a step; they change nothing that was there. Condition: the slot's numbers are in range.
-/
import Derived.Test.YtiefeeondeablaaRing
namespace Go.Proofs.Ytiefeeondeablaa
open Go.ChangeShapes Go.WideShapes Go.ChangeAt Go.RowKit Go.Joins

theorem slotsE_cons (n : Int) (l : List Sw) (x : Sw) (r : List Sw) : slotsE n l (x :: r) = if slotE n l x = 0 then slotsE n (l ++ [x]) r else slotE n l x := rfl
theorem slotsE_at {n : Int} {l : List Sw} {k : Nat} {x : Sw} (h : slotsE n [] l = slotsE n (l.take k) (l.drop k)) (hx : l[k]? = some x) :
    slotsE n [] l = if slotE n (l.take k) x = 0 then slotsE n (l.take (k + 1)) (l.drop (k + 1)) else slotE n (l.take k) x := by
  have hk := (List.getElem?_eq_some_iff.1 hx).1
  have e1 : l.drop k = x :: l.drop (k + 1) := by
    rw [List.drop_eq_getElem_cons hk]
    congr 1
    exact (List.getElem?_eq_some_iff.1 hx).2
  have e2 : l.take (k + 1) = l.take k ++ [x] := by rw [List.take_add_one, hx]; rfl
  rw [h, e1, slotsE_cons, e2]

set_option maxHeartbeats 2000000 in
theorem ringCheck_any (n s y b : Int) (v : Value) (l : List Sw) (w : World) (h : Rs w v l) :
    Calls Try.prog 13 #[cfg n s y b, v] w fun e w' => e = .returned (.int .i64 (ringE n s y b l)) ∧ Below w.heap.size w w' := by
  have C := Lib.hid fun w => checkSlots_any n s y b l.length w
  have H := Lib.hid h
  obtain ⟨_, A, c, rfl, h1, h2, h3⟩ := h
  have H3 := Lib.hid h3
  unfold maxLen at h2
  clear h3
  have low := Below.refl w.heap.size w
  have cb := boxNext low 23 #[.int .i64 n, .int .i64 s, .int .i64 y, .int .i64 b]
  replace low := gAlloc low (.cells #[.int .i64 n, .int .i64 s, .int .i64 y, .int .i64 b] 23)
  try simp only [World.size_alloc] at cb
  unfold ringE
  by_cases hE : cntE n s y b l.length = 0
  · rw [if_pos hE]
    rw [hE] at C
    generalize hT : slotsE n [] l = T
    have HT := Lib.hid hT
    have hl8 := (cntE_ok hE).2.2
    clear hE hT
    go_enter Try.func13, Try.ntmps13
    go_wp2_with fail
    (with_reducible refine (C.out _).mono ?_); rintro e w1 ⟨rfl, hb⟩
    replace cb := cb.call hb
    replace low := gCall low hb
    clear hb
    clear C
    go_wp2_with fail
    go_loopw [18] (fun i wr => ∃ k : Nat, k ≤ l.length ∧ i = .int .i64 k ∧ Hid (slotsE n [] l = slotsE n (l.take k) (l.drop k)) ∧ Box wr w.heap.size 23 #[.int .i64 n, .int .i64 s, .int .i64 y, .int .i64 b] ∧ Below w.heap.size w wr) (fun i _ => l.length - (intOf i).toNat)
    case atStart => exact ⟨0, Nat.zero_le _, rfl, Lib.hid rfl, cb, low⟩
    case round =>
      clear cb low
      obtain ⟨k, hk, rfl, hs, cb, low⟩ := hrel
      by_cases hlt : k < l.length
      · obtain ⟨bb, o, rfl, hb, hc⟩ := H3.out (by omega)
        have hx : l[k]? = some l[k] := List.getElem?_eq_getElem _
        generalize l[k] = x at hx
        obtain ⟨c0, c1, c2, c3⟩ := slotAt_of hc hb low hx
        have E := Lib.hid (slotsE_at hs.out hx)
        obtain ⟨a, f, d, t⟩ := x
        simp only at c0 c1 c2 c3
        obtain ⟨sv, hsv⟩ : ∃ sv, sliced (some ⟨bb, o, none⟩) 0 k c 4 = sv := ⟨_, rfl⟩
        have S := Lib.hid fun W (hb : Below w.heap.size w W) => checkSlot_any n s y b sv (l.take k) ⟨a, f, d, t⟩ W (hsv ▸ ring_take (H.out.call hb) k hk)
        have HSV := Lib.hid hsv
        have k0 : (0 : Int) ≤ k := by omega
        have k1 : (k : Int) < l.length := by omega
        have kc : k ≤ c := by omega
        have KC := Lib.hid kc
        clear hx hc hsv kc
        generalize slotE n (l.take k) ⟨a, f, d, t⟩ = e0 at E S
        have sb := boxNext low 38 #[.int .i64 a, .bool f, .int .i64 d, .int .i64 t]
        replace low := gAlloc low (.cells #[.int .i64 a, .bool f, .int .i64 d, .int .i64 t] 38)
        replace cb := cb.alloc (.cells #[.int .i64 a, .bool f, .int .i64 d, .int .i64 t] 38)
        try simp only [World.size_alloc] at sb
        have near := Below.refl wr.heap.size wr
        replace near := gAlloc near (.cells #[.int .i64 a, .bool f, .int .i64 d, .int .i64 t] 38)
        go_wp2_with fail
        clear c0 c1 c2 c3
        generalize wr.alloc (.cells #[.int .i64 a, .bool f, .int .i64 d, .int .i64 t] 38) = wR at *
        have cb_0 := cb.at_ 0 rfl
        have cb_1 := cb.at_ 1 rfl
        have cb_2 := cb.at_ 2 rfl
        have cb_3 := cb.at_ 3 rfl
        have sb_0 := sb.at_ 0 rfl
        have sb_1 := sb.at_ 1 rfl
        have sb_2 := sb.at_ 2 rfl
        have sb_3 := sb.at_ 3 rfl
        refine wp_region_noPanic ?_
        refine wp_region_held_drew (S := fun w' => w'.cell? ⟨w.heap.size, 0, none⟩ = some (.int .i64 n) ∧ w'.cell? ⟨w.heap.size, 1, none⟩ = some (.int .i64 s) ∧ w'.cell? ⟨w.heap.size, 2, none⟩ = some (.int .i64 y) ∧ w'.cell? ⟨w.heap.size, 3, none⟩ = some (.int .i64 b) ∧ w'.cell? ⟨wr.heap.size, 0, none⟩ = some (.int .i64 a) ∧ w'.cell? ⟨wr.heap.size, 1, none⟩ = some (.bool f) ∧ w'.cell? ⟨wr.heap.size, 2, none⟩ = some (.int .i64 d) ∧ w'.cell? ⟨wr.heap.size, 3, none⟩ = some (.int .i64 t)) (by kernel_rfl) ⟨drewC cb_0, drewC cb_1, drewC cb_2, drewC cb_3, drewC sb_0, drewC sb_1, drewC sb_2, drewC sb_3⟩ (fun hHeld => ?_)
        clear cb_0 cb_1 cb_2 cb_3 sb_0 sb_1 sb_2 sb_3
        replace low := low.drew
        replace cb := cb.drew
        clear sb
        generalize wR.drew = wN at *
        refine takeFirst (i := 0) (v := ?_) rfl (by kernel_rfl) (by kernel_rfl) (by kernel_rfl) (by rfl) (fun _ _ _ h => h) ?_ (by assumption) ?_
        rotate_left
        · (intro w hSw; go_simp; try (with_reducible rfl))
        try simp only [Act.put, List.setIfInBounds_toArray, List.set_cons_zero, List.set_cons_succ]
        refine takeFirst (i := 1) (v := ?_) rfl (by kernel_rfl) (by kernel_rfl) (by kernel_rfl) (by rfl) (fun _ _ _ h => h) ?_ (by assumption) ?_
        rotate_left
        · (intro w hSw; go_simp; try (with_reducible rfl))
        try simp only [Act.put, List.setIfInBounds_toArray, List.set_cons_zero, List.set_cons_succ]
        refine takeFirst (i := 2) (v := ?_) rfl (by kernel_rfl) (by kernel_rfl) (by kernel_rfl) (by rfl) (fun _ _ _ h => h) ?_ (by assumption) ?_
        rotate_left
        · (intro w hSw; go_simp; try (with_reducible rfl))
        try simp only [Act.put, List.setIfInBounds_toArray, List.set_cons_zero, List.set_cons_succ]
        refine takeFirst (i := 3) (v := sv) rfl (by kernel_rfl) (by kernel_rfl) (by kernel_rfl) (by rfl) (fun _ _ _ h => h) (fun _ _ => exec_ring rfl rfl KC.out HSV.out) (by assumption) ?_
        try simp only [Act.put, List.setIfInBounds_toArray, List.set_cons_zero, List.set_cons_succ]
        refine takeFirst (i := 4) (v := ?_) rfl (by kernel_rfl) (by kernel_rfl) (by kernel_rfl) (by rfl) (fun _ _ _ h => h) ?_ (by assumption) ?_
        rotate_left
        · (intro w hSw; go_simp; try (with_reducible rfl))
        try simp only [Act.put, List.setIfInBounds_toArray, List.set_cons_zero, List.set_cons_succ]
        refine stepNext (i := 5) (by kernel_rfl) rfl (by rfl) (fun K hK => ?_)
        go_simp
        (with_reducible refine (S.out _ low).mono ?_); rintro e w2 ⟨rfl, hb2⟩
        replace low := gCall low hb2
        replace cb := cb.call hb2
        obtain ⟨hh0, hh1, hh2, hh3, hh4, hh5, hh6, hh7⟩ := hHeld
        have hHeld := (And.intro (callC hb2 hh0) (And.intro (callC hb2 hh1) (And.intro (callC hb2 hh2) (And.intro (callC hb2 hh3) (And.intro (callC hb2 hh4) (And.intro (callC hb2 hh5) (And.intro (callC hb2 hh6) (callC hb2 hh7))))))))
        clear hh0 hh1 hh2 hh3 hh4 hh5 hh6 hh7
        clear hb2
        refine hK.out _ _ hHeld ?_
        clear hK K
        try simp only [Act.put]
        try simp only [List.setIfInBounds_toArray, List.set_cons_zero, List.set_cons_succ]
        refine stepNext (i := 6) (by kernel_rfl) rfl (by rfl) (fun K hK => ?_)
        go_simp
        refine hK.out _ _ hHeld ?_
        clear hK K
        try simp only [Act.put]
        try simp only [List.setIfInBounds_toArray, List.set_cons_zero, List.set_cons_succ]
        refine wpAnyH_done (by kernel_rfl) ?_ _
        refine NoPanic.normal ?_
        clear hHeld
        by_cases h0 : e0 = 0
        · subst h0
          have E1 := Lib.hid (E.out.trans (if_pos rfl))
          clear E
          go_wp2_with fail
          go_roundw
          case rel => exact ⟨k + 1, by omega, by go_num, E1, cb, low⟩
          case measure => simp [intOf]; omega
        · obtain rfl : e0 = T := (E.out.trans (if_neg h0)).symm.trans HT.out
          have h0' : (e0 != 0) = true := by simpa using h0
          clear h0 E
          go_wp2_with fail
          go_ret
          exact ⟨rfl, low⟩
      · obtain rfl : k = l.length := by omega
        obtain rfl : 0 = T := by
          have := hs.out
          rw [List.drop_length] at this
          exact this.symm.trans HT.out
        go_wp2_with fail
        go_ret
        exact ⟨rfl, low⟩
  · rw [if_neg hE]
    have h4 := cntE_bad hE
    rw [h4] at C
    clear hE h4
    go_enter Try.func13, Try.ntmps13
    go_wp2_with fail
    (with_reducible refine (C.out _).mono ?_); rintro e w1 ⟨rfl, hb⟩
    replace cb := cb.call hb
    replace low := gCall low hb
    clear hb
    go_wp2_with fail
    go_ret
    exact ⟨rfl, low⟩

/-- A slot behind a step. -/
def advS (n : Int) (x : Sw) : Sw :=
  if x.fu = true ∧ 0 < x.wt then ⟨x.pl, x.fu, x.nd, x.wt - 1⟩
  else if x.fu = true ∧ nodeAt n x.pl 1 = x.nd then ⟨nodeAt n x.pl 1, false, 0, 0⟩ else ⟨nodeAt n x.pl 1, x.fu, x.nd, x.wt⟩

abbrev slot0 : Array Value := #[.int .i64 0, .bool false, .int .i64 0, .int .i64 0]
theorem slot_one (a d t : Int) (f : Bool) : (#[.int .i64 a, .bool f, .int .i64 d, .int .i64 t] : Array Value).all (·.oneCell') = true := by simp [Value.oneCell']
theorem slot_size (a d t : Int) (f : Bool) : (#[.int .i64 a, .bool f, .int .i64 d, .int .i64 t] : Array Value).size = slot0.size := rfl
theorem tySlot : Ty 38 slot0 := ⟨by kernel_rfl, ⟨_, Try.underlying38, rfl⟩, fun w => by kernel_rfl⟩

set_option maxHeartbeats 2000000 in
theorem advance_ok (n s y b : Int) (x : Sw) (w : World) (hB : cfgB n s y b = true) (hp : nodB n x.pl = true) (hw : waitB x.wt = true) :
    Calls Try.prog 32 #[cfg n s y b, x.val] w fun e w' => e = .returned (.tuple #[(advS n x).val, .int .i64 0]) ∧ Below w.heap.size w w' := by
  obtain ⟨a, f, d, t⟩ := x
  obtain ⟨hp1, hp2⟩ := nodB_iff.1 hp
  obtain ⟨hw1, hw2⟩ := waitB_iff.1 hw
  simp only at hp1 hp2 hw1 hw2
  clear hp hw
  unfold advS
  simp only
  have low := Below.refl w.heap.size w
  have cb := boxNext low 23 #[.int .i64 n, .int .i64 s, .int .i64 y, .int .i64 b]
  replace low := gAlloc low (.cells #[.int .i64 n, .int .i64 s, .int .i64 y, .int .i64 b] 23)
  try simp only [World.size_alloc] at cb
  have sb := boxNext low 38 #[.int .i64 a, .bool f, .int .i64 d, .int .i64 t]
  replace low := gAlloc low (.cells #[.int .i64 a, .bool f, .int .i64 d, .int .i64 t] 38)
  replace cb := cb.alloc (.cells #[.int .i64 a, .bool f, .int .i64 d, .int .i64 t] 38)
  try simp only [World.size_alloc] at sb
  have ob := boxNext low 38 slot0
  replace low := gAlloc low (.cells slot0 38)
  replace cb := cb.alloc (.cells slot0 38)
  replace sb := sb.alloc (.cells slot0 38)
  try simp only [World.size_alloc] at ob
  cases f
  · rw [if_neg (by simp), if_neg (by simp)]
    have NO := Lib.hid fun w => node_ok n s y b a 1 w hB hp1 hp2 (by omega) (by omega)
    generalize nodeAt n a 1 = m at *
    clear hB hp1 hp2 hw1 hw2
    have cb_0 := cb.at_ 0 rfl
    have cb_1 := cb.at_ 1 rfl
    have cb_2 := cb.at_ 2 rfl
    have cb_3 := cb.at_ 3 rfl
    have sb_0 := sb.at_ 0 rfl
    have sb_1 := sb.at_ 1 rfl
    have sb_2 := sb.at_ 2 rfl
    have sb_3 := sb.at_ 3 rfl
    go_enter Try.func32, Try.ntmps32
    go_wp2_with fail
    (with_reducible refine (NO.out _).mono ?_); rintro e w1 ⟨rfl, hb⟩
    replace cb := cb.call hb
    replace sb := sb.call hb
    replace ob := ob.call hb
    replace low := gCall low hb
    clear hb cb_0 cb_1 cb_2 cb_3 sb_0 sb_1 sb_2 sb_3
    have sb_0 := sb.at_ 0 rfl
    have sb_1 := sb.at_ 1 rfl
    have sb_2 := sb.at_ 2 rfl
    have sb_3 := sb.at_ 3 rfl
    have sz := ob.lt
    have sb_f0 := sb.frozen 0
    have sb1 := sb.set 0 (.int .i64 m)
    have ob1 := ob.far (p := ⟨w.heap.size + 1, 0, none⟩) (by dsimp only; omega) (.int .i64 m)
    have low1 := gSet low (p := ⟨w.heap.size + 1, 0, none⟩) (by dsimp only; omega) (.int .i64 m)
    simp only [List.setIfInBounds_toArray, List.set_cons_zero] at sb1
    have sr := sb1.range
    have one := slot_one m d t false
    have siz := slot_size m d t false
    clear cb low
    go_wp2_with (first | ((with_reducible refine wp_loadW (tySlot) (sr) (siz) ?_ ?_ ?_); rfl; rfl) | ((with_reducible refine wp_storeW (tySlot) (ob1) (rfl) (siz) (one) ?_ ?_ ?_); rfl; rfl))
    clear sb_0 sb_1 sb_2 sb_3 sb_f0
    have low := low1
    have ob := ob1
    clear low1 ob1 sb1 sr sb
    intro w8 ob8 st8
    replace low := st8.low low (by omega)
    clear st8 ob
    go_wp2_with fail
    exact bodyPost_ret (v := .tuple #[(.agg #[.int .i64 m, .bool false, .int .i64 d, .int .i64 t]), .int .i64 0]) (results_first tySlot Try.results32 rfl rfl ob8 rfl) rfl ⟨rfl, low⟩
  · by_cases h0 : 0 < t
    · rw [if_pos ⟨rfl, h0⟩]
      clear hB hp1 hp2
      have rb := Box.new ((w.alloc (.cells #[.int .i64 n, .int .i64 s, .int .i64 y, .int .i64 b] 23)).alloc (.cells #[.int .i64 a, .bool true, .int .i64 d, .int .i64 (t - 1)] 38)) 38 #[.int .i64 a, .bool true, .int .i64 d, .int .i64 (t - 1)]
      simp only [World.size_alloc] at rb
      clear cb sb ob low
      go_enter Try.func32, Try.ntmps32
      go_wp2_with fail
      exact bodyPost_ret (v := .tuple #[.agg #[.int .i64 a, .bool true, .int .i64 d, .int .i64 (t - 1)], .int .i64 0]) (results_first tySlot Try.results32 rfl rfl rb rfl) rfl ⟨rfl, gAlloc (gAlloc (gAlloc (Below.refl _ _) _) _) _⟩
    · rw [if_neg (fun k => h0 k.2)]
      have h0' : decide (0 < t) = false := decide_eq_false h0
      have NO := Lib.hid fun w => node_ok n s y b a 1 w hB hp1 hp2 (by omega) (by omega)
      generalize nodeAt n a 1 = m at *
      clear hB hp1 hp2 hw1 hw2 h0
      by_cases h1 : m = d
      · rw [if_pos ⟨rfl, h1⟩]
        have h1' : (m == d) = true := by simpa using h1
        clear h1
        have one := slot_one m 0 0 false
        have siz := slot_size m 0 0 false
        have cb_0 := cb.at_ 0 rfl
        have cb_1 := cb.at_ 1 rfl
        have cb_2 := cb.at_ 2 rfl
        have cb_3 := cb.at_ 3 rfl
        have sb_0 := sb.at_ 0 rfl
        have sb_1 := sb.at_ 1 rfl
        have sb_2 := sb.at_ 2 rfl
        have sb_3 := sb.at_ 3 rfl
        go_enter Try.func32, Try.ntmps32
        go_wp2_with fail
        (with_reducible refine (NO.out _).mono ?_); rintro e w1 ⟨rfl, hb⟩
        replace cb := cb.call hb
        replace sb := sb.call hb
        replace ob := ob.call hb
        replace low := gCall low hb
        clear hb cb_0 cb_1 cb_2 cb_3 sb_0 sb_1 sb_2 sb_3
        have sb_0 := sb.at_ 0 rfl
        have sb_1 := sb.at_ 1 rfl
        have sb_2 := sb.at_ 2 rfl
        have sb_3 := sb.at_ 3 rfl
        go_wp2_with ((with_reducible refine wp_storeW (tySlot) (ob) (rfl) (siz) (one) ?_ ?_ ?_); rfl; rfl)
        clear sb_0 sb_1 sb_2 sb_3
        clear cb sb
        intro w8 ob8 st8
        replace low := st8.low low (by omega)
        clear st8 ob
        go_wp2_with fail
        exact bodyPost_ret (v := .tuple #[(.agg #[.int .i64 m, .bool false, .int .i64 0, .int .i64 0]), .int .i64 0]) (results_first tySlot Try.results32 rfl rfl ob8 rfl) rfl ⟨rfl, low⟩
      · rw [if_neg (fun k => h1 k.2)]
        have h1' : (m == d) = false := by simpa using h1
        clear h1
        have cb_0 := cb.at_ 0 rfl
        have cb_1 := cb.at_ 1 rfl
        have cb_2 := cb.at_ 2 rfl
        have cb_3 := cb.at_ 3 rfl
        have sb_0 := sb.at_ 0 rfl
        have sb_1 := sb.at_ 1 rfl
        have sb_2 := sb.at_ 2 rfl
        have sb_3 := sb.at_ 3 rfl
        go_enter Try.func32, Try.ntmps32
        go_wp2_with fail
        (with_reducible refine (NO.out _).mono ?_); rintro e w1 ⟨rfl, hb⟩
        replace cb := cb.call hb
        replace sb := sb.call hb
        replace ob := ob.call hb
        replace low := gCall low hb
        clear hb cb_0 cb_1 cb_2 cb_3 sb_0 sb_1 sb_2 sb_3
        have sb_0 := sb.at_ 0 rfl
        have sb_1 := sb.at_ 1 rfl
        have sb_2 := sb.at_ 2 rfl
        have sb_3 := sb.at_ 3 rfl
        have sz := ob.lt
        have sb_f0 := sb.frozen 0
        have sb1 := sb.set 0 (.int .i64 m)
        have ob1 := ob.far (p := ⟨w.heap.size + 1, 0, none⟩) (by dsimp only; omega) (.int .i64 m)
        have low1 := gSet low (p := ⟨w.heap.size + 1, 0, none⟩) (by dsimp only; omega) (.int .i64 m)
        simp only [List.setIfInBounds_toArray, List.set_cons_zero] at sb1
        have sr := sb1.range
        have one := slot_one m d t true
        have siz := slot_size m d t true
        clear cb low
        go_wp2_with (first | ((with_reducible refine wp_loadW (tySlot) (sr) (siz) ?_ ?_ ?_); rfl; rfl) | ((with_reducible refine wp_storeW (tySlot) (ob1) (rfl) (siz) (one) ?_ ?_ ?_); rfl; rfl))
        clear sb_0 sb_1 sb_2 sb_3 sb_f0
        have low := low1
        have ob := ob1
        clear low1 ob1 sb1 sr sb
        intro w8 ob8 st8
        replace low := st8.low low (by omega)
        clear st8 ob
        go_wp2_with fail
        exact bodyPost_ret (v := .tuple #[(.agg #[.int .i64 m, .bool true, .int .i64 d, .int .i64 t]), .int .i64 0]) (results_first tySlot Try.results32 rfl rfl ob8 rfl) rfl ⟨rfl, low⟩
end Go.Proofs.Ytiefeeondeablaa
