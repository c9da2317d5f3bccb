/-
Proved: what the reference's RingStep returns, for every ring that can be read and is right; it changes nothing that was there. No other condition.
-/
import Derived.Test.YtiefeeondeablaaRefRing
namespace Go.Proofs.Ytiefeeondeablaa
open Go.ChangeShapes Go.WideShapes Go.ChangeAt Go.RowKit Go.Joins

/-! Which of eight nodes are told. -/
def tolA (L : List Int) : Array Value := ((List.range 8).map fun (i : Nat) => Value.bool (decide ((i : Int) ∈ L))).toArray
theorem tolA_size (L : List Int) : (tolA L).size = 8 := by simp [tolA]
theorem tolA_at (L : List Int) {i : Nat} (h : i < 8) : (tolA L)[i]? = some (.bool (decide ((i : Int) ∈ L))) := by
  simp [tolA, h]
theorem tolA_set (L : List Int) {d : Nat} (h : d < 8) : (tolA L).setIfInBounds d (.bool true) = tolA (L ++ [(d : Int)]) := by
  apply Array.ext_getElem?
  intro i
  rw [Array.getElem?_setIfInBounds]
  by_cases e : d = i
  · subst e
    rw [if_pos rfl, if_pos (by rw [tolA_size]; exact h), tolA_at _ h]
    simp
  · rw [if_neg e]
    by_cases hi : i < 8
    · rw [tolA_at _ hi, tolA_at _ hi]
      have : ((i : Int) ∈ L ++ [(d : Int)]) ↔ (i : Int) ∈ L := by
        simp only [List.mem_append, List.mem_singleton]
        constructor
        · rintro (h | h)
          · exact h
          · exact absurd (Int.ofNat.inj h).symm e
        · exact .inl
      rw [decide_eq_decide.2 this]
    · simp [tolA, hi]
abbrev tol0 : Array Value := #[.bool false, .bool false, .bool false, .bool false, .bool false, .bool false, .bool false, .bool false]
theorem tolA_nil : tolA [] = tol0 := rfl
theorem tyTold : Ty 65 tol0 := ⟨by kernel_rfl, ⟨_, Try.underlying65, rfl⟩, fun w => by kernel_rfl⟩

theorem index_told (L : List Int) (k : Nat) (hk : k < 8) (w : World) : (Instr.index 65 (.agg (tolA L)) (.int .i64 k)).run Try.prog w = .ok (.bool (decide ((k : Int) ∈ L))) w := by
  have hx : (tolA L)[k]? = some (.bool (decide ((k : Int) ∈ L))) := tolA_at L hk
  have hu : (underlying 65).run Try.prog w = .ok (.array 8 4) w := by kernel_rfl
  have hs : (sizeOf 4).run Try.prog w = .ok 1 w := by kernel_rfl
  have h1 : (0 : Int) ≤ k ∧ (k : Int) < (8 : Nat) := by omega
  simp [Instr.index, asIntOf, Sem.run_bind, hu, hs, part, h1, hx]
  intro h
  omega

/-- Those of the first j nodes that are told, in order. -/
def tolL (L : List Int) (j : Nat) : List Int := ((List.range j).filter fun (i : Nat) => decide ((i : Int) ∈ L)).map Int.ofNat
theorem tolL_succ (L : List Int) (j : Nat) : tolL L (j + 1) = tolL L j ++ if (j : Int) ∈ L then [(j : Int)] else [] := by
  unfold tolL
  rw [List.range_succ, List.filter_append, List.map_append]
  by_cases h : (j : Int) ∈ L <;> simp [h]
theorem tolL_few (L : List Int) (j : Nat) : (tolL L j).length ≤ j := by
  unfold tolL
  rw [List.length_map]
  exact Nat.le_trans (List.length_filter_le _ _) (by simp)
theorem tolL_mem {L : List Int} {j : Nat} {x : Int} : x ∈ tolL L j ↔ 0 ≤ x ∧ x < j ∧ x ∈ L := by
  unfold tolL
  simp only [List.mem_map, List.mem_filter, List.mem_range, decide_eq_true_eq]
  constructor
  · rintro ⟨i, ⟨h1, h2⟩, rfl⟩
    exact ⟨Int.natCast_nonneg i, by show (i : Int) < j; omega, h2⟩
  · rintro ⟨h1, h2, h3⟩
    refine ⟨x.toNat, ⟨by omega, ?_⟩, ?_⟩
    · rwa [Int.toNat_of_nonneg h1]
    · exact Int.toNat_of_nonneg h1
theorem tolL_up (L : List Int) : ∀ j, (tolL L j).Pairwise (· < ·)
  | 0 => List.Pairwise.nil
  | j + 1 => by
    rw [tolL_succ]
    refine List.pairwise_append.2 ⟨tolL_up L j, ?_, fun x hx y hy => ?_⟩
    · by_cases h : (j : Int) ∈ L <;> simp [h]
    · have h1 := (tolL_mem.1 hx).2.1
      by_cases h : (j : Int) ∈ L
      · rw [if_pos h] at hy
        simp at hy
        omega
      · rw [if_neg h] at hy
        cases hy

/-- Lists that rise and have the same members are one. -/
theorem rise_unique : ∀ {a b : List Int}, a.Pairwise (· < ·) → b.Pairwise (· < ·) → (∀ x, x ∈ a ↔ x ∈ b) → a = b
  | [], b, _, _, h => by
    cases b with
    | nil => rfl
    | cons y b => exact absurd ((h y).2 (by simp)) (by simp)
  | x :: a, b, ha, hb, h => by
    cases b with
    | nil => exact absurd ((h x).1 (by simp)) (by simp)
    | cons y b =>
      obtain ⟨h1, h2⟩ := List.pairwise_cons.1 ha
      obtain ⟨k1, k2⟩ := List.pairwise_cons.1 hb
      have e : x = y := by
        rcases List.mem_cons.1 ((h x).1 (by simp)) with e | m1
        · exact e
        · rcases List.mem_cons.1 ((h y).2 (by simp)) with e | m2
          · exact e.symm
          · have := h1 y m2
            have := k1 x m1
            omega
      subst e
      rw [rise_unique h2 k2 fun z => ?_]
      constructor
      · intro hz
        rcases List.mem_cons.1 ((h z).1 (by simp [hz])) with e | m
        · subst e
          have := h1 z hz
          omega
        · exact m
      · intro hz
        rcases List.mem_cons.1 ((h z).2 (by simp [hz])) with e | m
        · subst e
          have := k1 z hz
          omega
        · exact m

/-- What is told in order is what a search of the nodes finds. -/
theorem told_eq {n : Int} {l : List Sw} {ts : List Int} (h : RingOk n l) (hn : n ≤ 8) (hp : ts.Perm (backL n l)) (hu : UpI ts) : ts = tolL (backL n l) 8 := by
  have nd : (backL n l).Nodup := by
    unfold backL List.Nodup
    rw [List.pairwise_map]
    refine List.Pairwise.imp_of_mem (fun {x y} hx hy k => ?_) (h.uni.filter _)
    have fx := (List.mem_filter.1 hx).2
    have fy := (List.mem_filter.1 hy).2
    unfold retS at fx fy
    simp at fx fy
    exact k fx.1 fy.1
  have nt : ts.Nodup := hp.nodup_iff.2 nd
  refine rise_unique ?_ (tolL_up _ _) fun x => ?_
  · refine (List.Pairwise.and hu nt).imp fun {a b} k => ?_
    have := k.1
    have := k.2
    omega
  · rw [tolL_mem, hp.mem_iff]
    constructor
    · intro hx
      obtain ⟨y, hy, _, rfl⟩ := mem_backL.1 hx
      have := nodB_iff.1 (h.each y hy).2.1
      exact ⟨this.1, by omega, hx⟩
    · exact fun k => k.2.2

theorem advS_wait {n : Int} {x : Sw} (h : okS n x) (ht : 0 < x.wt) : x.fu = true ∧ advS n x = ⟨x.pl, x.fu, x.nd, x.wt - 1⟩ ∧ retS n x = false := by
  have hf : x.fu = true := by
    cases e : x.fu
    · have := (h.2.2.2 e).2
      omega
    · rfl
  have e : advS n x = ⟨x.pl, x.fu, x.nd, x.wt - 1⟩ := by unfold advS; rw [if_pos ⟨hf, ht⟩]
  refine ⟨hf, e, ?_⟩
  unfold retS
  rw [e, hf]
  rfl
/-- Where a slot that does not wait is next. -/
theorem node_next {n a : Int} (hn : 2 ≤ n) (h0 : 0 ≤ a) (h1 : a < n) : nodeAt n a 1 = if a + 1 = n then 0 else a + 1 := by
  unfold nodeAt
  rw [Int.add_emod_emod, emod_two (by omega) (by omega)]
  by_cases c : a + 1 = n
  · rw [if_neg (by omega), if_pos c]; omega
  · rw [if_pos (by omega), if_neg c]

/-- The first k slots behind a step. -/
def movL (n : Int) (l : List Sw) (k : Nat) : List Sw := (l.take k).map (advS n)
theorem movL_succ (n : Int) {l : List Sw} {k : Nat} {x : Sw} (hx : l[k]? = some x) : ringC (movL n l (k + 1)) = ringC (movL n l k) ++ (advS n x).cells := by
  unfold movL
  rw [List.take_add_one, hx, Option.toList_some, List.map_append, ringC_append]
  simp [ringC]
theorem movL_all (n : Int) (l : List Sw) : movL n l l.length = l.map (advS n) := by unfold movL; rw [List.take_length]
theorem advS_move {n : Int} (a d : Int) (f : Bool) (m : Int) (hm : nodeAt n a 1 = m) :
    (advS n ⟨a, f, d, 0⟩).cells = (if f = true ∧ m = d then [.int .i64 m, .bool false, .int .i64 0, .int .i64 0] else [.int .i64 m, .bool f, .int .i64 d, .int .i64 0]) ∧ retS n ⟨a, f, d, 0⟩ = (f && m == d) := by
  subst hm
  unfold retS advS
  simp only [Int.lt_irrefl, and_false, if_false]
  by_cases c : f = true ∧ nodeAt n a 1 = d
  · rw [if_pos c, if_pos c]
    refine ⟨rfl, ?_⟩
    simp [c.1, c.2]
  · rw [if_neg c, if_neg c]
    refine ⟨rfl, ?_⟩
    cases f
    · rfl
    · have : nodeAt n a 1 ≠ d := fun e => c ⟨rfl, e⟩
      simp [this]

set_option maxHeartbeats 4000000 in
theorem refStep_any (n s y b : Int) (v : Value) (l : List Sw) (w : World) (h : Rs w v l) (hE : ringE n s y b l = 0) :
    Calls Try.prog 14 #[cfg n s y b, v] w fun e w' =>
      (∃ v' tv, e = .returned (.tuple #[v', tv]) ∧ Rs w' v' (l.map (advS n)) ∧ Sl w' w'.heap.size 1 tv (tolL (backL n l) 8).length ((tolL (backL n l) 8).map (Value.int .i64))) ∧ Below w.heap.size w w' := by
  obtain ⟨g1, m1, m8, ok⟩ := ringE_zero.1 hE
  have hn := cfgB_iff.1 g1
  obtain ⟨nn2, nn8, -⟩ := hn
  have OK := Lib.hid ok.each
  obtain ⟨i0, hi, hz0, hz1, hz2⟩ := info_parts info_slot
  have HI := Lib.hid hi
  have HZ := Lib.hid (And.intro hz0 (And.intro hz1 hz2))
  obtain ⟨j0, hj, hy0, hy1, hy2⟩ := info_parts info_int2
  have HJ := Lib.hid hj
  have HY := Lib.hid (And.intro hy0 (And.intro hy1 hy2))
  obtain ⟨_, A, c, rfl, h1, h2, h3⟩ := h
  have H3 := Lib.hid h3
  unfold maxLen at h2
  clear h3 hE g1 ok hi hz0 hz1 hz2 hj hy0 hy1 hy2
  have low := Below.refl w.heap.size w
  have cb := boxNext low 23 #[.int .i64 n, .int .i64 s, .int .i64 y, .int .i64 b]
  replace low := gAlloc low (.cells #[.int .i64 n, .int .i64 s, .int .i64 y, .int .i64 b] 23)
  try simp only [World.size_alloc] at cb
  have tb := boxNext low 65 tol0
  replace low := gAlloc low (.cells tol0 65)
  replace cb := cb.alloc (.cells tol0 65)
  try simp only [World.size_alloc] at tb
  have TB := Lib.hid (show Box _ (w.heap.size + 1) 65 (tolA (backL n (l.take 0))) from tolA_nil ▸ tb)
  clear tb
  go_enter Try.func14, Try.ntmps14
  go_wp2_with fail
  go_loopw [6, 15] (fun ov i wr => ∃ k : Nat, k ≤ l.length ∧ i = .int .i64 k ∧ Hid (wr.ownsRow (w.heap.size + 1 + 1) 38 4 ov k (ringC (movL n l k))) ∧ Hid (Box wr (w.heap.size + 1) 65 (tolA (backL n (l.take k)))) ∧
      Box wr w.heap.size 23 #[.int .i64 n, .int .i64 s, .int .i64 y, .int .i64 b] ∧ Below w.heap.size w wr) (fun _ i _ => l.length - (intOf i).toNat)
  case atStart => exact ⟨0, Nat.zero_le _, rfl, Lib.hid (World.ownsRow_nil _ _ _ _), TB, cb, low⟩
  case round =>
    clear TB cb low
    obtain ⟨k, hk, rfl, row, TB, cb, low⟩ := hrel
    by_cases hlt : k < l.length
    · obtain ⟨bb, o, rfl, hb, hc⟩ := H3.out (by omega)
      have hx : l[k]? = some l[k] := List.getElem?_eq_getElem _
      generalize l[k] = x at hx
      obtain ⟨c0, c1, c2, c3⟩ := slotAt_of hc hb low hx
      have OX := Lib.hid (OK.out x (List.mem_of_getElem? hx))
      have HBK := Lib.hid (backL_succ (n := n) hx)
      have HST := Lib.hid (movL_succ n hx)
      have ZR := Lib.hid low.size
      have OPL := nodB_iff.1 OX.out.1
      have OND := nodB_iff.1 OX.out.2.1
      have OWT := waitB_iff.1 OX.out.2.2.1
      have tz := TB.out.lt
      obtain ⟨a, f, d, t⟩ := x
      simp only at c0 c1 c2 c3 OPL OND OWT
      obtain ⟨p1, p2⟩ := OPL
      obtain ⟨d1, d2⟩ := OND
      obtain ⟨t1, t2⟩ := OWT
      have k0 : (0 : Int) ≤ k := by omega
      have k1 : (k : Int) < l.length := by omega
      clear hx hc
      by_cases ht : 0 < t
      · obtain ⟨hf, e1, e2⟩ := advS_wait OX.out ht
        simp only at hf e1 e2
        subst hf
        rw [e1] at HST
        rw [e2] at HBK
        replace HBK : Hid (backL n (l.take k) = backL n (l.take (k + 1))) := Lib.hid (by rw [HBK.out]; simp)
        replace HST : Hid (ringC (movL n l (k + 1)) = ringC (movL n l k) ++ [.int .i64 a, .bool true, .int .i64 d, .int .i64 (t - 1)]) := HST
        clear OX e1 e2
        have RW1 := Lib.hid ((row.out.alloc (.cells #[.int .i64 (a), .bool true, .int .i64 (d), .int .i64 (t - 1)] 38)).alloc (.cells #[.int .i64 (a), .bool true, .int .i64 (d), .int .i64 (t - 1)] 38))
        have TB1 := Lib.hid (((HBK.out ▸ TB.out : Box wr (w.heap.size + 1) 65 (tolA (backL n (l.take (k + 1))))).alloc (.cells #[.int .i64 (a), .bool true, .int .i64 (d), .int .i64 (t - 1)] 38)).alloc (.cells #[.int .i64 (a), .bool true, .int .i64 (d), .int .i64 (t - 1)] 38))
        have cb1 := Lib.hid ((cb.alloc (.cells #[.int .i64 (a), .bool true, .int .i64 (d), .int .i64 (t - 1)] 38)).alloc (.cells #[.int .i64 (a), .bool true, .int .i64 (d), .int .i64 (t - 1)] 38))
        have low1 := Lib.hid (gAlloc (gAlloc low (.cells #[.int .i64 (a), .bool true, .int .i64 (d), .int .i64 (t - 1)] 38)) (.cells #[.int .i64 (a), .bool true, .int .i64 (d), .int .i64 (t - 1)] 38))
        have db := Box.new (wr.alloc (.cells #[.int .i64 (a), .bool true, .int .i64 (d), .int .i64 (t - 1)] 38)) 38 #[.int .i64 (a), .bool true, .int .i64 (d), .int .i64 (t - 1)]
        simp only [World.size_alloc] at db
        have DB := Lib.hid db
        have cbx : ∀ o, (wr.alloc o).cell? ⟨w.heap.size, 0, none⟩ = some (.int .i64 n) := fun o => (cb.alloc o).at_ 0 rfl
        clear row TB low HBK cb db
        go_wp2_with (at_builtin; refine wpList_append_own _ rfl _ _ 25 rfl (w.heap.size + 1 + 1) 38 i0 (.agg slot0) 4 32 Try.underlying25 HI.out HZ.out.1 HZ.out.2.1 HZ.out.2.2 rfl (by decide) _ _ _ rfl RW1.out ⟨wr.heap.size + 1, 0, none⟩ 1 1 [.int .i64 (a), .bool true, .int .i64 (d), .int .i64 (t - 1)] rfl rfl ?c1 ?c2 ?c3 ?c4 ?c5 ?_)
        case c1 =>
          intro j u hj
          have e : (⟨wr.heap.size + 1, 0, none⟩ : Addr).add j = ⟨wr.heap.size + 1, j, none⟩ := by cases j <;> simp [Addr.add]
          rw [e, DB.out.cell, ← Array.getElem?_toList]
          exact hj
        case c2 => intro u hu; simp at hu; rcases hu with rfl | rfl | rfl | rfl <;> rfl
        case c3 => unfold maxLen; omega
        case c4 => omega
        case c5 => (have := ZR.out; simp; omega)
        intro v4 w4 own4 grow4 _
        have tb4 := TB1.out.grown grow4 (row_ne RW1.out TB1.out (by decide))
        have cb4 := cb1.out.grown grow4 (row_ne RW1.out cb1.out (by decide))
        have low4 := low1.out.grown grow4 (by simp; have := ZR.out; omega) (fun g e => Nat.le_trans (by omega) (row_from RW1.out g e))
        rw [← HST.out] at own4
        have ROW4 := Lib.hid own4
        have TB4 := Lib.hid tb4
        clear own4 tb4 grow4 RW1 TB1 cb1 low1 HST
        go_wp2_with fail
        go_roundw
        case rel => exact ⟨k + 1, by omega, by go_num, ROW4, TB4, cb4, low4⟩
        case measure => simp [intOf]; omega
      · obtain rfl : t = 0 := by omega
        obtain ⟨q, rfl⟩ : ∃ q : Nat, a = q := ⟨a.toNat, by omega⟩
        clear ht t1 t2
        by_cases c : (q : Int) + 1 = n
        · have hm : nodeAt n q 1 = 0 := by rw [node_next nn2 p1 p2, if_pos c]
          have c' : ((q : Int) + 1 == n) = true := by simpa using c
          clear c
          obtain ⟨e1, e2⟩ := advS_move (n := n) q d f _ hm
          rw [e1] at HST
          rw [e2] at HBK
          clear e1 e2 OX hm
          cases f
          · replace HST : Hid (ringC (movL n l (k + 1)) = ringC (movL n l k) ++ [.int .i64 (0), .bool false, .int .i64 d, .int .i64 0]) := Lib.hid (by rw [HST.out, if_neg (by simp)])
            replace HBK : Hid (backL n (l.take k) = backL n (l.take (k + 1))) := Lib.hid (by rw [HBK.out]; simp)
            have RW1 := Lib.hid ((row.out.alloc (.cells #[.int .i64 (0), .bool false, .int .i64 (d), .int .i64 (0)] 38)).alloc (.cells #[.int .i64 (0), .bool false, .int .i64 (d), .int .i64 (0)] 38))
            have TB1 := Lib.hid (((HBK.out ▸ TB.out : Box wr (w.heap.size + 1) 65 (tolA (backL n (l.take (k + 1))))).alloc (.cells #[.int .i64 (0), .bool false, .int .i64 (d), .int .i64 (0)] 38)).alloc (.cells #[.int .i64 (0), .bool false, .int .i64 (d), .int .i64 (0)] 38))
            have cb1 := Lib.hid ((cb.alloc (.cells #[.int .i64 (0), .bool false, .int .i64 (d), .int .i64 (0)] 38)).alloc (.cells #[.int .i64 (0), .bool false, .int .i64 (d), .int .i64 (0)] 38))
            have low1 := Lib.hid (gAlloc (gAlloc low (.cells #[.int .i64 (0), .bool false, .int .i64 (d), .int .i64 (0)] 38)) (.cells #[.int .i64 (0), .bool false, .int .i64 (d), .int .i64 (0)] 38))
            have db := Box.new (wr.alloc (.cells #[.int .i64 (0), .bool false, .int .i64 (d), .int .i64 (0)] 38)) 38 #[.int .i64 (0), .bool false, .int .i64 (d), .int .i64 (0)]
            simp only [World.size_alloc] at db
            have DB := Lib.hid db
            have cbx : ∀ o, (wr.alloc o).cell? ⟨w.heap.size, 0, none⟩ = some (.int .i64 n) := fun o => (cb.alloc o).at_ 0 rfl
            clear row TB low HBK cb db
            go_wp2_with (at_builtin; refine wpList_append_own _ rfl _ _ 25 rfl (w.heap.size + 1 + 1) 38 i0 (.agg slot0) 4 32 Try.underlying25 HI.out HZ.out.1 HZ.out.2.1 HZ.out.2.2 rfl (by decide) _ _ _ rfl RW1.out ⟨wr.heap.size + 1, 0, none⟩ 1 1 [.int .i64 (0), .bool false, .int .i64 (d), .int .i64 (0)] rfl rfl ?c1 ?c2 ?c3 ?c4 ?c5 ?_)
            case c1 =>
              intro j u hj
              have e : (⟨wr.heap.size + 1, 0, none⟩ : Addr).add j = ⟨wr.heap.size + 1, j, none⟩ := by cases j <;> simp [Addr.add]
              rw [e, DB.out.cell, ← Array.getElem?_toList]
              exact hj
            case c2 => intro u hu; simp at hu; rcases hu with rfl | rfl | rfl | rfl <;> rfl
            case c3 => unfold maxLen; omega
            case c4 => omega
            case c5 => (have := ZR.out; simp; omega)
            intro v4 w4 own4 grow4 _
            have tb4 := TB1.out.grown grow4 (row_ne RW1.out TB1.out (by decide))
            have cb4 := cb1.out.grown grow4 (row_ne RW1.out cb1.out (by decide))
            have low4 := low1.out.grown grow4 (by simp; have := ZR.out; omega) (fun g e => Nat.le_trans (by omega) (row_from RW1.out g e))
            rw [← HST.out] at own4
            have ROW4 := Lib.hid own4
            have TB4 := Lib.hid tb4
            clear own4 tb4 grow4 RW1 TB1 cb1 low1 HST
            go_wp2_with fail
            go_roundw
            case rel => exact ⟨k + 1, by omega, by go_num, ROW4, TB4, cb4, low4⟩
            case measure => simp [intOf]; omega
          · by_cases hd : (0 : Int) = d
            · subst hd
              replace HST : Hid (ringC (movL n l (k + 1)) = ringC (movL n l k) ++ [.int .i64 (0), .bool false, .int .i64 0, .int .i64 0]) := Lib.hid (by rw [HST.out, if_pos ⟨rfl, rfl⟩])
              replace HBK : Hid (backL n (l.take (k + 1)) = backL n (l.take k) ++ [((0 : Nat) : Int)]) := Lib.hid (by rw [HBK.out]; simp)
              have st1 := ownsRow_setCell_below row.out (a := ⟨w.heap.size + 1, 0, none⟩) (by simp) (.bool true)
              have RW1 := Lib.hid ((st1.alloc (.cells #[.int .i64 (0), .bool false, .int .i64 0, .int .i64 0] 38)).alloc (.cells #[.int .i64 (0), .bool false, .int .i64 0, .int .i64 0] 38))
              have st2 := TB.out.set (0) (.bool true)
              rw [tolA_set _ (by omega), ← HBK.out] at st2
              have TB1 := Lib.hid ((st2.alloc (.cells #[.int .i64 (0), .bool false, .int .i64 0, .int .i64 0] 38)).alloc (.cells #[.int .i64 (0), .bool false, .int .i64 0, .int .i64 0] 38))
              have st3 := cb.far (p := ⟨w.heap.size + 1, 0, none⟩) (by simp) (.bool true)
              have cb1 := Lib.hid ((st3.alloc (.cells #[.int .i64 (0), .bool false, .int .i64 0, .int .i64 0] 38)).alloc (.cells #[.int .i64 (0), .bool false, .int .i64 0, .int .i64 0] 38))
              have st4 := gSet low (p := ⟨w.heap.size + 1, 0, none⟩) (by simp) (.bool true)
              have low1 := Lib.hid (gAlloc (gAlloc st4 (.cells #[.int .i64 (0), .bool false, .int .i64 0, .int .i64 0] 38)) (.cells #[.int .i64 (0), .bool false, .int .i64 0, .int .i64 0] 38))
              have db := Box.new ((wr.setCell ⟨w.heap.size + 1, 0, none⟩ (.bool true)).alloc (.cells #[.int .i64 (0), .bool false, .int .i64 0, .int .i64 0] 38)) 38 #[.int .i64 (0), .bool false, .int .i64 0, .int .i64 0]
              have ez : ((wr.setCell ⟨w.heap.size + 1, 0, none⟩ (.bool true)).alloc (.cells #[.int .i64 (0), .bool false, .int .i64 0, .int .i64 0] 38)).heap.size = wr.heap.size + 1 := by simp
              rw [ez] at db
              have DB := Lib.hid db
              have cbx : ∀ o, (wr.alloc o).cell? ⟨w.heap.size, 0, none⟩ = some (.int .i64 n) := fun o => (cb.alloc o).at_ 0 rfl
              have tbx : ∀ o, (wr.alloc o).cell? ⟨w.heap.size + 1, 0, none⟩ = some (.bool (decide (((0 : Nat) : Int) ∈ backL n (l.take k)))) := fun o => (TB.out.alloc o).at_ (0) (tolA_at _ (by omega))
              have tbf : ∀ o, (wr.alloc o).frozen? ⟨w.heap.size + 1, 0, none⟩ = false := fun o => (TB.out.alloc o).frozen (0)
              clear row TB low HBK cb db ez st1 st2 st3 st4
              go_wp2_with (at_builtin; refine wpList_append_own _ rfl _ _ 25 rfl (w.heap.size + 1 + 1) 38 i0 (.agg slot0) 4 32 Try.underlying25 HI.out HZ.out.1 HZ.out.2.1 HZ.out.2.2 rfl (by decide) _ _ _ rfl RW1.out ⟨wr.heap.size + 1, 0, none⟩ 1 1 [.int .i64 (0), .bool false, .int .i64 (0), .int .i64 (0)] rfl rfl ?c1 ?c2 ?c3 ?c4 ?c5 ?_)
              case c1 =>
                intro j u hj
                have e : (⟨wr.heap.size + 1, 0, none⟩ : Addr).add j = ⟨wr.heap.size + 1, j, none⟩ := by cases j <;> simp [Addr.add]
                rw [e, DB.out.cell, ← Array.getElem?_toList]
                exact hj
              case c2 => intro u hu; simp at hu; rcases hu with rfl | rfl | rfl | rfl <;> rfl
              case c3 => unfold maxLen; omega
              case c4 => omega
              case c5 => (have := ZR.out; simp; omega)
              intro v4 w4 own4 grow4 _
              have tb4 := TB1.out.grown grow4 (row_ne RW1.out TB1.out (by decide))
              have cb4 := cb1.out.grown grow4 (row_ne RW1.out cb1.out (by decide))
              have low4 := low1.out.grown grow4 (by simp; have := ZR.out; omega) (fun g e => Nat.le_trans (by omega) (row_from RW1.out g e))
              rw [← HST.out] at own4
              have ROW4 := Lib.hid own4
              have TB4 := Lib.hid tb4
              clear own4 tb4 grow4 RW1 TB1 cb1 low1 HST
              go_wp2_with fail
              go_roundw
              case rel => exact ⟨k + 1, by omega, by go_num, ROW4, TB4, cb4, low4⟩
              case measure => simp [intOf]; omega
            · have hd' : (d == (0 : Int)) = false := beq_false_of_ne (fun e => hd e.symm)
              replace HST : Hid (ringC (movL n l (k + 1)) = ringC (movL n l k) ++ [.int .i64 (0), .bool true, .int .i64 d, .int .i64 0]) := Lib.hid (by rw [HST.out, if_neg (fun h => hd h.2)])
              replace HBK : Hid (backL n (l.take k) = backL n (l.take (k + 1))) := Lib.hid (by rw [HBK.out, Bool.true_and, beq_false_of_ne hd]; simp)
              clear hd
              have RW1 := Lib.hid ((row.out.alloc (.cells #[.int .i64 (0), .bool true, .int .i64 (d), .int .i64 (0)] 38)).alloc (.cells #[.int .i64 (0), .bool true, .int .i64 (d), .int .i64 (0)] 38))
              have TB1 := Lib.hid (((HBK.out ▸ TB.out : Box wr (w.heap.size + 1) 65 (tolA (backL n (l.take (k + 1))))).alloc (.cells #[.int .i64 (0), .bool true, .int .i64 (d), .int .i64 (0)] 38)).alloc (.cells #[.int .i64 (0), .bool true, .int .i64 (d), .int .i64 (0)] 38))
              have cb1 := Lib.hid ((cb.alloc (.cells #[.int .i64 (0), .bool true, .int .i64 (d), .int .i64 (0)] 38)).alloc (.cells #[.int .i64 (0), .bool true, .int .i64 (d), .int .i64 (0)] 38))
              have low1 := Lib.hid (gAlloc (gAlloc low (.cells #[.int .i64 (0), .bool true, .int .i64 (d), .int .i64 (0)] 38)) (.cells #[.int .i64 (0), .bool true, .int .i64 (d), .int .i64 (0)] 38))
              have db := Box.new (wr.alloc (.cells #[.int .i64 (0), .bool true, .int .i64 (d), .int .i64 (0)] 38)) 38 #[.int .i64 (0), .bool true, .int .i64 (d), .int .i64 (0)]
              simp only [World.size_alloc] at db
              have DB := Lib.hid db
              have cbx : ∀ o, (wr.alloc o).cell? ⟨w.heap.size, 0, none⟩ = some (.int .i64 n) := fun o => (cb.alloc o).at_ 0 rfl
              clear row TB low HBK cb db
              go_wp2_with (at_builtin; refine wpList_append_own _ rfl _ _ 25 rfl (w.heap.size + 1 + 1) 38 i0 (.agg slot0) 4 32 Try.underlying25 HI.out HZ.out.1 HZ.out.2.1 HZ.out.2.2 rfl (by decide) _ _ _ rfl RW1.out ⟨wr.heap.size + 1, 0, none⟩ 1 1 [.int .i64 (0), .bool true, .int .i64 (d), .int .i64 (0)] rfl rfl ?c1 ?c2 ?c3 ?c4 ?c5 ?_)
              case c1 =>
                intro j u hj
                have e : (⟨wr.heap.size + 1, 0, none⟩ : Addr).add j = ⟨wr.heap.size + 1, j, none⟩ := by cases j <;> simp [Addr.add]
                rw [e, DB.out.cell, ← Array.getElem?_toList]
                exact hj
              case c2 => intro u hu; simp at hu; rcases hu with rfl | rfl | rfl | rfl <;> rfl
              case c3 => unfold maxLen; omega
              case c4 => omega
              case c5 => (have := ZR.out; simp; omega)
              intro v4 w4 own4 grow4 _
              have tb4 := TB1.out.grown grow4 (row_ne RW1.out TB1.out (by decide))
              have cb4 := cb1.out.grown grow4 (row_ne RW1.out cb1.out (by decide))
              have low4 := low1.out.grown grow4 (by simp; have := ZR.out; omega) (fun g e => Nat.le_trans (by omega) (row_from RW1.out g e))
              rw [← HST.out] at own4
              have ROW4 := Lib.hid own4
              have TB4 := Lib.hid tb4
              clear own4 tb4 grow4 RW1 TB1 cb1 low1 HST
              go_wp2_with fail
              go_roundw
              case rel => exact ⟨k + 1, by omega, by go_num, ROW4, TB4, cb4, low4⟩
              case measure => simp [intOf]; omega
        · have hm : nodeAt n q 1 = (q : Int) + 1 := by rw [node_next nn2 p1 p2, if_neg c]
          have c' : ((q : Int) + 1 == n) = false := beq_false_of_ne c
          have q8 : q + 1 < 8 := by omega
          clear c
          obtain ⟨e1, e2⟩ := advS_move (n := n) q d f _ hm
          rw [e1] at HST
          rw [e2] at HBK
          clear e1 e2 OX hm
          cases f
          · replace HST : Hid (ringC (movL n l (k + 1)) = ringC (movL n l k) ++ [.int .i64 ((q : Int) + 1), .bool false, .int .i64 d, .int .i64 0]) := Lib.hid (by rw [HST.out, if_neg (by simp)])
            replace HBK : Hid (backL n (l.take k) = backL n (l.take (k + 1))) := Lib.hid (by rw [HBK.out]; simp)
            have RW1 := Lib.hid ((row.out.alloc (.cells #[.int .i64 ((q : Int) + 1), .bool false, .int .i64 (d), .int .i64 (0)] 38)).alloc (.cells #[.int .i64 ((q : Int) + 1), .bool false, .int .i64 (d), .int .i64 (0)] 38))
            have TB1 := Lib.hid (((HBK.out ▸ TB.out : Box wr (w.heap.size + 1) 65 (tolA (backL n (l.take (k + 1))))).alloc (.cells #[.int .i64 ((q : Int) + 1), .bool false, .int .i64 (d), .int .i64 (0)] 38)).alloc (.cells #[.int .i64 ((q : Int) + 1), .bool false, .int .i64 (d), .int .i64 (0)] 38))
            have cb1 := Lib.hid ((cb.alloc (.cells #[.int .i64 ((q : Int) + 1), .bool false, .int .i64 (d), .int .i64 (0)] 38)).alloc (.cells #[.int .i64 ((q : Int) + 1), .bool false, .int .i64 (d), .int .i64 (0)] 38))
            have low1 := Lib.hid (gAlloc (gAlloc low (.cells #[.int .i64 ((q : Int) + 1), .bool false, .int .i64 (d), .int .i64 (0)] 38)) (.cells #[.int .i64 ((q : Int) + 1), .bool false, .int .i64 (d), .int .i64 (0)] 38))
            have db := Box.new (wr.alloc (.cells #[.int .i64 ((q : Int) + 1), .bool false, .int .i64 (d), .int .i64 (0)] 38)) 38 #[.int .i64 ((q : Int) + 1), .bool false, .int .i64 (d), .int .i64 (0)]
            simp only [World.size_alloc] at db
            have DB := Lib.hid db
            have cbx : ∀ o, (wr.alloc o).cell? ⟨w.heap.size, 0, none⟩ = some (.int .i64 n) := fun o => (cb.alloc o).at_ 0 rfl
            clear row TB low HBK cb db
            go_wp2_with (at_builtin; refine wpList_append_own _ rfl _ _ 25 rfl (w.heap.size + 1 + 1) 38 i0 (.agg slot0) 4 32 Try.underlying25 HI.out HZ.out.1 HZ.out.2.1 HZ.out.2.2 rfl (by decide) _ _ _ rfl RW1.out ⟨wr.heap.size + 1, 0, none⟩ 1 1 [.int .i64 ((q : Int) + 1), .bool false, .int .i64 (d), .int .i64 (0)] rfl rfl ?c1 ?c2 ?c3 ?c4 ?c5 ?_)
            case c1 =>
              intro j u hj
              have e : (⟨wr.heap.size + 1, 0, none⟩ : Addr).add j = ⟨wr.heap.size + 1, j, none⟩ := by cases j <;> simp [Addr.add]
              rw [e, DB.out.cell, ← Array.getElem?_toList]
              exact hj
            case c2 => intro u hu; simp at hu; rcases hu with rfl | rfl | rfl | rfl <;> rfl
            case c3 => unfold maxLen; omega
            case c4 => omega
            case c5 => (have := ZR.out; simp; omega)
            intro v4 w4 own4 grow4 _
            have tb4 := TB1.out.grown grow4 (row_ne RW1.out TB1.out (by decide))
            have cb4 := cb1.out.grown grow4 (row_ne RW1.out cb1.out (by decide))
            have low4 := low1.out.grown grow4 (by simp; have := ZR.out; omega) (fun g e => Nat.le_trans (by omega) (row_from RW1.out g e))
            rw [← HST.out] at own4
            have ROW4 := Lib.hid own4
            have TB4 := Lib.hid tb4
            clear own4 tb4 grow4 RW1 TB1 cb1 low1 HST
            go_wp2_with fail
            go_roundw
            case rel => exact ⟨k + 1, by omega, by go_num, ROW4, TB4, cb4, low4⟩
            case measure => simp [intOf]; omega
          · by_cases hd : ((q : Int) + 1 : Int) = d
            · subst hd
              replace HST : Hid (ringC (movL n l (k + 1)) = ringC (movL n l k) ++ [.int .i64 ((q : Int) + 1), .bool false, .int .i64 0, .int .i64 0]) := Lib.hid (by rw [HST.out, if_pos ⟨rfl, rfl⟩])
              replace HBK : Hid (backL n (l.take (k + 1)) = backL n (l.take k) ++ [((q + 1 : Nat) : Int)]) := Lib.hid (by rw [HBK.out]; simp)
              have st1 := ownsRow_setCell_below row.out (a := ⟨w.heap.size + 1, q + 1, none⟩) (by simp) (.bool true)
              have RW1 := Lib.hid ((st1.alloc (.cells #[.int .i64 ((q : Int) + 1), .bool false, .int .i64 0, .int .i64 0] 38)).alloc (.cells #[.int .i64 ((q : Int) + 1), .bool false, .int .i64 0, .int .i64 0] 38))
              have st2 := TB.out.set (q + 1) (.bool true)
              rw [tolA_set _ (by omega), ← HBK.out] at st2
              have TB1 := Lib.hid ((st2.alloc (.cells #[.int .i64 ((q : Int) + 1), .bool false, .int .i64 0, .int .i64 0] 38)).alloc (.cells #[.int .i64 ((q : Int) + 1), .bool false, .int .i64 0, .int .i64 0] 38))
              have st3 := cb.far (p := ⟨w.heap.size + 1, q + 1, none⟩) (by simp) (.bool true)
              have cb1 := Lib.hid ((st3.alloc (.cells #[.int .i64 ((q : Int) + 1), .bool false, .int .i64 0, .int .i64 0] 38)).alloc (.cells #[.int .i64 ((q : Int) + 1), .bool false, .int .i64 0, .int .i64 0] 38))
              have st4 := gSet low (p := ⟨w.heap.size + 1, q + 1, none⟩) (by simp) (.bool true)
              have low1 := Lib.hid (gAlloc (gAlloc st4 (.cells #[.int .i64 ((q : Int) + 1), .bool false, .int .i64 0, .int .i64 0] 38)) (.cells #[.int .i64 ((q : Int) + 1), .bool false, .int .i64 0, .int .i64 0] 38))
              have db := Box.new ((wr.setCell ⟨w.heap.size + 1, q + 1, none⟩ (.bool true)).alloc (.cells #[.int .i64 ((q : Int) + 1), .bool false, .int .i64 0, .int .i64 0] 38)) 38 #[.int .i64 ((q : Int) + 1), .bool false, .int .i64 0, .int .i64 0]
              have ez : ((wr.setCell ⟨w.heap.size + 1, q + 1, none⟩ (.bool true)).alloc (.cells #[.int .i64 ((q : Int) + 1), .bool false, .int .i64 0, .int .i64 0] 38)).heap.size = wr.heap.size + 1 := by simp
              rw [ez] at db
              have DB := Lib.hid db
              have cbx : ∀ o, (wr.alloc o).cell? ⟨w.heap.size, 0, none⟩ = some (.int .i64 n) := fun o => (cb.alloc o).at_ 0 rfl
              have tbx : ∀ o, (wr.alloc o).cell? ⟨w.heap.size + 1, q + 1, none⟩ = some (.bool (decide (((q + 1 : Nat) : Int) ∈ backL n (l.take k)))) := fun o => (TB.out.alloc o).at_ (q + 1) (tolA_at _ (by omega))
              have tbf : ∀ o, (wr.alloc o).frozen? ⟨w.heap.size + 1, q + 1, none⟩ = false := fun o => (TB.out.alloc o).frozen (q + 1)
              clear row TB low HBK cb db ez st1 st2 st3 st4
              go_wp2_with (at_builtin; refine wpList_append_own _ rfl _ _ 25 rfl (w.heap.size + 1 + 1) 38 i0 (.agg slot0) 4 32 Try.underlying25 HI.out HZ.out.1 HZ.out.2.1 HZ.out.2.2 rfl (by decide) _ _ _ rfl RW1.out ⟨wr.heap.size + 1, 0, none⟩ 1 1 [.int .i64 ((q : Int) + 1), .bool false, .int .i64 (0), .int .i64 (0)] rfl rfl ?c1 ?c2 ?c3 ?c4 ?c5 ?_)
              case c1 =>
                intro j u hj
                have e : (⟨wr.heap.size + 1, 0, none⟩ : Addr).add j = ⟨wr.heap.size + 1, j, none⟩ := by cases j <;> simp [Addr.add]
                rw [e, DB.out.cell, ← Array.getElem?_toList]
                exact hj
              case c2 => intro u hu; simp at hu; rcases hu with rfl | rfl | rfl | rfl <;> rfl
              case c3 => unfold maxLen; omega
              case c4 => omega
              case c5 => (have := ZR.out; simp; omega)
              intro v4 w4 own4 grow4 _
              have tb4 := TB1.out.grown grow4 (row_ne RW1.out TB1.out (by decide))
              have cb4 := cb1.out.grown grow4 (row_ne RW1.out cb1.out (by decide))
              have low4 := low1.out.grown grow4 (by simp; have := ZR.out; omega) (fun g e => Nat.le_trans (by omega) (row_from RW1.out g e))
              rw [← HST.out] at own4
              have ROW4 := Lib.hid own4
              have TB4 := Lib.hid tb4
              clear own4 tb4 grow4 RW1 TB1 cb1 low1 HST
              go_wp2_with fail
              go_roundw
              case rel => exact ⟨k + 1, by omega, by go_num, ROW4, TB4, cb4, low4⟩
              case measure => simp [intOf]; omega
            · have hd' : (d == ((q : Int) + 1 : Int)) = false := beq_false_of_ne (fun e => hd e.symm)
              replace HST : Hid (ringC (movL n l (k + 1)) = ringC (movL n l k) ++ [.int .i64 ((q : Int) + 1), .bool true, .int .i64 d, .int .i64 0]) := Lib.hid (by rw [HST.out, if_neg (fun h => hd h.2)])
              replace HBK : Hid (backL n (l.take k) = backL n (l.take (k + 1))) := Lib.hid (by rw [HBK.out, Bool.true_and, beq_false_of_ne hd]; simp)
              clear hd
              have RW1 := Lib.hid ((row.out.alloc (.cells #[.int .i64 ((q : Int) + 1), .bool true, .int .i64 (d), .int .i64 (0)] 38)).alloc (.cells #[.int .i64 ((q : Int) + 1), .bool true, .int .i64 (d), .int .i64 (0)] 38))
              have TB1 := Lib.hid (((HBK.out ▸ TB.out : Box wr (w.heap.size + 1) 65 (tolA (backL n (l.take (k + 1))))).alloc (.cells #[.int .i64 ((q : Int) + 1), .bool true, .int .i64 (d), .int .i64 (0)] 38)).alloc (.cells #[.int .i64 ((q : Int) + 1), .bool true, .int .i64 (d), .int .i64 (0)] 38))
              have cb1 := Lib.hid ((cb.alloc (.cells #[.int .i64 ((q : Int) + 1), .bool true, .int .i64 (d), .int .i64 (0)] 38)).alloc (.cells #[.int .i64 ((q : Int) + 1), .bool true, .int .i64 (d), .int .i64 (0)] 38))
              have low1 := Lib.hid (gAlloc (gAlloc low (.cells #[.int .i64 ((q : Int) + 1), .bool true, .int .i64 (d), .int .i64 (0)] 38)) (.cells #[.int .i64 ((q : Int) + 1), .bool true, .int .i64 (d), .int .i64 (0)] 38))
              have db := Box.new (wr.alloc (.cells #[.int .i64 ((q : Int) + 1), .bool true, .int .i64 (d), .int .i64 (0)] 38)) 38 #[.int .i64 ((q : Int) + 1), .bool true, .int .i64 (d), .int .i64 (0)]
              simp only [World.size_alloc] at db
              have DB := Lib.hid db
              have cbx : ∀ o, (wr.alloc o).cell? ⟨w.heap.size, 0, none⟩ = some (.int .i64 n) := fun o => (cb.alloc o).at_ 0 rfl
              clear row TB low HBK cb db
              go_wp2_with (at_builtin; refine wpList_append_own _ rfl _ _ 25 rfl (w.heap.size + 1 + 1) 38 i0 (.agg slot0) 4 32 Try.underlying25 HI.out HZ.out.1 HZ.out.2.1 HZ.out.2.2 rfl (by decide) _ _ _ rfl RW1.out ⟨wr.heap.size + 1, 0, none⟩ 1 1 [.int .i64 ((q : Int) + 1), .bool true, .int .i64 (d), .int .i64 (0)] rfl rfl ?c1 ?c2 ?c3 ?c4 ?c5 ?_)
              case c1 =>
                intro j u hj
                have e : (⟨wr.heap.size + 1, 0, none⟩ : Addr).add j = ⟨wr.heap.size + 1, j, none⟩ := by cases j <;> simp [Addr.add]
                rw [e, DB.out.cell, ← Array.getElem?_toList]
                exact hj
              case c2 => intro u hu; simp at hu; rcases hu with rfl | rfl | rfl | rfl <;> rfl
              case c3 => unfold maxLen; omega
              case c4 => omega
              case c5 => (have := ZR.out; simp; omega)
              intro v4 w4 own4 grow4 _
              have tb4 := TB1.out.grown grow4 (row_ne RW1.out TB1.out (by decide))
              have cb4 := cb1.out.grown grow4 (row_ne RW1.out cb1.out (by decide))
              have low4 := low1.out.grown grow4 (by simp; have := ZR.out; omega) (fun g e => Nat.le_trans (by omega) (row_from RW1.out g e))
              rw [← HST.out] at own4
              have ROW4 := Lib.hid own4
              have TB4 := Lib.hid tb4
              clear own4 tb4 grow4 RW1 TB1 cb1 low1 HST
              go_wp2_with fail
              go_roundw
              case rel => exact ⟨k + 1, by omega, by go_num, ROW4, TB4, cb4, low4⟩
              case measure => simp [intOf]; omega
    · obtain rfl : k = l.length := by omega
      have tbx := TB.out
      have rw1 := row.out
      rw [List.take_length] at tbx
      rw [movL_all] at rw1
      have R1 := Lib.hid (show Rs wr _ (l.map (advS n)) from ⟨by have := Sl.ofOwn rw1; rwa [List.length_map]⟩)
      have tr := tbx.range
      have ts : (tolA (backL n l)).size = tol0.size := tolA_size (backL n l)
      generalize hL : backL n l = L at *
      have HLL := Lib.hid hL
      clear hL
      clear row rw1 TB tbx cb
      have LOWB := Lib.hid low
      rename World => w9
      have low := Below.refl w9.heap.size w9
      go_wp2_with ((with_reducible refine wp_loadW (tyTold) (tr) (ts) ?_ ?_ ?_); rfl; rfl)
      clear tr ts
      go_loopw [10, 60] (fun lv i wr => ∃ j : Nat, j ≤ 8 ∧ i = .int .i64 j ∧ Hid (wr.ownsRow w9.heap.size 3 1 lv (tolL L j).length ((tolL L j).map (Value.int .i64))) ∧ Below w9.heap.size w9 wr) (fun _ i _ => 8 - (intOf i).toNat)
      case atStart => exact ⟨0, Nat.zero_le _, rfl, Lib.hid (World.ownsRow_nil _ _ _ _), low⟩
      case round =>
        clear low
        obtain ⟨j, hj, rfl, row, low⟩ := hrel
        have zr := Lib.hid low.size
        by_cases hj8 : j < 8
        · have ix := fun w => index_told L j hj8 w
          have e := Lib.hid (tolL_succ L j)
          have few := Lib.hid (tolL_few L j)
          have b0 : (0 : Int) ≤ j := by omega
          have b1 : (j : Int) < 8 := by omega
          by_cases hm : (j : Int) ∈ L
          · rw [decide_eq_true hm] at ix
            replace e : Hid (tolL L (j + 1) = tolL L j ++ [(j : Int)]) := Lib.hid (by rw [e.out, if_pos hm])
            have ROW := Lib.hid (row.out.alloc (.cells #[.int .i64 j] 3))
            clear hm row
            go_wp2_with (at_builtin; refine wpList_append_own _ rfl _ _ 31 rfl w9.heap.size 3 j0 (.int .i64 0) 1 8 Try.underlying31 HJ.out HY.out.1 HY.out.2.1 HY.out.2.2 rfl (by decide) _ _ _ rfl ROW.out ⟨wr.heap.size, 0, none⟩ 1 1 [.int .i64 j] rfl rfl ?c1 ?c2 ?c3 ?c4 ?c5 ?_)
            case c1 =>
              intro i u hi
              match i, hi with
              | 0, hi => simp at hi; subst hi; simp [Addr.add]
            case c2 => intro u hu; simp at hu; subst hu; rfl
            case c3 => have := few.out; unfold maxLen; omega
            case c4 => have := few.out; omega
            case c5 => have := zr.out; simp; omega
            intro v4 w4 own4 grow4 _
            have low4 := (gAlloc low (.cells #[.int .i64 j] 3)).grown grow4 (by have := zr.out; simp; omega) (row_from ROW.out)
            have e1 : (tolL L (j + 1)).length = (tolL L j).length + 1 := by rw [e.out, List.length_append, List.length_singleton]
            have e2 : (tolL L (j + 1)).map (Value.int .i64) = (tolL L j).map (Value.int .i64) ++ [.int .i64 j] := by rw [e.out, List.map_append]; rfl
            rw [← e1, ← e2] at own4
            have ROW4 := Lib.hid own4
            clear own4 grow4 e1 e2 e few ROW ix low
            go_wp2_with fail
            go_roundw
            case rel => exact ⟨j + 1, by omega, by go_num, ROW4, low4⟩
            case measure => simp [intOf]; omega
          · rw [decide_eq_false hm] at ix
            replace e : Hid (tolL L (j + 1) = tolL L j) := Lib.hid (by rw [e.out, if_neg hm, List.append_nil])
            have ROW4 : Hid (wr.ownsRow w9.heap.size 3 1 _ (tolL L (j + 1)).length ((tolL L (j + 1)).map (Value.int .i64))) := Lib.hid (e.out ▸ row.out)
            clear hm row
            go_wp2_with fail
            go_roundw
            case rel => exact ⟨j + 1, by omega, by go_num, ROW4, low⟩
            case measure => simp [intOf]; omega
        · obtain rfl : j = 8 := by omega
          have SL := Lib.hid (Sl.ofOwn row.out)
          have RR := Lib.hid (R1.out.call low)
          have LL := gCall LOWB.out low
          clear row R1 low
          go_wp2_with fail
          go_ret2
          exact ⟨⟨_, _, rfl, RR.out, by rw [HLL.out]; exact SL.out⟩, LL⟩
end Go.Proofs.Ytiefeeondeablaa
