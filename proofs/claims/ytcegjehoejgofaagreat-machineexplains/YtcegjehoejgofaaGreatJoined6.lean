/-
Proved: what the texts below say at the head of each. No condition but theirs.
-/
import Derived.Test.YtcegjehoejgofaaGreatJoined1
import Derived.Test.YtcegjehoejgofaaGreatJoined5
import Derived.Lib.SliceRun
import Derived.Test.YtcegjehoejgofaaGreatJoined3
import Derived.Lib.AppendZeros
import Derived.Deep.Upon
namespace Go.Proofs.YtcegjehoejgofaaGreat
open Go.ChangeShapes Go.WideShapes Go.ChangeAt Go.RowKit Go.Joins
def IsInts (w : World) (v : Value) : Prop := ∃ xs : List Int, Sl w w.heap.size 1 v xs.length (xs.map (Value.int .i64)) ∧ ∀ x ∈ xs, I64 x
theorem ints_of : ∀ {css : List (List Value)}, (∀ c ∈ css, ∃ x : Int, c = [.int .i64 x] ∧ I64 x) → ∃ xs : List Int, xs.length = css.length ∧ css.flatten = xs.map (Value.int .i64) ∧ ∀ x ∈ xs, I64 x
 | [], _ => ⟨[], rfl, rfl, by simp⟩
 | c :: r, h => by
  obtain ⟨x, rfl, hx⟩ := h c (by simp)
  obtain ⟨xs, h1, h2, h3⟩ := ints_of (css := r) (fun d hd => h d (by simp [hd]))
  refine ⟨x :: xs, by simp [h1], by simp [h2], fun y hy => ?_⟩
  rcases List.mem_cons.1 hy with rfl | hy
  ·exact hx
  ·exact h3 y hy
section
variable {H : Type} {enc : TypeId × Value → H} {W : World} {base : Nat} {v : Value} {d : DataW H} {q : List MemPlace}
theorem cells_int : Tryz.prog.cellsOf 3 = 1 := by kernel_rfl
set_option maxRecDepth 10000 in
theorem openInts (hv : Value.okWide Tryz.prog W .any base 35 v) (h : DataW.Trod enc Tryz.prog W 0 (fun _ => true) true 35 v d q) : IsInts W v := by
 obtain ⟨css, sl, hcs⟩ := slice_value Tryz.underlying35 (by rw [cells_int]; omega) hv h
 obtain ⟨xs, l1, l2, l3⟩ := ints_of (css := css) (fun c hc => by
  obtain ⟨_, m, y, hy⟩ := hcs c hc
  have hk := flat_open 1 3 [.int .i64] (by kernel_rfl) m c y hy
  obtain ⟨_, _, rfl, ⟨a, rfl, wa⟩, h1⟩ := hk.cons_
  obtain rfl := h1.nil_
  exact ⟨a, rfl, bounds_i64 wa⟩)
 rw [cells_int, l2, ← l1] at sl
 exact ⟨xs, sl, l3⟩
end
theorem int_at {w w' : World} {b o B : Nat} {xs : List Int} {k : Nat} {x : Int} (hc : ∀ j u, (xs.map (Value.int .i64))[j]? = some u → w.cell? ⟨b, o + j, none⟩ = some u) (hb : b < B) (low : Below B w w') (h : xs[k]? = some x) :
  w'.cell? ⟨b, o + k, none⟩ = some (.int .i64 x) := (low.cell (p := ⟨b, o + k, none⟩) hb).trans (hc k _ (by rw [List.getElem?_map, h]; rfl))
set_option maxHeartbeats 1000000 in
theorem checkProgram_any (k : Int) (v : Value) (l : List Dd) (w : World) (h : Ds w v l) :
  Calls Tryz.prog 70 #[.int .i64 k, v] w fun e w' => e = .returned (.int .i64 (progE k l)) ∧ Below w.heap.size w w' := by
 obtain ⟨_, A, c, rfl, g1, g2, g3⟩ := h
 have G3 := Lib.hid g3
 unfold maxLen at g2
 clear g3
 have low := Below.refl w.heap.size w
 by_cases h20 : 20 < l.length
 ·have h20' : (20 : Int) < l.length := by omega
  rw [show progE k l = 2 by unfold progE; rw [if_pos h20]]
  clear h20
  go_enter Tryz.func70, Tryz.ntmps70
  go_wp2_with fail
  go_ret
  exact ⟨rfl, low⟩
 ·have h20' : ¬ (20 : Int) < l.length := by omega
  have E0 := Lib.hid (show progE k l = ownE k l by unfold progE; rw [if_neg h20])
  rw [E0.out]
  generalize hT : ownE k l = T
  have HT := Lib.hid hT
  clear h20 hT E0
  go_enter Tryz.func70, Tryz.ntmps70
  go_wp2_with fail
  go_loopw [13] (fun i wr => ∃ j : Nat, j ≤ l.length ∧ i = .int .i64 j ∧ Hid (ownE k (l.drop j) = T) ∧ Below w.heap.size w wr) (fun i _ => l.length - (intOf i).toNat)
  case atStart => exact ⟨0, Nat.zero_le _, rfl, Lib.hid (by rw [List.drop_zero]; exact HT.out), low⟩
  case round =>
   clear low
   obtain ⟨j, hj, rfl, hs, low⟩ := hrel
   by_cases hj2 : j < l.length
   ·obtain ⟨b2, o2, rfl, hb2, hc2⟩ := G3.out (by omega)
    have hd : l[j]? = some l[j] := List.getElem?_eq_getElem _
    generalize l[j] = d at hd
    obtain ⟨c0, c1, c2, c3⟩ := deedAt_of hc2 hb2 low hd
    have e := hs.out
    rw [ownE_at hd] at e
    have E := Lib.hid e
    have DF := Lib.hid fun w => atomicRight_any d w
    generalize hde : deedE d = de at DF E
    obtain ⟨dn, dk, da, dv⟩ := d
    simp only at c0 c1 c2 c3
    have j0 : (0 : Int) ≤ j := by omega
    have j1 : (j : Int) < l.length := by omega
    clear hd hc2 hs e hde
    have db := boxNext low 49 #[.int .i64 dn, .int .i64 dk, .int .i64 da, .int .u64 dv]
    replace low := gAlloc low (.cells #[.int .i64 dn, .int .i64 dk, .int .i64 da, .int .u64 dv] 49)
    try simp only [World.size_alloc] at db
    go_wp2_with fail
    (with_reducible refine (DF.out _).mono ?_); rintro e w2 ⟨rfl, hb3⟩
    replace db := db.call hb3
    replace low := gCall low hb3
    clear hb3 c0 c1 c2 c3 DF
    by_cases h0 : de = 0
    ·subst h0
     by_cases h4 : dn = k
     ·have h4' : (dn != k) = false := by simpa using h4
      have NX : Hid (ownE k (l.drop (j + 1)) = T) := Lib.hid (by
       have := E.out
       simpa [h4] using this)
      clear h4 E
      have db_0 := db.at_ 0 rfl
      have db_1 := db.at_ 1 rfl
      have db_2 := db.at_ 2 rfl
      have db_3 := db.at_ 3 rfl
      go_wp2_with fail
      go_roundw
      case rel => exact ⟨j + 1, by omega, by go_num, NX, low⟩
      case measure => simp [intOf]; omega
     ·obtain rfl : 3 = T := by
       have := E.out
       simpa [h4] using this
      have h4' : (dn != k) = true := by simpa using h4
      clear h4 E
      have db_0 := db.at_ 0 rfl
      have db_1 := db.at_ 1 rfl
      have db_2 := db.at_ 2 rfl
      have db_3 := db.at_ 3 rfl
      go_wp2_with fail
      go_ret
      exact ⟨rfl, low⟩
    ·obtain rfl : de = T := by
      have := E.out
      simpa [h0] using this
     have h0' : (de != 0) = true := by simpa using h0
     clear h0 E
     go_wp2_with fail
     go_ret
     exact ⟨rfl, low⟩
   ·obtain rfl : j = l.length := by omega
    obtain rfl : 0 = T := by
     have := hs.out
     rw [List.drop_length] at this
     exact this
    go_wp2_with fail
    go_ret
    exact ⟨rfl, low⟩
set_option maxHeartbeats 2000000 in
theorem progCheck_any (n s y b : Int) (v : Value) (p : List (List Dd)) (w : World) (h : Ps w v p) :
  Calls Tryz.prog 37 #[cfg n s y b, v] w fun e w' => e = .returned (.int .i64 (progsE n s y b p)) ∧ Below w.heap.size w w' := by
 obtain ⟨A, c, rfl, h1, h2, h3⟩ := h.ex
 have H3 := Lib.hid h3
 unfold maxLen at h2
 clear h h3
 have low := Below.refl w.heap.size w
 have cb := boxNext low 23 #[.int .i64 n, .int .i64 s, .int .i64 y, .int .i64 b]
 replace low := gAlloc low (.cells #[.int .i64 n, .int .i64 s, .int .i64 y, .int .i64 b] 23)
 try simp only [World.size_alloc] at cb
 cases hB : cfgB n s y b with
 | false =>
  have C := Lib.hid fun w => check_bad n s y b w hB
  have E := Lib.hid (show progsE n s y b p = 4 by unfold progsE; rw [if_pos hB])
  rw [E.out]
  clear hB E
  go_enter Tryz.func37, Tryz.ntmps37
  go_wp2_with fail
  (with_reducible refine (C.out _).mono ?_); rintro e w1 ⟨rfl, hb⟩
  replace cb := cb.call hb
  replace low := gCall low hb
  clear hb
  go_wp2_with fail
  go_ret
  exact ⟨rfl, low⟩
 | true =>
  have C := Lib.hid fun w => check_ok n s y b w hB
  by_cases hn : (p.length : Int) = n
  ·have E := Lib.hid (show progsE n s y b p = listE 0 p by unfold progsE; rw [if_neg (by rw [hB]; simp), if_neg (by simpa using hn)])
   rw [E.out]
   have hn' : ((p.length : Int) != n) = false := by simpa using hn
   generalize hT : listE 0 p = T
   have HT := Lib.hid hT
   clear hB E hT hn
   go_enter Tryz.func37, Tryz.ntmps37
   go_wp2_with fail
   (with_reducible refine (C.out _).mono ?_); rintro e w1 ⟨rfl, hb⟩
   replace cb := cb.call hb
   replace low := gCall low hb
   clear hb
   have cb_0 := cb.at_ 0 rfl
   have cb_1 := cb.at_ 1 rfl
   have cb_2 := cb.at_ 2 rfl
   have cb_3 := cb.at_ 3 rfl
   go_wp2_with fail
   clear cb_0 cb_1 cb_2 cb_3
   go_loopw [21] (fun i wr => ∃ k : Nat, k ≤ p.length ∧ i = .int .i64 k ∧ Hid (listE k (p.drop k) = T) ∧ Below w.heap.size w wr) (fun i _ => p.length - (intOf i).toNat)
   case atStart => exact ⟨0, Nat.zero_le _, rfl, Lib.hid (by rw [List.drop_zero]; exact HT.out), low⟩
   case round =>
    clear cb low C
    obtain ⟨k, hk, rfl, hs, low⟩ := hrel
    by_cases hlt : k < p.length
    ·obtain ⟨bb, o, rfl, hb, hc⟩ := H3.out (by omega)
     have hx : p[k]? = some p[k] := List.getElem?_eq_getElem _
     generalize p[k] = l at hx
     obtain ⟨A', c', ce, ds⟩ := hc k l hx
     have e := hs.out
     rw [listE_at hx] at e
     have E := Lib.hid e
     have CP := Lib.hid fun w h => checkProgram_any k (.slice A' l.length c') l w h
     replace ce := (low.cell (p := ⟨bb, o + k, none⟩) hb).trans ce
     replace ds := ds.call low
     generalize progE k l = de at E CP
     have k0 : (0 : Int) ≤ k := by omega
     have k1 : (k : Int) < p.length := by omega
     clear hx hc hs e
     go_wp2_with fail
     (with_reducible refine (CP.out _ ds).mono ?_); rintro e w2 ⟨rfl, hb2⟩
     replace low := gCall low hb2
     clear hb2 ce ds CP
     by_cases h0 : de = 0
     ·subst h0
      have NX : Hid (listE ((k + 1 : Nat) : Int) (p.drop (k + 1)) = T) := Lib.hid (by
       have := E.out
       simpa using this)
      clear E
      go_wp2_with fail
      go_roundw
      case rel => exact ⟨k + 1, by omega, by go_num, NX, low⟩
      case measure => simp [intOf]; omega
     ·obtain rfl : de = T := by
       have := E.out
       simpa [h0] using this
      have h0' : (de != 0) = true := by simpa using h0
      clear h0 E
      go_wp2_with fail
      go_ret
      exact ⟨rfl, low⟩
    ·obtain rfl : k = p.length := by omega
     obtain rfl : 0 = T := by
      have := hs.out
      rw [List.drop_length] at this
      exact this
     go_wp2_with fail
     go_ret
     exact ⟨rfl, low⟩
  ·have E := Lib.hid (show progsE n s y b p = 3 by unfold progsE; rw [if_neg (by rw [hB]; simp), if_pos hn])
   have hn' : ((p.length : Int) != n) = true := by simpa using hn
   rw [E.out]
   clear hB E hn
   go_enter Tryz.func37, Tryz.ntmps37
   go_wp2_with fail
   (with_reducible refine (C.out _).mono ?_); rintro e w1 ⟨rfl, hb⟩
   replace cb := cb.call hb
   replace low := gCall low hb
   clear hb
   have cb_0 := cb.at_ 0 rfl
   have cb_1 := cb.at_ 1 rfl
   have cb_2 := cb.at_ 2 rfl
   have cb_3 := cb.at_ 3 rfl
   go_wp2_with fail
   go_ret
   exact ⟨rfl, low⟩
abbrev dd0 : Value := .agg #[.int .i64 0, .int .i64 0, .int .i64 0, .int .u64 0]
def NextIs (l : List Dd) (a : Int) (e : Ending) : Prop :=
 ((l.length : Int) ≤ a ∧ e = .returned (.tuple #[dd0, .bool false, .int .i64 0])) ∨ ∃ (j : Nat) (d : Dd), a = j ∧ l[j]? = some d ∧ e = .returned (.tuple #[d.val, .bool true, .int .i64 0])
theorem next_good (v av : Value) (p : List (List Dd)) (xs : List Int) (k : Nat) (a : Int) (l : List Dd) (w : World) (h : Ps w v p) (ha : Sl w w.heap.size 1 av xs.length (xs.map (Value.int .i64)))
  (hl : xs.length = p.length) (hp : p[k]? = some l) (hx : xs[k]? = some a) (h0 : 0 ≤ a) :
  Calls Tryz.prog 32 #[v, av, .int .i64 k] w fun e w' => NextIs l a e ∧ Below w.heap.size w w' := by
 obtain ⟨A, c, rfl, h1, h2, h3⟩ := h.ex
 obtain ⟨_, A2, c2, rfl, g1, g2, g3⟩ := ha
 have hk := (List.getElem?_eq_some_iff.1 hp).1
 obtain ⟨b, o, rfl, hb, hc⟩ := g3 (by omega)
 obtain ⟨b2, o2, rfl, hb2, hc2⟩ := h3 (by omega)
 obtain ⟨A3, c3, e3, ds⟩ := hc2 k l hp
 have DS := Lib.hid ds
 unfold maxLen at h2 g2
 have low := Below.refl w.heap.size w
 have db := boxNext low 49 #[.int .i64 0, .int .i64 0, .int .i64 0, .int .u64 0]
 replace low := gAlloc low (.cells #[.int .i64 0, .int .i64 0, .int .i64 0, .int .u64 0] 49)
 try simp only [World.size_alloc] at db
 have ca := int_at hc hb low hx
 have cp := (low.cell (p := ⟨b2, o2 + k, none⟩) hb2).trans e3
 have k0 : (0 : Int) ≤ k := by omega
 have k1 : (k : Int) < p.length := by omega
 have k2 : (k : Int) < xs.length := by omega
 have r2' : decide ((p.length : Int) ≤ k) = false := decide_eq_false (by omega)
 have r2n : decide (p.length ≤ k) = false := decide_eq_false (by omega)
 have r3' : ((xs.length : Int) != (p.length : Int)) = false := by simp [hl]
 clear h h3 g3 hc hc2 e3 ds hl hp hx
 by_cases hE : (l.length : Int) ≤ a
 ·have E' : decide ((l.length : Int) ≤ a) = true := decide_eq_true hE
  go_enter Tryz.func32, Tryz.ntmps32
  have db_0 := db.at_ 0 rfl
  have db_1 := db.at_ 1 rfl
  have db_2 := db.at_ 2 rfl
  have db_3 := db.at_ 3 rfl
  go_wp2_with fail
  go_quiet (fail)
  go_wp2_with fail
  refine bodyPost_ret (v := .tuple #[dd0, .bool false, .int .i64 0]) (by simp [results, Tryz.results32, go_sem, db_0, db_1, db_2, db_3]) rfl ⟨.inl ⟨hE, rfl⟩, ?_⟩
  repeat (refine gSet ?_ (by dsimp only; omega) _)
  exact gDrewN low _
 ·have E' : decide ((l.length : Int) ≤ a) = false := decide_eq_false hE
  obtain ⟨j, rfl⟩ : ∃ j : Nat, a = j := ⟨a.toNat, by omega⟩
  have hj : j < l.length := by omega
  have En : decide (l.length ≤ j) = false := decide_eq_false (by omega)
  have hd : l[j]? = some l[j] := List.getElem?_eq_getElem _
  generalize l[j] = d at hd
  obtain ⟨_, A4, c4, e4, g1, g2, g3⟩ := DS.out
  obtain ⟨rfl, rfl⟩ : A3 = A4 ∧ c3 = c4 := by injection e4 with e5 _ e6; exact ⟨e5, e6⟩
  obtain ⟨b3, o3, rfl, hb3, hc3⟩ := g3 (by omega)
  obtain ⟨c0, c1, c2, c3⟩ := deedAt_of hc3 hb3 low hd
  have HD := Lib.hid hd
  unfold maxLen at g2
  have j1 : (j : Int) < l.length := by omega
  clear g3 hc3 hd e4
  go_enter Tryz.func32, Tryz.ntmps32
  have db_f0 := db.frozen 0
  have db_f1 := db.frozen 1
  have db_f2 := db.frozen 2
  have db_f3 := db.frozen 3
  have db_0 := db.at_ 0 rfl
  have db_1 := db.at_ 1 rfl
  have db_2 := db.at_ 2 rfl
  have db_3 := db.at_ 3 rfl
  go_wp2_with fail
  go_quiet (fail)
  go_wp2_with fail
  go_region
  all_goals go_wp2_with fail
  refine bodyPost_ret (v := .tuple #[d.val, .bool true, .int .i64 0]) (by simp [results, Tryz.results32, go_sem, db_0, db_1, db_2, db_3]) rfl ⟨.inr ⟨j, d, rfl, HD.out, rfl⟩, ?_⟩
  repeat (refine gSet ?_ (by dsimp only; omega) _)
  exact gDrewN low _
end Go.Proofs.YtcegjehoejgofaaGreat
namespace Go.Proofs.YtcegjehoejgofaaGreat
open Go.ChangeShapes Go.WideShapes Go.ChangeAt Go.RowKit Go.Joins
def mcL (n s y b : Int) (u : Value) (m : List Int) (rv pv av tv : Value) (h : Int) : List Value :=
 [.int .i64 n, .int .i64 s, .int .i64 y, .int .i64 b] ++ (u :: m.map (Value.int .u64)) ++ [rv, pv, av, tv, .int .i64 h]
def mcA (n s y b : Int) (u : Value) (m : List Int) (rv pv av tv : Value) (h : Int) : Array Value := (mcL n s y b u m rv pv av tv h).toArray
theorem mcL_length {n s y b : Int} {u : Value} {m : List Int} {rv pv av tv : Value} {h : Int} (hm : m.length = 64) : (mcL n s y b u m rv pv av tv h).length = 74 := by simp [mcL, hm]
theorem mcA_size {n s y b : Int} {u : Value} {m : List Int} {rv pv av tv : Value} {h : Int} (hm : m.length = 64) : (mcA n s y b u m rv pv av tv h).size = 74 := by simp [mcA, mcL_length hm]
theorem mcA_tail {n s y b : Int} {u : Value} {m : List Int} {rv pv av tv : Value} {h : Int} (hm : m.length = 64) (j : Nat) : (mcA n s y b u m rv pv av tv h)[69 + j]? = [rv, pv, av, tv, Value.int .i64 h][j]? := by
 unfold mcA mcL
 rw [List.getElem?_toArray, List.getElem?_append_right (by simp [hm])]
 congr 1
 simp [hm]
theorem mcA_head {n s y b : Int} {u : Value} {m : List Int} {rv pv av tv : Value} {h : Int} (j : Nat) (hj : j < 4) : (mcA n s y b u m rv pv av tv h)[j]? = [Value.int .i64 n, .int .i64 s, .int .i64 y, .int .i64 b][j]? := by
 unfold mcA mcL
 rw [List.getElem?_toArray, List.append_assoc, List.getElem?_append_left (by simpa using hj)]
theorem mcA_one {n s y b : Int} {A0 A1 A2 A3 A4 : Option Addr} {n0 n1 n2 n3 n4 c0 c1 c2 c3 c4 : Nat} {m : List Int} {h : Int} : (mcA n s y b (.slice A0 n0 c0) m (.slice A1 n1 c1) (.slice A2 n2 c2) (.slice A3 n3 c3) (.slice A4 n4 c4) h).all (·.oneCell') = true := by
 refine all_oneCell_toArray fun v hv => ?_
 unfold mcL at hv
 rcases List.mem_append.1 hv with hv | hv
 ·rcases List.mem_append.1 hv with hv | hv
  ·simp at hv
   rcases hv with rfl | rfl | rfl | rfl <;> rfl
  ·rcases List.mem_cons.1 hv with rfl | hv
   ·rfl
   ·obtain ⟨x, _, rfl⟩ := List.mem_map.1 hv
    rfl
 ·simp at hv
  rcases hv with rfl | rfl | rfl | rfl | rfl <;> rfl
structure MRead (w : World) (v : Value) (M : Mc) : Prop where
 m64 : M.mem.length = 64
 ex : ∃ u rv pv av tv, v = .agg (mcA M.n M.s M.y M.b u M.mem rv pv av tv M.had) ∧ Ks w u M.css ∧ Rs w rv M.ring ∧ Ps w pv M.pr ∧ Sl w w.heap.size 1 av M.at_.length (M.at_.map (Value.int .i64)) ∧ Sl w w.heap.size 1 tv M.wts.length (M.wts.map (Value.int .i64))
theorem MRead.call {w w' : World} {v : Value} {M : Mc} (h : MRead w v M) (hb : Below w.heap.size w w') : MRead w' v M := by
 obtain ⟨h1, u, rv, pv, av, tv, e, k1, k2, k3, k4, k5⟩ := h
 exact ⟨h1, u, rv, pv, av, tv, e, k1.call hb, k2.call hb, k3.call hb, k4.call hb, k5.call hb⟩
theorem MRead.shape {w : World} {v : Value} {M : Mc} (h : MRead w v M) : ∃ A0 c0 A1 c1 A2 c2 A3 c3 A4 c4, v = .agg (mcA M.n M.s M.y M.b (.slice A0 M.css.length c0) M.mem (.slice A1 M.ring.length c1) (.slice A2 M.pr.length c2) (.slice A3 M.at_.length c3) (.slice A4 M.wts.length c4) M.had) ∧
  Ks w (.slice A0 M.css.length c0) M.css ∧ Rs w (.slice A1 M.ring.length c1) M.ring ∧ Ps w (.slice A2 M.pr.length c2) M.pr ∧ Sl w w.heap.size 1 (.slice A3 M.at_.length c3) M.at_.length (M.at_.map (Value.int .i64)) ∧ Sl w w.heap.size 1 (.slice A4 M.wts.length c4) M.wts.length (M.wts.map (Value.int .i64)) := by
 obtain ⟨_, u, rv, pv, av, tv, rfl, k1, k2, k3, k4, k5⟩ := h
 obtain ⟨A0, c0, rfl⟩ : ∃ A c, u = .slice A M.css.length c := by obtain ⟨A, c, e, _⟩ := k1; exact ⟨A, c, e⟩
 obtain ⟨A1, c1, rfl⟩ := k2.shape
 obtain ⟨A2, c2, rfl⟩ := k3.shape
 obtain ⟨A3, c3, rfl⟩ : ∃ A c, av = .slice A M.at_.length c := by obtain ⟨_, A, c, e, _⟩ := k4; exact ⟨A, c, e⟩
 obtain ⟨A4, c4, rfl⟩ : ∃ A c, tv = .slice A M.wts.length c := by obtain ⟨_, A, c, e, _⟩ := k5; exact ⟨A, c, e⟩
 exact ⟨A0, c0, A1, c1, A2, c2, A3, c3, A4, c4, rfl, k1, k2, k3, k4, k5⟩
end Go.Proofs.YtcegjehoejgofaaGreat
namespace Go.Proofs.YtcegjehoejgofaaGreat
open Go.ChangeShapes Go.WideShapes Go.ChangeAt Go.RowKit Go.Joins
def evN (es : List Ev) : List Int := es.map fun e => e.d.nd
structure Cyc (M1 : Mc) (was P : List Nat) (M : Mc) (es : List Ev) : Prop where
 ok : McOk M
 m64 : M.mem.length = 64
 same : M.n = M1.n ∧ M.s = M1.s ∧ M.y = M1.y ∧ M.b = M1.b ∧ M.pr = M1.pr ∧ M.wts = M1.wts
 alen : M.at_.length = M1.at_.length
 ats : ∀ k : Nat, M.at_.getD k 0 = M1.at_.getD k 0 + if (k : Int) ∈ evN es then 1 else 0
 evs : ∀ e ∈ es, ∃ k : Nat, k ∈ P ∧ e.d.nd = (k : Int)
 nod : (evN es).Nodup
 rlen : M.ring.length = M1.ring.length
 slots : ∀ (i : Nat) x', M.ring[i]? = some x' → ∃ x, M1.ring[i]? = some x ∧ (x' = x ∨ (x.fu = false ∧ ∃ k : Nat, k ∈ P ∧ k ∉ was ∧ x.pl = (k : Int) ∧ ∃ w, 0 ≤ w ∧ w ≤ 9 ∧ x' = ⟨k, true, k, w⟩))
 had : M1.had ≤ M.had ∧ M.had ≤ M1.had + (P.filter fun k => !decide (k ∈ was)).length
 turn : ∀ k : Nat, k ∈ P → (k : Int) ∈ evN es ∨ filB M.ring k = true ∨ opAt M1 k = none ∨ (k ∉ was ∧ ∀ x ∈ M1.ring, freS k x = false)
theorem opAt_some {M : Mc} (h : McOk M) {k : Nat} {d : Dd} (e : opAt M k = some d) : ∃ x l, M.at_[k]? = some x ∧ M.pr[k]? = some l ∧ 0 ≤ x ∧ x < l.length ∧ l[x.toNat]? = some d ∧ d.nd = (k : Int) ∧ deedE d = 0 ∧ (k : Int) < M.n := by
 unfold opAt at e
 cases hl : M.pr[k]? with
 | none => rw [hl] at e; cases e
 | some l =>
  cases hx : M.at_[k]? with
  | none => rw [hl, hx] at e; cases e
  | some x =>
   rw [hl, hx] at e
   simp only [Option.bind_some] at e
   obtain ⟨h0, h1⟩ := h.ats k x l hx hl
   have hi := (List.getElem?_eq_some_iff.1 e).1
   have hk := (List.getElem?_eq_some_iff.1 hl).1
   obtain ⟨p1, p2, p3⟩ := progsE_zero h.prg
   obtain ⟨_, q⟩ := listE_zero.1 p3 k l hl
   obtain ⟨q1, q2⟩ := q d (List.mem_of_getElem? e)
   exact ⟨x, l, rfl, rfl, h0, by omega, e, by omega, q1, by omega⟩
theorem getD_set {a : List Int} {k j : Nat} {x : Int} (hk : k < a.length) : (a.set k x).getD j 0 = if j = k then x else a.getD j 0 := by
 by_cases e : j = k
 ·subst e
  rw [if_pos rfl]
  simp [List.getD, hk]
 ·rw [if_neg e]
  simp [List.getD, List.getElem?_set_ne (fun h => e h.symm)]
theorem Cyc.perf {D : DidF} (hD : DidOk D) {M1 M : Mc} {was P : List Nat} {es : List Ev} (h : Cyc M1 was P M es) {k : Nat} {d : Dd} {bb : Bool} (hk : k ∉ P) (hf : filB M.ring k = false) (e : opAt M k = some d) :
  Cyc M1 was (P ++ [k]) (perf D M k d) (es ++ [perfE M bb d]) := by
 obtain ⟨x, l, hx, hl, x0, x1, hd, hnd, hde, hkn⟩ := opAt_some h.ok e
 have ka := (List.getElem?_eq_some_iff.1 hx).1
 have gx : M.at_.getD k 0 = x := by simp [List.getD, hx]
 have ne : (k : Int) ∉ evN es := by
  intro hm
  obtain ⟨e', he', e2⟩ := List.mem_map.1 hm
  obtain ⟨j, hj, e3⟩ := h.evs e' he'
  have : j = k := by omega
  subst this
  exact hk hj
 have en : evN (es ++ [perfE M bb d]) = evN es ++ [(k : Int)] := by
  unfold evN
  rw [List.map_append]
  show _ ++ [d.nd] = _
  rw [hnd]
 have fields : (Go.Proofs.YtcegjehoejgofaaGreat.perf D M k d).at_ = M.at_.set k (x + 1) ∧ (Go.Proofs.YtcegjehoejgofaaGreat.perf D M k d).ring = M.ring ∧ (Go.Proofs.YtcegjehoejgofaaGreat.perf D M k d).pr = M.pr ∧ (Go.Proofs.YtcegjehoejgofaaGreat.perf D M k d).wts = M.wts ∧ (Go.Proofs.YtcegjehoejgofaaGreat.perf D M k d).had = M.had ∧
   (Go.Proofs.YtcegjehoejgofaaGreat.perf D M k d).n = M.n ∧ (Go.Proofs.YtcegjehoejgofaaGreat.perf D M k d).s = M.s ∧ (Go.Proofs.YtcegjehoejgofaaGreat.perf D M k d).y = M.y ∧ (Go.Proofs.YtcegjehoejgofaaGreat.perf D M k d).b = M.b ∧
   cohE M.n M.s M.y M.b (Go.Proofs.YtcegjehoejgofaaGreat.perf D M k d).css (Go.Proofs.YtcegjehoejgofaaGreat.perf D M k d).mem = 0 ∧ (Go.Proofs.YtcegjehoejgofaaGreat.perf D M k d).mem.length = 64 := by
  unfold Go.Proofs.YtcegjehoejgofaaGreat.perf
  cases hi : idleB M.css d with
  | true => rw [if_pos rfl, gx]; exact ⟨rfl, rfl, rfl, rfl, rfl, rfl, rfl, rfl, rfl, h.ok.coh, h.m64⟩
  | false =>
   rw [if_neg (by simp), gx]
   have := hD M.n M.s M.y M.b M.css M.mem d h.m64 (by unfold findE; rw [if_neg (by simpa using h.ok.coh), if_neg (by simpa using hde), if_neg (by omega)]) hi
   exact ⟨rfl, rfl, rfl, rfl, rfl, rfl, rfl, rfl, rfl, this.1, this.2.1⟩
 obtain ⟨f1, f2, f3, f4, f5, f6, f7, f8, f9, f10, f11⟩ := fields
 generalize Go.Proofs.YtcegjehoejgofaaGreat.perf D M k d = M' at *
 obtain ⟨s1, s2, s3, s4, s5, s6⟩ := h.same
 refine ⟨⟨by rw [f6, f7, f8, f9]; exact f10, by rw [f6, f7, f8, f9, f2]; exact h.ok.rng, by rw [f6, f7, f8, f9, f3]; exact h.ok.prg, by rw [f1, f6, List.length_set]; exact h.ok.len, ?_, by rw [f4]; exact h.ok.wts, by rw [f5]; exact h.ok.had, ?_⟩, f11,
  ⟨f6.trans s1, f7.trans s2, f8.trans s3, f9.trans s4, f3.trans s5, f4.trans s6⟩, by rw [f1, List.length_set]; exact h.alen, ?_, ?_, ?_, by rw [f2]; exact h.rlen, ?_, ?_, ?_⟩
 ·intro j z l' hz hl'
  rw [f1] at hz
  rw [f3] at hl'
  by_cases ej : k = j
  ·subst ej
   rw [List.getElem?_set_self ka] at hz
   cases hz
   rw [hl] at hl'
   cases hl'
   omega
  ·rw [List.getElem?_set_ne ej] at hz
   exact h.ok.ats j z l' hz hl'
 ·intro j z l' hz hl' hfj
  rw [f1] at hz
  rw [f3] at hl'
  rw [f2] at hfj
  by_cases ej : k = j
  ·subst ej
   rw [hf] at hfj
   cases hfj
  ·rw [List.getElem?_set_ne ej] at hz
   exact h.ok.run j z l' hz hl' hfj
 ·intro j
  rw [f1, getD_set ka, en]
  have ih := h.ats j
  by_cases ej : j = k
  ·subst ej
   rw [if_pos rfl, if_pos (by simp)]
   rw [if_neg ne, gx] at ih
   omega
  ·rw [if_neg ej, ih]
   congr 1
   have : (j : Int) ∈ evN es ++ [(k : Int)] ↔ (j : Int) ∈ evN es := by
    rw [List.mem_append, List.mem_singleton]
    constructor
    ·rintro (h | h)
     ·exact h
     ·omega
    ·exact .inl
   simp only [this]
 ·intro e' he'
  rcases List.mem_append.1 he' with he' | he'
  ·obtain ⟨j, hj, e2⟩ := h.evs e' he'
   exact ⟨j, by simp [hj], e2⟩
  ·obtain rfl := List.mem_singleton.1 he'
   exact ⟨k, by simp, hnd⟩
 ·rw [en, List.nodup_append]
  refine ⟨h.nod, by simp, ?_⟩
  intro a ha c hc
  rw [List.mem_singleton] at hc
  subst hc
  rintro rfl
  exact ne ha
 ·intro i x' hx'
  rw [f2] at hx'
  obtain ⟨z, hz, r⟩ := h.slots i x' hx'
  refine ⟨z, hz, ?_⟩
  rcases r with r | ⟨r1, j, r2, r3⟩
  ·exact .inl r
  ·exact .inr ⟨r1, j, by simp [r2], r3⟩
 ·rw [f5, List.filter_append, List.length_append]
  have := h.had
  omega
 ·intro j hj
  rw [f2, en]
  rcases List.mem_append.1 hj with hj | hj
  ·rcases h.turn j hj with r | r | r | r
   ·exact .inl (by simp [r])
   ·exact .inr (.inl r)
   ·exact .inr (.inr (.inl r))
   ·exact .inr (.inr (.inr r))
  ·obtain rfl := List.mem_singleton.1 hj
   exact .inl (by simp)
theorem Cyc.skip {M1 M : Mc} {was P : List Nat} {es : List Ev} (h : Cyc M1 was P M es) {k : Nat} (ht : (k : Int) ∈ evN es ∨ filB M.ring k = true ∨ opAt M1 k = none ∨ (k ∉ was ∧ ∀ x ∈ M1.ring, freS k x = false)) : Cyc M1 was (P ++ [k]) M es := by
 refine ⟨h.ok, h.m64, h.same, h.alen, h.ats, fun e he => ?_, h.nod, h.rlen, fun i x' hx' => ?_, ?_, fun j hj => ?_⟩
 ·obtain ⟨j, hj, e2⟩ := h.evs e he
  exact ⟨j, by simp [hj], e2⟩
 ·obtain ⟨z, hz, r⟩ := h.slots i x' hx'
  refine ⟨z, hz, ?_⟩
  rcases r with r | ⟨r1, j, r2, r3⟩
  ·exact .inl r
  ·exact .inr ⟨r1, j, by simp [r2], r3⟩
 ·rw [List.filter_append, List.length_append]
  have := h.had
  omega
 ·rcases List.mem_append.1 hj with hj | hj
  ·exact h.turn j hj
  ·obtain rfl := List.mem_singleton.1 hj
   exact ht
theorem waitM_ok {M : Mc} (h : McOk M) : 0 ≤ waitM M ∧ waitM M ≤ 9 := by
 unfold waitM
 by_cases e : M.wts.length = 0
 ·rw [if_pos e]; omega
 ·rw [if_neg e]
  have h0 : 0 ≤ M.had % (M.wts.length : Int) := Int.emod_nonneg _ (by omega)
  have h1 : M.had % (M.wts.length : Int) < M.wts.length := Int.emod_lt_of_pos _ (by omega)
  have hw := h.wts
  unfold waitsB at hw
  rw [Bool.and_eq_true, List.all_eq_true] at hw
  have hm : M.wts.getD (M.had % (M.wts.length : Int)).toNat 0 ∈ M.wts := by
   have : (M.had % (M.wts.length : Int)).toNat < M.wts.length := by omega
   rw [List.getD, List.getElem?_eq_getElem this]
   exact List.getElem_mem _
  exact waitB_iff.1 (hw.2 _ hm)
theorem Cyc.put {M1 M : Mc} {was P : List Nat} {es : List Ev} (h : Cyc M1 was P M es) {k : Nat} {d : Dd} (hk : k ∉ P) (hw : k ∉ was) (hf : filB M.ring k = false) (e : opAt M k = some d) (hr : M.ring.any (freS k) = true) (hh : M.had < 1000000) :
  Cyc M1 was (P ++ [k]) { M with ring := putR M.ring k (waitM M), had := M.had + 1 } es := by
 obtain ⟨x, l, hx, hl, x0, x1, hd, hnd, hde, hkn⟩ := opAt_some h.ok e
 obtain ⟨w0, w9⟩ := waitM_ok h.ok
 obtain ⟨c1, c2, c3, c4⟩ := ringE_zero.1 h.ok.rng
 have hnode : nodB M.n k = true := nodB_iff.2 ⟨by omega, hkn⟩
 rw [← idxS_any] at hr
 have hi := of_decide_eq_true hr
 obtain ⟨i, z, ei, hz, hfr, _⟩ : ∃ (i : Nat) (z : Sw), idxS (freS k) M.ring = i ∧ M.ring[i]? = some z ∧ freS k z = true ∧ True := by
  rcases idxS_cases (freS k) M.ring with ⟨e, _⟩ | ⟨i, z, e, hz, hp, _⟩
  ·omega
  ·exact ⟨i, z, e, hz, hp, trivial⟩
 have ep : putR M.ring k (waitM M) = M.ring.set i ⟨k, true, k, waitM M⟩ := by unfold putR; rw [ei, if_neg (by omega), Int.toNat_natCast]
 have hil := (List.getElem?_eq_some_iff.1 hz).1
 have zf : z.fu = false ∧ z.pl = (k : Int) := by
  unfold freS at hfr
  simpa using hfr
 rw [ep]
 refine ⟨⟨h.ok.coh, ?_, h.ok.prg, h.ok.len, h.ok.ats, h.ok.wts, ?_, ?_⟩, h.m64, h.same, h.alen, h.ats, ?_, h.nod, ?_, ?_, ?_, ?_⟩
 ·exact ringE_zero.2 ⟨c1, by simp only [List.length_set]; exact c2, by simp only [List.length_set]; exact c3, c4.put hnode (waitB_iff.2 ⟨w0, w9⟩) hf i⟩
 ·have := h.ok.had
  simp only
  omega
 ·intro j z' l' hz' hl' hfj
  simp only at hz' hl' hfj
  by_cases ej : j = k
  ·subst ej
   rw [hx] at hz'
   rw [hl] at hl'
   cases hz'
   cases hl'
   exact x1
  ·refine h.ok.run j z' l' hz' hl' ?_
   obtain ⟨u, hu, u1, u2⟩ := filB_iff.1 hfj
   rcases List.mem_or_eq_of_mem_set hu with hu | rfl
   ·exact filB_iff.2 ⟨u, hu, u1, u2⟩
   ·simp only at u2
    omega
 ·intro e' he'
  obtain ⟨j, hj, e2⟩ := h.evs e' he'
  exact ⟨j, by simp [hj], e2⟩
 ·simp only [List.length_set]
  exact h.rlen
 ·intro q x' hx'
  simp only at hx'
  by_cases eq : i = q
  ·subst eq
   rw [List.getElem?_set_self hil] at hx'
   cases hx'
   obtain ⟨z1, hz1, r⟩ := h.slots i z hz
   refine ⟨z1, hz1, ?_⟩
   rcases r with rfl | ⟨r1, j, r2, r3, r4, w', _, _, r5⟩
   ·exact .inr ⟨zf.1, k, by simp, hw, zf.2, waitM M, w0, w9, rfl⟩
   ·rw [r5] at zf
    simp at zf
  ·rw [List.getElem?_set_ne eq] at hx'
   obtain ⟨z1, hz1, r⟩ := h.slots q x' hx'
   refine ⟨z1, hz1, ?_⟩
   rcases r with r | ⟨r1, j, r2, r3⟩
   ·exact .inl r
   ·exact .inr ⟨r1, j, by simp [r2], r3⟩
 ·simp only
  rw [List.filter_append, List.length_append, show ([k].filter fun k => !decide (k ∈ was)) = [k] by simp [hw], List.length_singleton]
  have := h.had
  omega
 ·intro j hj
  have grow : ∀ j : Nat, filB M.ring j = true → filB (M.ring.set i ⟨k, true, k, waitM M⟩) j = true := fun j hj => by
   obtain ⟨u, hu, u1, u2⟩ := filB_iff.1 hj
   obtain ⟨q, hq, eu⟩ := List.getElem_of_mem hu
   have : i ≠ q := by
    rintro rfl
    have : M.ring[i]? = some u := by rw [List.getElem?_eq_getElem hq, eu]
    rw [hz] at this
    cases this
    rw [zf.1] at u1
    cases u1
   refine filB_iff.2 ⟨u, ?_, u1, u2⟩
   refine List.mem_of_getElem? (i := q) ?_
   rw [List.getElem?_set_ne this, List.getElem?_eq_getElem hq, eu]
  rcases List.mem_append.1 hj with hj | hj
  ·rcases h.turn j hj with r | r | r | r
   ·exact .inl r
   ·exact .inr (.inl (grow j r))
   ·exact .inr (.inr (.inl r))
   ·exact .inr (.inr (.inr r))
  ·obtain rfl := List.mem_singleton.1 hj
   exact .inr (.inl (filB_iff.2 ⟨_, List.mem_set hil _, rfl, rfl⟩))
theorem opAt_same {M M1 : Mc} {k : Nat} (hp : M.pr = M1.pr) (hl : M.at_.length = M1.at_.length) (ha : M.at_.getD k 0 = M1.at_.getD k 0) : opAt M k = opAt M1 k := by
 unfold opAt
 rw [hp]
 have : M.at_[k]? = M1.at_[k]? := by
  by_cases h : k < M.at_.length
  ·have h' : k < M1.at_.length := by omega
   simp only [List.getD, List.getElem?_eq_getElem h, List.getElem?_eq_getElem h', Option.getD_some] at ha ⊢
   rw [ha]
  ·rw [List.getElem?_eq_none (by omega), List.getElem?_eq_none (by omega)]
 rw [this]
theorem Cyc.op {M1 M : Mc} {was P : List Nat} {es : List Ev} (h : Cyc M1 was P M es) {k : Nat} (hk : k ∉ P) : opAt M k = opAt M1 k := by
 refine opAt_same h.same.2.2.2.2.1 h.alen ?_
 rw [h.ats k, if_neg, Int.add_zero]
 intro hm
 obtain ⟨e', he', e2⟩ := List.mem_map.1 hm
 obtain ⟨j, hj, e3⟩ := h.evs e' he'
 have : j = k := by omega
 subst this
 exact hk hj
theorem perf_ring (D : DidF) (M : Mc) (k : Nat) (d : Dd) : (perf D M k d).ring = M.ring := by
 unfold perf
 split <;> rfl
theorem back_fold {D : DidF} (hD : DidOk D) {M1 : Mc} {was : List Nat} : ∀ (ks P : List Nat) (M : Mc) (es : List Ev), Cyc M1 was P M es → M.ring = M1.ring → ks.Nodup → (∀ k ∈ ks, k ∉ P ∧ filB M1.ring k = false) →
  Cyc M1 was (P ++ ks) (ks.foldl (backS D) (M, es)).1 (ks.foldl (backS D) (M, es)).2 ∧ (ks.foldl (backS D) (M, es)).1.ring = M1.ring
 | [], P, M, es, h, hr, _, _ => by rw [List.append_nil]; exact ⟨h, hr⟩
 | k :: ks, P, M, es, h, hr, hn, ha => by
  obtain ⟨h1, h2⟩ := ha k (by simp)
  obtain ⟨n1, n2⟩ := List.nodup_cons.1 hn
  have next : ∀ j ∈ ks, j ∉ P ++ [k] ∧ filB M1.ring j = false := fun j hj => by
   obtain ⟨a1, a2⟩ := ha j (by simp [hj])
   refine ⟨?_, a2⟩
   rw [List.mem_append, List.mem_singleton]
   rintro (h | rfl)
   ·exact a1 h
   ·exact n1 hj
  rw [List.foldl_cons]
  have e := h.op h1
  rw [show P ++ k :: ks = (P ++ [k]) ++ ks by simp]
  cases ho : opAt M k with
  | none =>
   rw [show backS D (M, es) k = (M, es) by unfold backS; rw [ho]]
   exact back_fold hD ks _ M es (h.skip (.inr (.inr (.inl (e.symm.trans ho))))) hr n2 next
  | some d =>
   rw [show backS D (M, es) k = (perf D M k d, es ++ [perfE M true d]) by unfold backS; rw [ho]]
   exact back_fold hD ks _ _ _ (h.perf hD h1 (by rw [hr]; exact h2) ho) (by rw [perf_ring]; exact hr) n2 next
theorem turn_fold {D : DidF} (hD : DidOk D) {M1 : Mc} {was : List Nat} (hh : M1.had ≤ 999991) : ∀ (j : Nat) (M : Mc) (es : List Ev), j ≤ 8 → Cyc M1 was was M es →
  Cyc M1 was (was ++ List.range j) ((List.range j).foldl (turnS D was) (M, es)).1 ((List.range j).foldl (turnS D was) (M, es)).2
 | 0, M, es, _, h => by rw [List.range_zero, List.append_nil]; exact h
 | j + 1, M, es, h8, h => by
  have ih := turn_fold hD hh j M es (by omega) h
  rw [List.range_succ, List.foldl_append, ← List.append_assoc]
  generalize (List.range j).foldl (turnS D was) (M, es) = S at *
  obtain ⟨M', es'⟩ := S
  simp only at ih
  simp only [List.foldl_cons, List.foldl_nil]
  unfold turnS
  by_cases hw : j ∈ was
  ·rw [if_pos (.inl hw)]
   exact ih.skip (ih.turn j (by simp [hw]))
  ·have hP : j ∉ was ++ List.range j := by simp [hw]
   by_cases hf : filB M'.ring j = true
   ·rw [if_pos (.inr hf)]
    exact ih.skip (.inr (.inl hf))
   ·rw [if_neg (by simp [hw, hf])]
    have hf' : filB M'.ring j = false := by simpa using hf
    have e := ih.op hP
    simp only
    cases ho : opAt M' j with
    | none => exact ih.skip (.inr (.inr (.inl (e.symm.trans ho))))
    | some d =>
     simp only
     by_cases hd : idleB M'.css d = true ∨ hitB M'.css d = true
     ·rw [if_pos hd]
      exact ih.perf hD hP hf' ho
     ·rw [if_neg hd]
      by_cases hr : M'.ring.any (freS j) = true
      ·rw [if_pos hr]
       refine ih.put hP hw hf' ho hr ?_
       have h1 := ih.had.2
       have h2 : ((was ++ List.range j).filter fun k => !decide (k ∈ was)).length ≤ j := by
        rw [List.filter_append, List.length_append]
        have e1 : (was.filter fun k => !decide (k ∈ was)) = [] := by
         rw [List.filter_eq_nil_iff]
         intro a ha
         simp [ha]
        rw [e1, List.length_nil, Nat.zero_add]
        have := List.length_filter_le (fun k => !decide (k ∈ was)) (List.range j)
        rwa [List.length_range] at this
       omega
      ·rw [if_neg hr]
       refine ih.skip (.inr (.inr (.inr ⟨hw, fun x hx => ?_⟩)))
       -- a slot that is free at j stays so until j's turn
       obtain ⟨i, hi, rfl⟩ := List.getElem_of_mem hx
       cases hfr : freS j M1.ring[i] with
       | false => rfl
       | true =>
        exfalso
        have hi' : i < M'.ring.length := by rw [ih.rlen]; exact hi
        obtain ⟨x, hx1, r⟩ := ih.slots i _ (List.getElem?_eq_getElem hi')
        have ex : x = M1.ring[i] := by rw [List.getElem?_eq_getElem hi] at hx1; cases hx1; rfl
        rcases r with r | ⟨r1, q, r2, r3, r4, _⟩
        ·refine hr (List.any_eq_true.2 ⟨_, List.getElem_mem hi', ?_⟩)
         rw [r, ex]
         exact hfr
        ·have : x.pl = (j : Int) := by
          rw [ex]
          unfold freS at hfr
          simp at hfr
          exact hfr.2
         have hq : q ∈ was ∨ q < j := by simpa using r2
         rcases hq with hq | hq
         ·exact r3 hq
         ·omega
theorem adv_ok {M : Mc} (h : McOk M) : McOk (advM M) := by
 obtain ⟨c1, c2, c3, c4⟩ := ringE_zero.1 h.rng
 refine ⟨h.coh, ringE_zero.2 ⟨c1, by simp only [advM, List.length_map]; exact c2, by simp only [advM, List.length_map]; exact c3, c4.step h.nodes.1⟩, h.prg, h.len, h.ats, h.wts, h.had, fun k x l hx hl hf => h.run k x l hx hl ?_⟩
 obtain ⟨u, hu, u1, u2⟩ := filB_iff.1 hf
 obtain ⟨z, hz, rfl⟩ := List.mem_map.1 hu
 obtain ⟨a1, a2⟩ := advS_full u1
 exact filB_iff.2 ⟨z, hz, a1, a2.symm.trans u2⟩
theorem mem_backN {M : Mc} {k : Nat} (h : McOk M) : k ∈ backN M ↔ (k : Int) ∈ backL M.n M.ring := by
 unfold backN
 rw [List.mem_filter, List.mem_range, decide_eq_true_eq]
 constructor
 ·exact fun h => h.2
 ·intro hb
  refine ⟨?_, hb⟩
  obtain ⟨x, hx, _, hd⟩ := mem_backL.1 hb
  obtain ⟨_, _, _, ok⟩ := ringE_zero.1 h.rng
  have := (nodB_iff.1 (ok.each x hx).2.1).2
  omega
theorem back_gone {M : Mc} (h : McOk M) {k : Nat} (hk : k ∈ backN M) : filB (advM M).ring k = false := by
 rw [filB_no]
 intro u hu u1 u2
 obtain ⟨z, hz, rfl⟩ := List.mem_map.1 hu
 obtain ⟨a1, a2⟩ := advS_full u1
 obtain ⟨_, _, _, ok⟩ := ringE_zero.1 h.rng
 have hb := (mem_backN h).1 hk
 rw [← u2, a2] at hb
 have := (ok.told (n := M.n) hz a1).1 hb
 unfold retS at this
 rw [a1, u1] at this
 cases this
theorem cyc_mid {D : DidF} (hD : DidOk D) {M : Mc} (h : McOk M) (hm : M.mem.length = 64) (hh : M.had ≤ 999991) : Cyc (advM M) (backN M) (backN M ++ List.range M.n.toNat) (cycM D M).1 (cycM D M).2 := by
 have ok1 := adv_ok h
 have st : Cyc (advM M) (backN M) [] (advM M) [] := ⟨ok1, hm, ⟨rfl, rfl, rfl, rfl, rfl, rfl⟩, rfl, fun k => by simp [evN], by simp, by simp [evN], rfl, fun i x' hx' => ⟨x', hx', .inl rfl⟩, by simp, by simp⟩
 have nd : (backN M).Nodup := by
  unfold backN
  exact (List.nodup_range).filter _
 have b := back_fold hD (backN M) [] (advM M) [] st rfl nd (fun k hk => ⟨by simp, back_gone h hk⟩)
 rw [List.nil_append] at b
 exact turn_fold (M1 := advM M) hD (show (advM M).had ≤ 999991 from hh) M.n.toNat _ _ (by have := h.nodes; omega) b.1
end Go.Proofs.YtcegjehoejgofaaGreat
namespace Go.Proofs.YtcegjehoejgofaaGreat
open Go.ChangeShapes Go.WideShapes Go.ChangeAt Go.RowKit Go.Joins
end Go.Proofs.YtcegjehoejgofaaGreat
namespace Go.Proofs.YtcegjehoejgofaaGreat
open Go.ChangeShapes Go.WideShapes Go.ChangeAt Go.RowKit Go.Joins
def endB (M : Mc) : Bool := (List.range M.at_.length).all fun k => decide (M.at_.getD k 0 = ((M.pr.getD k []).length : Int))
def runC (D : DidF) : Nat → Mc → Mc × List Ev
 | 0, M => (M, [])
 | c + 1, M => if endB M = true then (M, []) else ((runC D c (cycM D M).1).1, (cycM D M).2 ++ (runC D c (cycM D M).1).2)
def runF (D : DidF) : Nat → Mc → Int
 | 0, _ => 0
 | c + 1, M => if endB M = true then 0 else if 999991 < M.had then 7 else runF D c (cycM D M).1
theorem run_ended {D : DidF} {M : Mc} (h : endB M = true) (c : Nat) : runC D c M = (M, []) ∧ runF D c M = 0 := by
 cases c with
 | zero => exact ⟨rfl, rfl⟩
 | succ c => unfold runC runF; rw [if_pos h, if_pos h]; exact ⟨rfl, rfl⟩
theorem sum_diff {α : Type} (f g h : α → Int) : ∀ (l : List α), (∀ x ∈ l, f x = g x + h x) → (l.map f).sum = (l.map g).sum + (l.map h).sum
 | [], _ => by simp
 | x :: r, e => by
  have ih := sum_diff f g h r (fun y hy => e y (by simp [hy]))
  have := e x (by simp)
  simp only [List.map_cons, List.sum_cons]
  omega
theorem sum_zero {α : Type} (f : α → Int) : ∀ (l : List α), (∀ x ∈ l, f x = 0) → (l.map f).sum = 0
 | [], _ => by simp
 | x :: r, e => by
  have ih := sum_zero f r (fun y hy => e y (by simp [hy]))
  have := e x (by simp)
  simp only [List.map_cons, List.sum_cons]
  omega
theorem sum_one (k : Nat) : ∀ N : Nat, k < N → ((List.range N).map fun (j : Nat) => if (j : Int) = (k : Int) then (1 : Int) else 0).sum = 1
 | 0, h => absurd h (Nat.not_lt_zero k)
 | N + 1, h => by
  rw [List.range_succ, List.map_append, List.sum_append]
  by_cases e : k = N
  ·subst e
   rw [sum_zero _ (List.range k) (fun x hx => by rw [if_neg]; have := List.mem_range.1 hx; omega)]
   simp
  ·rw [sum_one k N (by omega)]
   simp only [List.map_cons, List.map_nil, List.sum_cons, List.sum_nil]
   rw [if_neg (by omega)]
   omega
theorem sum_count (N : Nat) : ∀ L : List Int, L.Nodup → (∀ a ∈ L, ∃ k : Nat, k < N ∧ a = k) → ((List.range N).map fun (j : Nat) => if (j : Int) ∈ L then (1 : Int) else 0).sum = L.length
 | [], _, _ => by
  rw [sum_zero _ _ (fun x _ => by simp)]
  rfl
 | a :: r, hn, ha => by
  obtain ⟨n1, n2⟩ := List.nodup_cons.1 hn
  obtain ⟨k, hk, rfl⟩ := ha a (by simp)
  have ih := sum_count N r n2 (fun b hb => ha b (by simp [hb]))
  rw [sum_diff _ (fun (j : Nat) => if (j : Int) = (k : Int) then (1 : Int) else 0) (fun (j : Nat) => if (j : Int) ∈ r then (1 : Int) else 0) (List.range N) (fun j _ => ?_), sum_one k N hk, ih, List.length_cons]
  ·push_cast; omega
  ·by_cases e : (j : Int) = (k : Int)
   ·rw [if_pos (by simp [e]), if_pos e, if_neg (by rw [e]; exact n1)]; rfl
   ·rw [if_neg e]
    by_cases e2 : (j : Int) ∈ r
    ·rw [if_pos (by simp [e2]), if_pos e2]; rfl
    ·rw [if_neg (by simp [e2]; omega), if_neg e2]; rfl
def leftM (M : Mc) : Int := ((List.range M.at_.length).map fun k => ((M.pr.getD k []).length : Int) - M.at_.getD k 0).sum
theorem cyc_left {D : DidF} (hD : DidOk D) {M : Mc} (h : McOk M) (hm : M.mem.length = 64) (hh : M.had ≤ 999991) : leftM M = leftM (cycM D M).1 + ((cycM D M).2.length : Int) := by
 have mid := cyc_mid hD h hm hh
 have hl := h.len
 have e1 : (cycM D M).1.at_.length = M.at_.length := mid.alen
 have e2 : (cycM D M).1.pr = M.pr := mid.same.2.2.2.2.1
 have c := sum_count M.at_.length (evN (cycM D M).2) mid.nod (fun a ha => by
  obtain ⟨e', he', rfl⟩ := List.mem_map.1 ha
  obtain ⟨k, hk, e3⟩ := mid.evs e' he'
  refine ⟨k, ?_, e3⟩
  rcases List.mem_append.1 hk with hk | hk
  ·have := List.mem_range.1 (List.mem_filter.1 hk).1
   omega
  ·have := List.mem_range.1 hk
   omega)
 have e4 : (evN (cycM D M).2).length = (cycM D M).2.length := by simp [evN]
 unfold leftM
 rw [e1, e2, ← e4, ← c]
 refine sum_diff _ _ _ _ fun k _ => ?_
 have := mid.ats k
 rw [show (advM M).at_ = M.at_ from rfl] at this
 rw [this]
 omega
theorem McOk.there {M : Mc} (h : McOk M) {k : Nat} (hk : k < M.at_.length) : ∃ x l, M.at_[k]? = some x ∧ M.pr[k]? = some l ∧ M.at_.getD k 0 = x ∧ M.pr.getD k [] = l ∧ 0 ≤ x ∧ x ≤ l.length := by
 have hp := h.prs
 have e1 : M.at_[k]? = some M.at_[k] := List.getElem?_eq_getElem _
 have e2 : M.pr[k]? = some (M.pr[k]'(by omega)) := List.getElem?_eq_getElem _
 refine ⟨_, _, e1, e2, by simp [List.getD, e1], by simp [List.getD, e2], h.ats k _ _ e1 e2⟩
theorem run_ok {D : DidF} (hD : DidOk D) : ∀ (c : Nat) (M : Mc), McOk M → M.mem.length = 64 → runF D c M = 0 → McOk (runC D c M).1 ∧ (runC D c M).1.mem.length = 64
 | 0, M, h, hm, _ => ⟨h, hm⟩
 | c + 1, M, h, hm, hr => by
  by_cases he : endB M = true
  ·rw [(run_ended he (c + 1)).1]
   exact ⟨h, hm⟩
  ·unfold runF at hr
   rw [if_neg he] at hr
   by_cases hf : 999991 < M.had
   ·rw [if_pos hf] at hr; cases hr
   ·rw [if_neg hf] at hr
    have mid := cyc_mid hD h hm (by omega)
    have := run_ok hD c (cycM D M).1 mid.ok mid.m64 hr
    rw [runC, if_neg he]
    exact this
end Go.Proofs.YtcegjehoejgofaaGreat
namespace Go.Proofs.YtcegjehoejgofaaGreat
open Go.ChangeShapes Go.WideShapes Go.ChangeAt Go.RowKit Go.Joins
theorem exec_loadW {T : TypeId} {z : Array Value} (ty : Ty T z) {ρ : Operand → Value} {dst : Option Tmp} {t : TypeId} {pos : String} {after : Array Edge} {gd : Option (Nat × Bool)} {x : Operand} {g o : Nat} {cs : Array Value} {w : World} (hx : ρ x = .pointer (some ⟨g, o, none⟩)) (hc : w.rangeAt g o cs.toList) (hs : cs.size = z.size) :
  (execOp ρ ⟨dst, .load T x, t, pos, after, gd⟩).run Tryz.prog w = .ok (.value (.agg cs)) w := by
 unfold execOp
 simp only [hx, Instr.loadAt, Instr.sureAddr, Sem.run_bind, Sem.run_pure, Result.andThen_ok, load_whole ty hc hs]
end Go.Proofs.YtcegjehoejgofaaGreat
namespace Go.Proofs.YtcegjehoejgofaaGreat
open Go.ChangeShapes Go.WideShapes Go.ChangeAt Go.RowKit Go.Joins
theorem plc_here {n s y b : Int} {css : List (List St)} {m : List Int} {d : Dd} (he : findE n s y b css m d = 0) : Plc css d d.nd.toNat (lineN d) := by
 obtain ⟨i0, L, h1, h2, h3, r, h4, h5⟩ := plc_of he
 have e1 : d.nd.toNat = i0 := by rw [h1]; rfl
 have e2 : lineN d = L := by
  unfold lineN
  rw [h5]
  omega
 rw [e1, e2]
 exact ⟨h1, h2, h3, r, h4, h5⟩
theorem idle_iff {css : List (List St)} {d : Dd} : idleB css d = true ↔ d.kd = 4 ∧ fnd (css.getD d.nd.toNat []) (lineN d) = none := by
 unfold idleB
 simp
def DoesIs (n s y b : Int) (css : List (List St)) (m : List Int) (d : Dd) (x : List (List St) × List Int) : Prop :=
 ∃ out, Did n s y b css m d d.nd.toNat (lineN d) x.1 out ∧ x.2 = keepM m out ∧ ∀ v w, Ks w v css → Calls Tryz.prog 85 #[cfg n s y b, wldV v m, d.val] w (GaveW n s y b css m d d.nd.toNat (lineN d) x.1 out w)
theorem does_some {n s y b : Int} {css : List (List St)} {m : List Int} {d : Dd} (hm : m.length = 64) (he : findE n s y b css m d = 0) (hi : idleB css d = false) : ∃ x, DoesIs n s y b css m d x := by
 rcases deedDo_is hm he (plc_here he) with ⟨h1, h2, _⟩ | ⟨_, css', out, did, h⟩
 ·exfalso
  rw [idle_iff.2 ⟨h1, h2⟩] at hi
  cases hi
 ·exact ⟨(css', keepM m out), out, did, rfl, h⟩
open Classical in
noncomputable def didF : DidF := fun n s y b css m d => if h : ∃ x, DoesIs n s y b css m d x then Classical.choose h else ([], [])
theorem didF_is {n s y b : Int} {css : List (List St)} {m : List Int} {d : Dd} (hm : m.length = 64) (he : findE n s y b css m d = 0) (hi : idleB css d = false) : DoesIs n s y b css m d (didF n s y b css m d) := by
 have h := does_some hm he hi
 unfold didF
 rw [dif_pos h]
 exact Classical.choose_spec h
theorem didF_ok : DidOk didF := by
 intro n s y b css m d hm he hi
 obtain ⟨out, did, e, _⟩ := didF_is hm he hi
 rw [e]
 exact ⟨did.ok, keepM_length hm out, did.flat⟩
theorem do_idle {n s y b : Int} {css : List (List St)} {m : List Int} {d : Dd} (hm : m.length = 64) (he : findE n s y b css m d = 0) (hi : idleB css d = true) :
  ∀ v w, Ks w v css → Calls Tryz.prog 85 #[cfg n s y b, wldV v m, d.val] w fun e w' => e = .returned (.tuple #[.agg nilW, .agg done0, .int .i64 5]) ∧ Below w.heap.size w w' := by
 rcases deedDo_is hm he (plc_here he) with ⟨_, _, h⟩ | ⟨h, _⟩
 ·exact h
 ·exact absurd (idle_iff.1 hi) h
theorem hit_here {n s y b : Int} {css : List (List St)} {m : List Int} {d : Dd} (hm : m.length = 64) (he : findE n s y b css m d = 0) (v : Value) (w : World) (h : Ks w v css) :
  Calls Tryz.prog 88 #[cfg n s y b, wldV v m, d.val] w fun e w' => e = .returned (.tuple #[.bool (hitB css d), .int .i64 0]) ∧ Below w.heap.size w w' := by
 obtain ⟨h1, h2, h3⟩ := findE_ok he
 obtain ⟨hnd, hlt, hL, r, hr, ha⟩ := plc_here he
 have := hit_is n s y b v m css d w h hm (lineN d) (stO (fnd (css.getD d.nd.toNat []) (lineN d))) _ _ 0 (fun _ => (deedE_ok h2).2.1) (Lib.hid fun w h => find_ok n s y b v m css d d.nd.toNat (lineN d) r w h hm he hnd hlt hL hr ha)
 simpa [hitB] using this
end Go.Proofs.YtcegjehoejgofaaGreat
namespace Go.Proofs.YtcegjehoejgofaaGreat
open Go.ChangeShapes Go.WideShapes Go.ChangeAt Go.RowKit Go.Joins
theorem tyMach : Ty 37 (mcA 0 0 0 0 (.slice none 0 0) zeroL (.slice none 0 0) (.slice none 0 0) (.slice none 0 0) (.slice none 0 0) 0) := ⟨by kernel_rfl, ⟨_, Tryz.underlying37, rfl⟩, fun w => by kernel_rfl⟩
def mc0 : Value := .agg (mcA 0 0 0 0 (.slice none 0 0) zeroL (.slice none 0 0) (.slice none 0 0) (.slice none 0 0) (.slice none 0 0) 0)
noncomputable def cyc (M : Mc) : Mc × List Ev := cycM didF M
noncomputable def runE' (M : Mc) (c : Int) : Int := if mcE M ≠ 0 then mcE M else if c < 0 ∨ 4000 < c then 4 else runF didF c.toNat M
noncomputable def runs (M : Mc) (c : Int) : Mc × List Ev := runC didF c.toNat M
def newMc (n s y b : Int) (css : List (List St)) (k : Nat) (p : List (List Dd)) (wts : List Int) : Mc := ⟨n, s, y, b, css, zeroL, newR n k k, p, List.replicate n.toNat 0, wts, 0⟩
def newE (n s y b k : Int) (p : List (List Dd)) (wts : List Int) : Int := if cntE n s y b k ≠ 0 then cntE n s y b k else if progsE n s y b p ≠ 0 then progsE n s y b p else if waitsB wts = false then 4 else 0
def GivesM (E : Int) (X : Mc × List Ev) (e : Ending) (w' : World) : Prop :=
 ∃ v u, e = .returned (.tuple #[v, u, .int .i64 E]) ∧ ((E ≠ 0 ∧ v = mc0 ∧ u = .slice none 0 0) ∨ (E = 0 ∧ MRead w' v X.1 ∧ elE.R w' u X.2))
def MCheckIs : Prop := ∀ v M w, MRead w v M → Calls Tryz.prog 21 #[v] w fun e w' => e = .returned (.int .i64 (mcE M)) ∧ Below w.heap.size w w'
def MNewIs : Prop := ∀ (n s y b k : Int) (pv tv : Value) (p : List (List Dd)) (wts : List Int) w, Ps w pv p → Sl w w.heap.size 1 tv wts.length (wts.map (Value.int .i64)) →
 Calls Tryz.prog 17 #[cfg n s y b, .int .i64 k, pv, tv] w fun e w' => (∃ v, e = .returned (.tuple #[v, .int .i64 (newE n s y b k p wts)]) ∧
  ((newE n s y b k p wts ≠ 0 ∧ v = mc0) ∨ (newE n s y b k p wts = 0 ∧ ∃ css, MRead w' v (newMc n s y b css k.toNat p wts) ∧ cohE n s y b css zeroL = 0 ∧ flatW css zeroL = zeroL))) ∧ Below w.heap.size w w'
end Go.Proofs.YtcegjehoejgofaaGreat
namespace Go.Proofs.YtcegjehoejgofaaGreat
open Go.ChangeShapes Go.WideShapes Go.ChangeAt Go.RowKit Go.Joins
theorem mach_wld {w : World} {g : Nat} {t : TypeId} {n s y b : Int} {u : Value} {m : List Int} {rv pv av tv : Value} {hd : Int} (h : Box w g t (mcA n s y b u m rv pv av tv hd)) : w.rangeAt g 4 (wldA u m).toList := fun j x hx => by
 refine h.at_ (4 + j) ?_
 unfold wldA at hx
 have hj := (List.getElem?_eq_some_iff.1 hx).1
 unfold mcA mcL
 rw [List.getElem?_toArray, List.append_assoc, List.getElem?_append_right (by simp), List.getElem?_append_left (by simp at hj ⊢; omega)]
 simpa using hx
theorem mach_cells {w : World} {g : Nat} {t : TypeId} {n s y b : Int} {u : Value} {m : List Int} {rv pv av tv : Value} {hd : Int} (h : Box w g t (mcA n s y b u m rv pv av tv hd)) (hm : m.length = 64) :
  (w.cell? ⟨g, 0, none⟩ = some (.int .i64 n) ∧ w.cell? ⟨g, 1, none⟩ = some (.int .i64 s) ∧ w.cell? ⟨g, 2, none⟩ = some (.int .i64 y) ∧ w.cell? ⟨g, 3, none⟩ = some (.int .i64 b)) ∧
  w.cell? ⟨g, 69, none⟩ = some rv ∧ w.cell? ⟨g, 70, none⟩ = some pv ∧ w.cell? ⟨g, 71, none⟩ = some av ∧ w.cell? ⟨g, 72, none⟩ = some tv ∧ w.cell? ⟨g, 73, none⟩ = some (.int .i64 hd) :=
 ⟨⟨h.at_ 0 (mcA_head 0 (by omega)), h.at_ 1 (mcA_head 1 (by omega)), h.at_ 2 (mcA_head 2 (by omega)), h.at_ 3 (mcA_head 3 (by omega))⟩,
  h.at_ 69 (mcA_tail hm 0), h.at_ 70 (mcA_tail hm 1), h.at_ 71 (mcA_tail hm 2), h.at_ 72 (mcA_tail hm 3), h.at_ 73 (mcA_tail hm 4)⟩
end Go.Proofs.YtcegjehoejgofaaGreat
namespace Go.Proofs.YtcegjehoejgofaaGreat
open Go.ChangeShapes Go.WideShapes Go.ChangeAt Go.RowKit Go.Joins
end Go.Proofs.YtcegjehoejgofaaGreat
namespace Go.Proofs.YtcegjehoejgofaaGreat
open Go.ChangeShapes Go.WideShapes Go.ChangeAt Go.RowKit Go.Joins
theorem info_deed : (Tryz.prog.info? 49).map (fun i => (i.zero, i.size, i.bytes)) = some (some (.agg #[.int .i64 0, .int .i64 0, .int .i64 0, .int .u64 0]), 4, 32) := by kernel_rfl
def elD : El Dd where
 F := Dd.cells
 sz := 4
 t := 49
 len := fun _ => rfl
 pos := by decide
 one := fun x u hu => by
  simp at hu
  rcases hu with rfl | rfl | rfl | rfl <;> rfl
 size := by kernel_rfl
theorem cloneDeeds_any (v : Value) (l : List Dd) (w : World) (h : Ds w v l) (h8 : l.length ≤ 200) :
  Calls Tryz.prog 74 #[v] w fun e w' => (∃ v', e = .returned v' ∧ w'.ownsRow w.heap.size 49 4 v' l.length (deedsC l)) ∧ Below w.heap.size w w' := by
 obtain ⟨hl, A, c, rfl, h1, h2, h3⟩ := h
 obtain ⟨i0, hi, hz0, hz1, hz2⟩ := info_parts info_deed
 have HI := Lib.hid hi
 have HZ := Lib.hid (And.intro hz0 (And.intro hz1 hz2))
 have HL := Lib.hid hl
 have H3 := Lib.hid h3
 clear hl h3 hi hz0 hz1 hz2
 cases A with
 | none =>
  have e0 : l = [] := by
   cases l with
   | nil => rfl
   | cons x r =>
    obtain ⟨b, o, e, _⟩ := H3.out (by simp)
    cases e
  subst e0
  have en : ∀ w, (binOp .eql 85 (.slice none 0 c) (.slice none 0 0)).run Tryz.prog w = .ok (.bool true) w := fun w => by kernel_rfl
  clear HL H3 HI HZ
  go_enter Tryz.func74, Tryz.ntmps74
  try simp only [List.length_nil]
  go_wp2_with fail
  go_ret
  exact ⟨⟨_, rfl, World.ownsRow_nil _ _ _ _⟩, Below.refl _ _⟩
 | some ad =>
  have HC := Lib.hid (show ∀ j u, (deedsC l)[j]? = some u → w.cell? (ad.add j) = some u from fun j u hu => by
   have hj := (List.getElem?_eq_some_iff.1 hu).1
   rw [deedsC_length] at hj
   obtain ⟨b, o, e, _, hc⟩ := H3.out (by omega)
   cases e
   have ee : (⟨b, o, none⟩ : Addr).add j = ⟨b, o + j, none⟩ := by cases j <;> simp [Addr.add]
   rw [ee]
   exact hc j u hu)
  have HB := Lib.hid (show ∀ j u, (deedsC l)[j]? = some u → (ad.add j).block < w.heap.size from fun j u hu => block_lt_of_cell (HC.out j u hu))
  have en : ∀ w, (binOp .eql 85 (.slice (some ad) l.length c) (.slice none 0 0)).run Tryz.prog w = .ok (.bool false) w := fun w => by kernel_rfl
  clear H3
  go_enter Tryz.func74, Tryz.ntmps74
  go_wp2_with (at_builtin; refine wpList_append_own _ rfl _ _ 85 rfl w.heap.size 49 i0 (.agg #[.int .i64 0, .int .i64 0, .int .i64 0, .int .u64 0]) 4 32 Tryz.underlying85 HI.out HZ.out.1 HZ.out.2.1 HZ.out.2.2 rfl (by decide) _ 0 [] rfl ?c0 ad l.length c (deedsC l) rfl HL.out ?c1 (elD.C_one l) ?c3 ?c4 ?c5 ?_)
  case c0 => exact ⟨rfl, .inr ⟨w.heap.size, 0, #[], rfl, Nat.le_refl _, Box.new w 49 #[], Nat.le_refl _, Nat.zero_le _, rfl, rfl⟩⟩
  case c1 =>
   intro j u hu
   exact ((Below.refl w.heap.size w).alloc (Nat.le_refl _) _).cell (HB.out j u hu) |>.trans (HC.out j u hu)
  case c3 => unfold maxLen; omega
  case c4 => omega
  case c5 => simp
  intro v' w1 own grow _
  have low : Below w.heap.size w w1 := (gAlloc (Below.refl _ _) _).grown grow (by simp) (fun g e => by simp [Value.ownBlock] at e; omega)
  try simp only [Nat.zero_add, List.nil_append] at own
  have O := Lib.hid own
  clear own grow
  go_wp2_with fail
  go_ret
  exact ⟨⟨_, rfl, O.out⟩, low⟩
end Go.Proofs.YtcegjehoejgofaaGreat
namespace Go.Proofs.YtcegjehoejgofaaGreat
open Go.ChangeShapes Go.WideShapes Go.ChangeAt Go.RowKit Go.Joins
def nilLs (n : Nat) : Array Value := (List.replicate n (.slice none 0 0)).toArray
theorem info_dlist : (Tryz.prog.info? 85).map (fun i => (i.zero, i.size, i.bytes)) = some (some (.slice none 0 0), 1, 24) := by kernel_rfl
theorem make_lists (n : Nat) (hn : n ≤ 200) (w : World) : (Instr.makeSlice 34 (.int .i64 n) (.int .i64 n)).run Tryz.prog w = .ok (.slice (some ⟨w.heap.size, 0, none⟩) n n) (w.alloc (.cells (nilLs n) 85)) := by
 obtain ⟨i0, hi, hz0, hz1, hz2⟩ := info_parts info_dlist
 have := run_make w 34 85 i0 (.slice none 0 0) Tryz.underlying34 hi hz0 .i64 .i64 n n (by omega) (Int.le_refl _) (by rw [hz2]; omega) (by omega)
 rw [this, hz1]
 have e : madeCells (Value.slice none 0 0).cells n = nilLs n := by
  apply Array.ext_getElem?
  intro i
  simp [madeCells, nilLs, Value.cells]
  by_cases h : i < n <;> simp [h, Nat.mod_one]
 simp [e]
theorem own_wider {w : World} {base base' size n : Nat} {e : TypeId} {v : Value} {xs : List Value} (h : w.ownsRow base' e size v n xs) (hb : base ≤ base') : w.ownsRow base e size v n xs := by
 refine ⟨h.1, ?_⟩
 rcases h.2 with h2 | ⟨g, cap, cur, e1, hg, r⟩
 ·exact .inl h2
 ·exact .inr ⟨g, cap, cur, e1, Nat.le_trans hb hg, r⟩
def Done (w : World) (base g n : Nat) (p : List (List Dd)) (j : Nat) (cur : Array Value) : Prop :=
 Box w g 85 cur ∧ cur.size = n ∧ ∀ (k : Nat) l, k < j → p[k]? = some l → ∃ u, cur[k]? = some u ∧ w.ownsRow base 49 4 u l.length (deedsC l)
theorem Done.call {w w' : World} {base g n : Nat} {p : List (List Dd)} {j : Nat} {cur : Array Value} (h : Done w base g n p j cur) (hb : Below w.heap.size w w') : Done w' base g n p j cur := by
 obtain ⟨h1, h2, h3⟩ := h
 refine ⟨h1.call hb, h2, fun k l hk hl => ?_⟩
 obtain ⟨u, e, d⟩ := h3 k l hk hl
 exact ⟨u, e, own_below d hb⟩
theorem Done.next {w : World} {base g n : Nat} {p : List (List Dd)} {j : Nat} {cur : Array Value} {l : List Dd} {u : Value} (h : Done w base g n p j cur) (hj : j < n) (hl : p[j]? = some l) (own : w.ownsRow base 49 4 u l.length (deedsC l)) :
  Done (w.setCell ⟨g, j, none⟩ u) base g n p (j + 1) (cur.setIfInBounds j u) := by
 obtain ⟨h1, h2, h3⟩ := h
 have st : Stored w g (w.setCell ⟨g, j, none⟩ u) := Stored.cell1 w ⟨g, j, none⟩ u
 refine ⟨h1.set j u, by simp [h2], fun k l' hk hl' => ?_⟩
 by_cases e : k = j
 ·subst e
  rw [hl] at hl'
  cases hl'
  exact ⟨u, by rw [Array.getElem?_setIfInBounds_self_of_lt (by omega)], own_stored own st (own_ne own h1 (by decide))⟩
 ·obtain ⟨u', e', d⟩ := h3 k l' (by omega) hl'
  refine ⟨u', ?_, own_stored d st (own_ne d h1 (by decide))⟩
  rw [Array.getElem?_setIfInBounds_ne (fun h => e h.symm)]
  exact e'
theorem Done.all {w : World} {base g : Nat} {p : List (List Dd)} {cur : Array Value} (h : Done w base g p.length p p.length cur) (hn : p.length ≤ 8) : Ps w (.slice (some ⟨g, 0, none⟩) p.length p.length) p := by
 obtain ⟨h1, h2, h3⟩ := h
 refine ⟨some ⟨g, 0, none⟩, p.length, rfl, Nat.le_refl _, by unfold maxLen; omega, fun _ => ⟨g, 0, rfl, h1.lt, fun k l hk => ?_⟩⟩
 obtain ⟨u, e, d⟩ := h3 k l (List.getElem?_eq_some_iff.1 hk).1 hk
 obtain ⟨A, c, rfl⟩ := own_shape d
 refine ⟨A, c, ?_, ⟨Sl.ofOwn d⟩⟩
 rw [Nat.zero_add]
 exact h1.at_ k e
set_option maxRecDepth 10000 in
set_option maxHeartbeats 4000000 in
theorem cloneProgs_any (v : Value) (p : List (List Dd)) (w : World) (h : Ps w v p) (h8 : p.length ≤ 8) (h20 : ∀ (k : Nat) l, p[k]? = some l → l.length ≤ 20) :
  Calls Tryz.prog 40 #[v] w fun e w' => (∃ v', e = .returned v' ∧ ∃ g cur, v' = .slice (some ⟨g, 0, none⟩) p.length p.length ∧ w.heap.size ≤ g ∧ p.length ≤ 8 ∧ Done w' w.heap.size g p.length p p.length cur) ∧ Below w.heap.size w w' := by
 obtain ⟨A, c, rfl, h1, h2, h3⟩ := h
 have H3 := Lib.hid h3
 have MK := fun W => make_lists p.length (by omega) W
 have CD := Lib.hid fun (u : Value) l W (hd : Ds W u l) hl => cloneDeeds_any u l W hd hl
 unfold maxLen at h2
 clear h3
 have low := Below.refl w.heap.size w
 have xb := Box.new w 85 (nilLs p.length)
 go_enter Tryz.func40, Tryz.ntmps40
 go_wp2_with fail
 have D0 := Lib.hid (show Done (w.alloc (.cells (nilLs p.length) 85)) w.heap.size w.heap.size p.length p 0 (nilLs p.length) from ⟨xb, by simp [nilLs], fun k l hk => by omega⟩)
 replace low := gAlloc low (.cells (nilLs p.length) 85)
 clear xb MK
 go_loopw [11] (fun i wr => ∃ (j : Nat) (cur : Array Value), j ≤ p.length ∧ i = .int .i64 j ∧ Hid (Done wr w.heap.size w.heap.size p.length p j cur) ∧ Below w.heap.size w wr) (fun i _ => p.length - (intOf i).toNat)
 case atStart => exact ⟨0, _, Nat.zero_le _, rfl, D0, low⟩
 case round =>
  clear low D0
  obtain ⟨j, cur, hj, rfl, D, low⟩ := hrel
  by_cases hlt : j < p.length
  ·obtain ⟨b, o, rfl, hb, hc⟩ := H3.out (by omega)
   have hx : p[j]? = some p[j] := List.getElem?_eq_getElem _
   generalize p[j] = l at hx
   obtain ⟨A', c', cl, ds⟩ := hc j l hx
   have cx := (low.cell (p := ⟨b, o + j, none⟩) hb).trans cl
   have CC := Lib.hid (CD.out _ l wr (ds.call low) (by have := h20 j l hx; omega))
   have HX := Lib.hid hx
   have j0 : (0 : Int) ≤ j := by omega
   have j1 : (j : Int) < p.length := by omega
   have lw := low.size
   clear hc hx cl ds
   go_wp2_with fail
   (with_reducible refine CC.out.mono ?_); rintro e w2 ⟨⟨v', rfl, own⟩, hb2⟩
   replace D := Lib.hid (D.out.call hb2)
   replace low := gCall low hb2
   replace own := own_wider own lw
   clear hb2 CC cx
   obtain ⟨bx, bs, _⟩ := D.out
   have e5 : cur[j]? = some cur[j] := Array.getElem?_eq_getElem _
   have cz := bx.at_ j e5
   have zf := bx.frozen j
   obtain ⟨A5, c5, rfl⟩ := own_shape own
   have D2 := Lib.hid (D.out.next hlt HX.out own)
   have st : Stored w2 w.heap.size (w2.setCell ⟨w.heap.size, j, none⟩ (.slice A5 l.length c5)) := Stored.cell1 w2 ⟨w.heap.size, j, none⟩ _
   have low2 := st.low low (Nat.le_refl _)
   clear own e5 D st
   go_wp2_with fail
   go_roundw
   case rel => exact ⟨j + 1, _, by omega, by go_num, D2, low2⟩
   case measure => simp [intOf]; omega
  ·obtain rfl : j = p.length := by omega
   go_wp2_with fail
   go_ret
   exact ⟨⟨_, rfl, _, _, rfl, Nat.le_refl _, h8, D.out⟩, low⟩
end Go.Proofs.YtcegjehoejgofaaGreat
namespace Go.Proofs.YtcegjehoejgofaaGreat
open Go.ChangeShapes Go.WideShapes Go.ChangeAt Go.RowKit Go.Joins
theorem boxNe {w : World} {g g' : Nat} {t t' : TypeId} {cs cs' : Array Value} (h : Box w g t cs) (h' : Box w g' t' cs') (ht : t ≠ t') : g ≠ g' := by
 rintro rfl
 unfold Box at h h'
 rw [h] at h'
 cases h'
 exact ht rfl
theorem setCells_mid {g : Nat} {t : TypeId} : ∀ (vs a b c : List Value) {w : World}, b.length = vs.length → Box w g t (a ++ (b ++ c)).toArray → Box (w.setCells g a.length vs) g t (a ++ (vs ++ c)).toArray
 | [], a, [], c, w, _, h => h
 | [], a, _ :: _, c, w, hl, h => by simp at hl
 | v :: vs, a, [], c, w, hl, h => by simp at hl
 | v :: vs, a, x :: b, c, w, hl, h => by
  have h1 := h.set a.length v
  have e : (a ++ (x :: b ++ c)).toArray.setIfInBounds a.length v = ((a ++ [v]) ++ (b ++ c)).toArray := by simp
  rw [e] at h1
  have := setCells_mid vs (a ++ [v]) b c (by simpa using hl) h1
  simpa [World.setCells] using this
def runL (n s y b : Int) (u : Value) (m : List Int) (rv pv av tv : Value) (h : Int) (ev : Value) : List Value :=
 ([.int .i64 n, .int .i64 s, .int .i64 y, .int .i64 b] : List Value) ++ ((u :: m.map (Value.int .u64)) ++ [rv, pv, av, tv, .int .i64 h, ev])
def runA (n s y b : Int) (u : Value) (m : List Int) (rv pv av tv : Value) (h : Int) (ev : Value) : Array Value := (runL n s y b u m rv pv av tv h ev).toArray
section
variable {n s y b h : Int} {u rv pv av tv ev : Value} {m : List Int}
theorem runL_mach : runL n s y b u m rv pv av tv h ev = mcL n s y b u m rv pv av tv h ++ [ev] := by
 unfold runL mcL
 simp
theorem runA_size (hm : m.length = 64) : (runA n s y b u m rv pv av tv h ev).size = 75 := by
 unfold runA
 rw [runL_mach]
 simp [mcL_length hm]
theorem runA_mach {j : Nat} {x : Value} (e : (mcA n s y b u m rv pv av tv h)[j]? = some x) : (runA n s y b u m rv pv av tv h ev)[j]? = some x := by
 unfold runA
 unfold mcA at e
 rw [List.getElem?_toArray] at e ⊢
 rw [runL_mach, List.getElem?_append_left (List.getElem?_eq_some_iff.1 e).1]
 exact e
theorem runA_ev (hm : m.length = 64) : (runA n s y b u m rv pv av tv h ev)[74]? = some ev := by
 unfold runA
 rw [List.getElem?_toArray, runL_mach, List.getElem?_append_right (by rw [mcL_length hm]; omega), mcL_length hm]
 rfl
theorem runA_set (hm : m.length = 64) (j : Nat) (v : Value) : (runA n s y b u m rv pv av tv h ev).setIfInBounds (69 + j) v =
  (([.int .i64 n, .int .i64 s, .int .i64 y, .int .i64 b] : List Value) ++ ((u :: m.map (Value.int .u64)) ++ ([rv, pv, av, tv, .int .i64 h, ev] : List Value).set j v)).toArray := by
 unfold runA runL
 rw [List.setIfInBounds_toArray]
 congr 1
 rw [List.set_append_right _ _ (by simp; omega), List.set_append_right _ _ (by simp [hm]; omega)]
 congr 3
 simp [hm]
 omega
theorem runA_ring (hm : m.length = 64) (v : Value) : (runA n s y b u m rv pv av tv h ev).setIfInBounds 69 v = runA n s y b u m v pv av tv h ev := runA_set hm 0 v
theorem runA_had (hm : m.length = 64) (x : Int) : (runA n s y b u m rv pv av tv h ev).setIfInBounds 73 (.int .i64 x) = runA n s y b u m rv pv av tv x ev := runA_set hm 4 _
theorem runA_evs (hm : m.length = 64) (v : Value) : (runA n s y b u m rv pv av tv h ev).setIfInBounds 74 v = runA n s y b u m rv pv av tv h v := runA_set hm 5 v
variable {w : World} {g : Nat} {t : TypeId}
theorem run_range (bx : Box w g t (runA n s y b u m rv pv av tv h ev)) : w.rangeAt g 0 (mcA n s y b u m rv pv av tv h).toList := fun j x hx => by
 rw [Nat.zero_add]
 rw [Array.getElem?_toList] at hx
 exact bx.at_ j (runA_mach hx)
theorem run_wld (bx : Box w g t (runA n s y b u m rv pv av tv h ev)) : w.rangeAt g 4 (wldA u m).toList := fun j x hx => by
 refine bx.at_ (4 + j) ?_
 unfold wldA at hx
 have hj := (List.getElem?_eq_some_iff.1 hx).1
 unfold runA runL
 rw [List.getElem?_toArray, List.getElem?_append_right (by simp), List.getElem?_append_left (by simp at hj ⊢; omega)]
 simpa using hx
theorem run_cells (bx : Box w g t (runA n s y b u m rv pv av tv h ev)) (hm : m.length = 64) :
  (w.cell? ⟨g, 0, none⟩ = some (.int .i64 n) ∧ w.cell? ⟨g, 1, none⟩ = some (.int .i64 s) ∧ w.cell? ⟨g, 2, none⟩ = some (.int .i64 y) ∧ w.cell? ⟨g, 3, none⟩ = some (.int .i64 b)) ∧
  w.cell? ⟨g, 69, none⟩ = some rv ∧ w.cell? ⟨g, 70, none⟩ = some pv ∧ w.cell? ⟨g, 71, none⟩ = some av ∧ w.cell? ⟨g, 72, none⟩ = some tv ∧ w.cell? ⟨g, 73, none⟩ = some (.int .i64 h) ∧ w.cell? ⟨g, 74, none⟩ = some ev :=
 ⟨⟨bx.at_ 0 (runA_mach (mcA_head 0 (by omega))), bx.at_ 1 (runA_mach (mcA_head 1 (by omega))), bx.at_ 2 (runA_mach (mcA_head 2 (by omega))), bx.at_ 3 (runA_mach (mcA_head 3 (by omega)))⟩,
  bx.at_ 69 (runA_mach (mcA_tail hm 0)), bx.at_ 70 (runA_mach (mcA_tail hm 1)), bx.at_ 71 (runA_mach (mcA_tail hm 2)), bx.at_ 72 (runA_mach (mcA_tail hm 3)), bx.at_ 73 (runA_mach (mcA_tail hm 4)), bx.at_ 74 (runA_ev hm)⟩
theorem run_setW (bx : Box w g t (runA n s y b u m rv pv av tv h ev)) (hm : m.length = 64) (u' : Value) {m' : List Int} (hm' : m'.length = 64) :
  Box (w.setCells g 4 (wldA u' m').toList) g t (runA n s y b u' m' rv pv av tv h ev) := by
 have := setCells_mid (u' :: m'.map (Value.int .u64)) ([.int .i64 n, .int .i64 s, .int .i64 y, .int .i64 b] : List Value) (u :: m.map (Value.int .u64)) [rv, pv, av, tv, .int .i64 h, ev] (by simp [hm, hm']) bx
 exact this
end
section
variable {w w' : World} {B C x : Nat} {T : TypeId} {v : Value} {cs : Array Value}
theorem OwnI.kept {g : Nat} {l : List Int} (h : OwnI w g v l) (st : Stored w x w') (hne : g ≠ x) : OwnI w' g v l := by
 obtain ⟨cap, cur, rfl, h1, h2⟩ := h
 exact ⟨cap, cur, rfl, st.box h1 hne, h2⟩
theorem FrS.kept {l : List Sw} (h : FrS w B C v l) (st : Stored w x w') (bx : Box w x T cs) (ht : 122 ≠ T) : FrS w' B C v l := by
 obtain ⟨g, hg, hc, own⟩ := h
 refine ⟨g, hg, hc, own.stored st ?_⟩
 obtain ⟨_, _, _, b2, _⟩ := own
 exact boxNe b2 bx ht
theorem row_kept {base size n : Nat} {e : TypeId} {xs : List Value} (h : w.ownsRow base e size v n xs) (st : Stored w x w') (bx : Box w x T cs) (ht : T ≠ e) : w'.ownsRow base e size v n xs := own_stored h st (own_ne h bx ht)
theorem FrS.frame {l : List Sw} (h : FrS w B C v l) (hk : ∀ h' cs', Box w h' 122 cs' → Box w' h' 122 cs') : FrS w' B C v l := by
 obtain ⟨g, hg, hc, cap, cur, rfl, h1, h2⟩ := h
 exact ⟨g, hg, hc, cap, cur, rfl, hk _ _ h1, h2⟩
end
section
variable {w w' : World} {B C g : Nat} {v u : Value}
def Keeps (w w' : World) (T : TypeId) : Prop := ∀ h cs, Box w h T cs → Box w' h T cs
theorem Fr.map {l : List Wy} (h : Fr w B C v l) (hk : Keeps w w' 114) : Fr w' B C v l := h.imp id fun ⟨g, h1, h2, cap, cur, e, h3, h4⟩ => ⟨g, h1, h2, cap, cur, e, hk _ _ h3, h4⟩
theorem Frx.map {l : List Wy} (h : Frx w B C g u l) (hk : Keeps w w' 114) : Frx w' B C g u l := h.imp (fun k => Fr.map k hk) (fun k => Fr.map k hk)
theorem CFr.map {ss : List St} (h : CFr w B C v ss) (hk : Keeps w w' 114) (hr : Keeps w w' 193) : CFr w' B C v ss := h.imp id fun ⟨g, h1, h2, cap, cur, e, h3, h4, h5, h6, h7⟩ =>
 ⟨g, h1, h2, cap, cur, e, hr _ _ h3, h4, h5, h6, fun q t hq => by
  obtain ⟨u, k1, k2⟩ := h7 q t hq
  exact ⟨u, k1, k2.map hk⟩⟩
theorem KFr.map {css : List (List St)} (h : KFr w B C v css) (hk : Keeps w w' 114) (hr : Keeps w w' 193) (hc : Keeps w w' 160) : KFr w' B C v css := by
 obtain ⟨g, us, e, h1, h2, h3, h4, h5, h6⟩ := h
 refine ⟨g, us, e, h1, h2, h3, h4, hc _ _ h5, fun j sa hs => ?_⟩
 obtain ⟨A, c, k1, B', C', k2, k3, k4, k5⟩ := h6 j sa hs
 exact ⟨A, c, k1, B', C', k2, k3, k4, k5.map hk hr⟩
theorem row_grown {base base' size size' n n' : Nat} {e e' : TypeId} {v0 : Value} {xs xs' : List Value} (d : w.ownsRow base e size v n xs) (grow : w.grownBy w' v0.ownBlock) (h0 : w.ownsRow base' e' size' v0 n' xs') (ht : e ≠ e') : w'.ownsRow base e size v n xs := by
 refine ⟨d.1, ?_⟩
 rcases d.2 with k | ⟨g', cap, cur, rfl, hb, hgg, rest⟩
 ·exact .inl k
 ·exact .inr ⟨g', cap, cur, rfl, hb, Box.grown (show Box w g' e cur from hgg) grow (own_ne h0 (show Box w g' e cur from hgg) ht), rest⟩
end
def PFr (w : World) (B : Nat) (v : Value) (p : List (List Dd)) : Prop := ∃ g cur, v = .slice (some ⟨g, 0, none⟩) p.length p.length ∧ B ≤ g ∧ p.length ≤ 8 ∧ Done w B g p.length p p.length cur
section
variable {w w' : World} {B x : Nat} {v : Value} {p : List (List Dd)}
theorem PFr.call (h : PFr w B v p) (hb : Below w.heap.size w w') : PFr w' B v p := by
 obtain ⟨g, cur, e, h1, h8, h2⟩ := h
 exact ⟨g, cur, e, h1, h8, h2.call hb⟩
theorem PFr.kept {T : TypeId} {cs : Array Value} (h : PFr w B v p) (st : Stored w x w') (bx : Box w x T cs) (h1 : T ≠ 85) (h2 : T ≠ 49) : PFr w' B v p := by
 obtain ⟨g, cur, e, hB, h8, b1, b2, b3⟩ := h
 refine ⟨g, cur, e, hB, h8, st.box b1 (boxNe b1 bx h1.symm), b2, fun k l hk hl => ?_⟩
 obtain ⟨u, e', d⟩ := b3 k l hk hl
 exact ⟨u, e', row_kept d st bx h2⟩
theorem PFr.ps (h : PFr w B v p) : Ps w v p := by
 obtain ⟨g, cur, rfl, _, h8, d⟩ := h
 exact d.all h8
end
structure RunS (w : World) (B g ga : Nat) (M : Mc) (ev : List Ev) : Prop where
 m64 : M.mem.length = 64
 gB : B ≤ g
 aB : B ≤ ga
 ex : ∃ A0 c0 A1 c1 A2 c2 A3 c3 A4 c4 A5 c5 Bk Ck Bt,
  Box w g 127 (runA M.n M.s M.y M.b (.slice A0 M.css.length c0) M.mem (.slice A1 M.ring.length c1) (.slice A2 M.pr.length c2) (.slice A3 M.at_.length c3) (.slice A4 M.wts.length c4) M.had (.slice A5 ev.length c5)) ∧
  (KFr w Bk Ck (.slice A0 M.css.length c0) M.css ∧ B ≤ Bk ∧ Ck ≤ w.heap.size ∧ (g < Bk ∨ Ck ≤ g) ∧ (ga < Bk ∨ Ck ≤ ga)) ∧
  FrS w B w.heap.size (.slice A1 M.ring.length c1) M.ring ∧ PFr w B (.slice A2 M.pr.length c2) M.pr ∧ OwnI w ga (.slice A3 M.at_.length c3) M.at_ ∧
  (w.ownsRow Bt 3 1 (.slice A4 M.wts.length c4) M.wts.length (M.wts.map (Value.int .i64)) ∧ ga < Bt ∧ B ≤ Bt) ∧
  w.ownsRow B 51 6 (.slice A5 ev.length c5) ev.length (elE.C ev)
section
variable {w w' : World} {B g ga : Nat} {M : Mc} {ev : List Ev}
theorem RunS.call (h : RunS w B g ga M ev) (hb : Below w.heap.size w w') : RunS w' B g ga M ev := by
 obtain ⟨m64, gB, aB, A0, c0, A1, c1, A2, c2, A3, c3, A4, c4, A5, c5, Bk, Ck, Bt, bx, ⟨k, k1, k2⟩, r, p, a, ⟨t, t1, t2⟩, e⟩ := h
 exact ⟨m64, gB, aB, A0, c0, A1, c1, A2, c2, A3, c3, A4, c4, A5, c5, Bk, Ck, Bt, bx.call hb, ⟨k.call hb, k1, Nat.le_trans k2.1 hb.size, k2.2⟩, (r.call hb).more (Nat.le_refl _) hb.size, p.call hb, a.call hb, ⟨own_below t hb, t1, t2⟩, own_below e hb⟩
theorem RunS.lt (h : RunS w B g ga M ev) : g < w.heap.size ∧ ga < w.heap.size := by
 obtain ⟨m64, gB, aB, A0, c0, A1, c1, A2, c2, A3, c3, A4, c4, A5, c5, Bk, Ck, Bt, bx, ⟨k, k1, k2⟩, r, p, a, ⟨t, t1, t2⟩, e⟩ := h
 exact ⟨bx.lt, a.lt⟩
theorem RunS.read (h : RunS w B g ga M ev) : ∃ A0 c0 A1 c1 A2 c2 A3 c3 A4 c4 A5 c5,
  Box w g 127 (runA M.n M.s M.y M.b (.slice A0 M.css.length c0) M.mem (.slice A1 M.ring.length c1) (.slice A2 M.pr.length c2) (.slice A3 M.at_.length c3) (.slice A4 M.wts.length c4) M.had (.slice A5 ev.length c5)) ∧
  MRead w (.agg (mcA M.n M.s M.y M.b (.slice A0 M.css.length c0) M.mem (.slice A1 M.ring.length c1) (.slice A2 M.pr.length c2) (.slice A3 M.at_.length c3) (.slice A4 M.wts.length c4) M.had)) M ∧
  Ks w (.slice A0 M.css.length c0) M.css ∧ Rs w (.slice A1 M.ring.length c1) M.ring ∧ Ps w (.slice A2 M.pr.length c2) M.pr ∧ Sl w w.heap.size 1 (.slice A3 M.at_.length c3) M.at_.length (M.at_.map (Value.int .i64)) ∧
  Sl w w.heap.size 1 (.slice A4 M.wts.length c4) M.wts.length (M.wts.map (Value.int .i64)) ∧ OwnI w ga (.slice A3 M.at_.length c3) M.at_ ∧ w.ownsRow B 51 6 (.slice A5 ev.length c5) ev.length (elE.C ev) := by
 obtain ⟨m64, gB, aB, A0, c0, A1, c1, A2, c2, A3, c3, A4, c4, A5, c5, Bk, Ck, Bt, bx, ⟨k, k1, k2⟩, r, p, a, ⟨t, t1, t2⟩, e⟩ := h
 exact ⟨A0, c0, A1, c1, A2, c2, A3, c3, A4, c4, A5, c5, bx, ⟨m64, _, _, _, _, _, rfl, k.ks, r.rs, p.ps, a.sl, Sl.ofOwn t⟩, k.ks, r.rs, p.ps, a.sl, Sl.ofOwn t, a, e⟩
def Frame (ga : Nat) (w w' : World) : Prop := ∀ h t cs, t ≠ 127 → t ≠ 51 → h ≠ ga → Box w h t cs → Box w' h t cs
theorem Frame.refl (ga : Nat) (w : World) : Frame ga w w := fun _ _ _ _ _ _ h => h
theorem Frame.trans {w1 w2 w3 : World} (h : Frame ga w1 w2) (k : Frame ga w2 w3) : Frame ga w1 w3 := fun x t cs h1 h2 h3 b => k x t cs h1 h2 h3 (h x t cs h1 h2 h3 b)
theorem Frame.call (hb : Below w.heap.size w w') : Frame ga w w' := fun _ _ _ _ _ _ b => b.call hb
theorem Frame.run {cs : Array Value} (st : Stored w g w') (bx : Box w g 127 cs) : Frame ga w w' := fun _ _ _ h1 _ _ b => st.box b (boxNe b bx h1)
theorem Frame.at_ (st : Stored w ga w') : Frame ga w w' := fun _ _ _ _ _ h3 b => st.box b h3
theorem Frame.row {base size n : Nat} {e : TypeId} {v : Value} {xs : List Value} (f : Frame ga w w') (h : w.ownsRow base e size v n xs) (h1 : e ≠ 127) (h2 : e ≠ 51) (h3 : ga < base) : w'.ownsRow base e size v n xs := by
 refine ⟨h.1, ?_⟩
 rcases h.2 with k | ⟨g', cap, cur, rfl, hb, hgg, rest⟩
 ·exact .inl k
 ·exact .inr ⟨g', cap, cur, rfl, hb, f g' e cur h1 h2 (by omega) hgg, rest⟩
theorem RunS.setRing (h : RunS w B g ga M ev) {v : Value} {l : List Sw} (hr : FrS w B w.heap.size v l) : RunS (w.setCell ⟨g, 69, none⟩ v) B g ga { M with ring := l } ev ∧ Frame ga w (w.setCell ⟨g, 69, none⟩ v) := by
 obtain ⟨m64, gB, aB, A0, c0, A1, c1, A2, c2, A3, c3, A4, c4, A5, c5, Bk, Ck, Bt, bx, ⟨k, k1, k2⟩, r, p, a, ⟨t, t1, t2⟩, e⟩ := h
 have st : Stored w g (w.setCell ⟨g, 69, none⟩ v) := Stored.cell1 w ⟨g, 69, none⟩ v
 have b2 := bx.set 69 v
 rw [runA_ring m64] at b2
 obtain ⟨A, c, rfl⟩ := hr.shape
 obtain ⟨_, _, ea, ab, _⟩ := id a
 refine ⟨⟨m64, gB, aB, A0, c0, A, c, A2, c2, A3, c3, A4, c4, A5, c5, Bk, Ck, Bt, b2, ⟨k.out st (by omega), k1, by rw [st.size]; exact k2.1, k2.2⟩, ?_, p.kept st bx (by decide) (by decide), a.kept st (boxNe ab bx (by decide)), ⟨row_kept t st bx (by decide), t1, t2⟩, row_kept e st bx (by decide)⟩, Frame.run st bx⟩
 rw [st.size]
 exact hr.kept st bx (by decide)
theorem RunS.setHad (h : RunS w B g ga M ev) (x : Int) : RunS (w.setCell ⟨g, 73, none⟩ (.int .i64 x)) B g ga { M with had := x } ev ∧ Frame ga w (w.setCell ⟨g, 73, none⟩ (.int .i64 x)) := by
 obtain ⟨m64, gB, aB, A0, c0, A1, c1, A2, c2, A3, c3, A4, c4, A5, c5, Bk, Ck, Bt, bx, ⟨k, k1, k2⟩, r, p, a, ⟨t, t1, t2⟩, e⟩ := h
 have st : Stored w g (w.setCell ⟨g, 73, none⟩ (.int .i64 x)) := Stored.cell1 w ⟨g, 73, none⟩ _
 have b2 := bx.set 73 (.int .i64 x)
 rw [runA_had m64] at b2
 obtain ⟨_, _, ea, ab, _⟩ := id a
 refine ⟨⟨m64, gB, aB, A0, c0, A1, c1, A2, c2, A3, c3, A4, c4, A5, c5, Bk, Ck, Bt, b2, ⟨k.out st (by omega), k1, by rw [st.size]; exact k2.1, k2.2⟩, ?_, p.kept st bx (by decide) (by decide), a.kept st (boxNe ab bx (by decide)), ⟨row_kept t st bx (by decide), t1, t2⟩, row_kept e st bx (by decide)⟩, Frame.run st bx⟩
 rw [st.size]
 exact r.kept st bx (by decide)
theorem RunS.setWorld (h : RunS w B g ga M ev) {v : Value} {css : List (List St)} {m : List Int} (hm : m.length = 64) {Bk Ck : Nat} (hk : KFr w Bk Ck v css) (hB : B ≤ Bk) (hg : g < Bk) (ha : ga < Bk) (hC : Ck ≤ w.heap.size) :
  RunS (w.setCells g 4 (wldA v m).toList) B g ga { M with css := css, mem := m } ev ∧ Frame ga w (w.setCells g 4 (wldA v m).toList) ∧ Stored w g (w.setCells g 4 (wldA v m).toList) := by
 obtain ⟨m64, gB, aB, A0, c0, A1, c1, A2, c2, A3, c3, A4, c4, A5, c5, Bk', Ck', Bt, bx, ⟨k, k1, k2⟩, r, p, a, ⟨t, t1, t2⟩, e⟩ := h
 have st : Stored w g (w.setCells g 4 (wldA v m).toList) := setCells_stored g _ _ w
 have b2 := run_setW bx m64 v hm
 obtain ⟨A, c, rfl⟩ := hk.shape
 obtain ⟨_, _, ea, ab, _⟩ := id a
 refine ⟨⟨hm, gB, aB, A, c, A1, c1, A2, c2, A3, c3, A4, c4, A5, c5, Bk, Ck, Bt, b2, ⟨hk.out st (.inl hg), hB, by rw [st.size]; exact hC, .inl hg, .inl ha⟩, ?_, p.kept st bx (by decide) (by decide), a.kept st (boxNe ab bx (by decide)), ⟨row_kept t st bx (by decide), t1, t2⟩, row_kept e st bx (by decide)⟩, Frame.run st bx, st⟩
 rw [st.size]
 exact r.kept st bx (by decide)
theorem RunS.setAt (h : RunS w B g ga M ev) (j : Nat) (x : Int) : RunS (w.setCell ⟨ga, j, none⟩ (.int .i64 x)) B g ga { M with at_ := M.at_.set j x } ev ∧ Frame ga w (w.setCell ⟨ga, j, none⟩ (.int .i64 x)) := by
 obtain ⟨m64, gB, aB, A0, c0, A1, c1, A2, c2, A3, c3, A4, c4, A5, c5, Bk, Ck, Bt, bx, ⟨k, k1, k2⟩, r, p, a, ⟨t, t1, t2⟩, e⟩ := h
 have st : Stored w ga (w.setCell ⟨ga, j, none⟩ (.int .i64 x)) := Stored.cell1 w ⟨ga, j, none⟩ _
 have a2 := a.set j x
 obtain ⟨_, _, ea, ab, _⟩ := id a
 have len : (M.at_.set j x).length = M.at_.length := List.length_set
 refine ⟨⟨m64, gB, aB, A0, c0, A1, c1, A2, c2, A3, c3, A4, c4, A5, c5, Bk, Ck, Bt, ?_, ⟨k.out st (by omega), k1, by rw [st.size]; exact k2.1, k2.2⟩, ?_, p.kept st ab (by decide) (by decide), ?_, ⟨row_stored t st t1, t1, t2⟩, row_kept e st ab (by decide)⟩, Frame.at_ st⟩
 ·have := st.box bx (boxNe bx ab (by decide))
  simpa only [len] using this
 ·rw [st.size]
  exact r.kept st ab (by decide)
 ·simpa only [len] using a2
theorem RunS.setEvents (h : RunS w B g ga M ev) {v0 : Value} (h0 : ∃ A c, v0 = .slice A ev.length c) (hv : w.cell? ⟨g, 74, none⟩ = some v0) {v : Value} {l : List Ev} (own : w'.ownsRow B 51 6 v l.length (elE.C l)) (grow : w.grownBy w' v0.ownBlock) (bel : Below B w w') :
  RunS (w'.setCell ⟨g, 74, none⟩ v) B g ga M l ∧ Frame ga w (w'.setCell ⟨g, 74, none⟩ v) := by
 obtain ⟨m64, gB, aB, A0, c0, A1, c1, A2, c2, A3, c3, A4, c4, A5, c5, Bk, Ck, Bt, bx, ⟨k, k1, k2⟩, r, p, a, ⟨t, t1, t2⟩, e⟩ := h
 have e0 : v0 = .slice A5 ev.length c5 := by
  have := (run_cells bx m64).2.2.2.2.2.2
  rw [this] at hv
  cases hv
  rfl
 subst e0
 have ne : ∀ {h : Nat} {T : TypeId} {cs : Array Value}, Box w h T cs → T ≠ 51 → some h ≠ (Value.slice A5 ev.length c5).ownBlock := fun b ht => own_ne e b ht
 have keep : ∀ {h : Nat} {T : TypeId} {cs : Array Value}, Box w h T cs → T ≠ 51 → Box w' h T cs := fun b ht => b.grown grow (ne b ht)
 obtain ⟨_, _, ea, ab, _⟩ := id a
 have bx2 := keep bx (by decide)
 have st : Stored w' g (w'.setCell ⟨g, 74, none⟩ v) := Stored.cell1 w' ⟨g, 74, none⟩ v
 have b3 := bx2.set 74 v
 rw [runA_evs m64] at b3
 obtain ⟨A, c, rfl⟩ := own_shape own
 have hsz : w.heap.size ≤ w'.heap.size := bel.size
 refine ⟨⟨m64, gB, aB, A0, c0, A1, c1, A2, c2, A3, c3, A4, c4, A, c, Bk, Ck, Bt, b3, ⟨?_, k1, by rw [st.size]; exact Nat.le_trans k2.1 hsz, k2.2⟩, ?_, ?_, ?_, ⟨?_, t1, t2⟩, row_kept own st bx2 (by decide)⟩, fun h T cs h1 h2 h3 b => st.box (keep b h2) (boxNe (keep b h2) bx2 h1)⟩
 ·exact (k.map (fun h cs b => keep b (by decide)) (fun h cs b => keep b (by decide)) (fun h cs b => keep b (by decide))).out st (by omega)
 ·rw [st.size]
  refine ((r.frame fun h cs b => keep b (by decide)).more (Nat.le_refl _) hsz).kept st bx2 (by decide)
 ·refine PFr.kept ?_ st bx2 (by decide) (by decide)
  obtain ⟨gp, cur, e1, hB, h8, d1, d2, d3⟩ := p
  refine ⟨gp, cur, e1, hB, h8, keep d1 (by decide), d2, fun q l' hq hl => ?_⟩
  obtain ⟨u, e', d⟩ := d3 q l' hq hl
  exact ⟨u, e', row_grown d grow e (by decide)⟩
 ·obtain ⟨cap, cur, e1, d1, d2⟩ := a
  exact OwnI.kept ⟨cap, cur, e1, keep d1 (by decide), d2⟩ st (boxNe (keep d1 (by decide)) bx2 (by decide))
 ·exact row_kept (row_grown t grow e (by decide)) st bx2 (by decide)
end
end Go.Proofs.YtcegjehoejgofaaGreat
namespace Go.Proofs.YtcegjehoejgofaaGreat
open Go.ChangeShapes Go.WideShapes Go.ChangeAt Go.RowKit Go.Joins
theorem wp_buildW {ops : Array Oper} {rest : List Oper} {dst : Option Tmp} {t : TypeId} {pos : String} {after : Array Edge} {a : Act} {w : World} {Q : Exit → Act → World → Prop} {x y : Operand} (A : Option Addr) (n c : Nat) (m : List Int) (hm : m.length = 64) (hx : a.eval x = .slice A n c) (hy : a.eval y = memV m)
  (h : wpList Tryz.prog ops Q rest (a.put dst (wldV (.slice A n c) m)) w) : wpList Tryz.prog ops Q (⟨dst, .build 31 #[(0, x), (1, y)], t, pos, after, none⟩ :: rest) a w := by
 refine wpList_plain rfl fun K hK => ?_
 unfold Oper.wp
 rw [exec_buildM (ρ := a.eval) hm hx hy]
 exact hK _ _ h
set_option maxRecDepth 10000 in
set_option maxHeartbeats 2000000 in
theorem copyWorld_ok (v : Value) (m : List Int) (css : List (List St)) (w : World) (h : Ks w v css) (hm : m.length = 64) (n8 : css.length ≤ 8) (hl : ∀ ss ∈ css, 0 < ss.length ∧ ss.length ≤ 4 ∧ ∀ (q : Nat) t, ss[q]? = some t → 0 < t.l.length ∧ t.l.length ≤ 4) :
  Calls Tryz.prog 103 #[wldV v m] w fun e w' => (∃ v', e = .returned (wldV v' m) ∧ KFr w' w.heap.size w'.heap.size v' css) ∧ Below w.heap.size w w' := by
 obtain ⟨A, cp, rfl, h1, h2, h3⟩ := h
 have H3 := Lib.hid h3
 have HL := Lib.hid hl
 have MS := fun w => make_caches css.length n8 w
 unfold maxLen at h2
 clear h3 hl
 have low := Below.refl w.heap.size w
 have wb := boxNext low 31 (wldA (.slice A css.length cp) m)
 replace low := gAlloc low (.cells (wldA (.slice A css.length cp) m) 31)
 try simp only [World.size_alloc] at wb
 have ob := boxNext low 31 nilW
 replace low := gAlloc low (.cells nilW 31)
 replace wb := wb.alloc (.cells nilW 31)
 try simp only [World.size_alloc] at ob
 have ab := boxNext low 160 (nilsA css.length)
 replace low := gAlloc low (.cells (nilsA css.length) 160)
 replace wb := wb.alloc (.cells (nilsA css.length) 160)
 replace ob := ob.alloc (.cells (nilsA css.length) 160)
 try simp only [World.size_alloc] at ab
 have wb0 := (wb.at_ 0 (wldA_zero _ _))
 have w00 : ((w.alloc (.cells (wldA (.slice A css.length cp) m) 31)).alloc (.cells nilW 31)).cell? ⟨w.heap.size, 0, none⟩ = some (.slice A css.length cp) := ((Box.new w 31 (wldA (.slice A css.length cp) m)).alloc _).at_ 0 (wldA_zero _ _)
 go_enter Tryz.func103, Tryz.ntmps103
 go_wp2_with (first | (with_reducible refine wp_newW (tyWorld) ?_))
 clear MS wb0 w00
 go_loopw [13] (fun a wr => ∃ j : Nat, j ≤ css.length ∧ a = .int .i64 j ∧ Hid (∃ us : List Value, us.length = css.length ∧ Box wr (w.heap.size + 1 + 1) 160 us.toArray ∧ ∀ q, q < j → KMade wr (w.heap.size + 1 + 1) wr.heap.size (w.heap.size + 1 + 1) us css q) ∧
  Box wr w.heap.size 31 (wldA (.slice A css.length cp) m) ∧ Box wr (w.heap.size + 1) 31 nilW ∧ Below w.heap.size w wr) (fun a _ => css.length - (intOf a).toNat)
 case atStart => exact ⟨0, Nat.zero_le _, rfl, Lib.hid ⟨_, by simp, ab, fun q hq => absurd hq (by omega)⟩, wb, ob, low⟩
 case round =>
  clear ab wb ob low
  obtain ⟨j, hj, rfl, hus, wb, ob, low⟩ := hrel
  obtain ⟨us, ulen, ab, hkm⟩ := hus.out
  have HKM := Lib.hid hkm
  have HUL := Lib.hid ulen
  clear hus hkm ulen
  by_cases hlt : j < css.length
  ·obtain ⟨bb, o, rfl, hb, hc⟩ := H3.out (by omega)
   have hx : css[j]? = some css[j] := List.getElem?_eq_getElem _
   generalize css[j] = ss at hx
   obtain ⟨A', c', ce, cs⟩ := hc j ss hx
   replace ce := (low.cell (p := ⟨bb, o + j, none⟩) hb).trans ce
   replace cs := cs.call low
   obtain ⟨l1, l2, l3⟩ := HL.out ss (List.mem_of_getElem? hx)
   have CS := Lib.hid cs
   have HX := Lib.hid hx
   have CC := Lib.hid fun w hw => copyCache_any (.slice A' ss.length c') ss w hw l1 l2 l3
   clear hx hc cs l1 l2 l3
   have k0 : (0 : Int) ≤ j := by omega
   have k1 : (j : Int) < css.length := by omega
   have uj : j < us.toArray.size := by rw [List.size_toArray, HUL.out]; exact hlt
   have za := ab.lt
   go_wp2_with fail
   (with_reducible refine (CC.out _ CS.out).mono ?_); rintro e w3 ⟨⟨rfl, own⟩, hb3⟩
   have cf : CFr w3 wr.heap.size w3.heap.size (.slice (some ⟨wr.heap.size, 0, none⟩) ss.length ss.length) ss := .inr ⟨_, Nat.le_refl _, own.lt, own⟩
   have CF := Lib.hid cf
   replace ab := ab.call hb3
   replace wb := wb.call hb3
   replace ob := ob.call hb3
   replace low := gCall low hb3
   have HK3 := Lib.hid (fun q (hq : q < j) => ((HKM.out q hq).call hb3).more (Nat.le_refl _) hb3.size)
   clear hb3 HKM cf own ce CS CC
   go_wp2_with ((with_reducible refine wp_store1 size_cache ab j uj (.slice (some ⟨wr.heap.size, 0, none⟩) ss.length ss.length) rfl rfl ?_ ?_ ?_); rfl; rfl)
   intro w4 ab4 st
   rw [List.setIfInBounds_toArray] at ab4
   replace wb := st.box wb (by omega)
   replace ob := st.box ob (by omega)
   replace low := st.low low (by omega)
   have HK4 := Lib.hid (show ∀ q, q < j + 1 → KMade w4 (w.heap.size + 1 + 1) w4.heap.size (w.heap.size + 1 + 1) (us.set j (.slice (some ⟨wr.heap.size, 0, none⟩) ss.length ss.length)) css q from fun q hq => by
    rw [st.size]
    by_cases e : q = j
    ·subst e
     exact KMade.set st (by have := HUL.out; omega) HX.out (by omega) (Nat.le_refl _) (.inr (by omega)) CF.out
    ·exact (HK3.out q (by omega)).past st (fun h => e h.symm) _)
   clear st ab HK3 CF
   go_wp2_with fail
   go_roundw
   case rel => exact ⟨j + 1, by omega, by go_num, Lib.hid ⟨_, by rw [List.length_set]; exact HUL.out, ab4, HK4.out⟩, wb, ob, low⟩
   case measure => simp [intOf]; omega
  ·obtain rfl : j = css.length := by omega
   have KF := Lib.hid (show KFr wr (w.heap.size + 1 + 1) wr.heap.size (.slice (some ⟨w.heap.size + 1 + 1, 0, none⟩) css.length css.length) css from
    ⟨_, us, rfl, HUL.out, by unfold maxLen; omega, Nat.le_refl _, ab.lt, ab, fun q => by
     by_cases hq : q < css.length
     ·exact HKM.out q hq
     ·intro sa hs
      have := (List.getElem?_eq_some_iff.1 hs).1
      omega⟩)
   have wm := wld_mem wb
   have s1 : (wldA (.slice (some ⟨w.heap.size + 1 + 1, 0, none⟩) css.length css.length) m).size = nilW.size := wld_size hm
   have one : (wldA (.slice (some ⟨w.heap.size + 1 + 1, 0, none⟩) css.length css.length) m).all (·.oneCell') = true := wldA_one _
   go_wp2_with (first | ((with_reducible refine wp_loadW (tyMem) (wm) (mem_zsize hm) ?_ ?_ ?_); rfl; rfl) | ((with_reducible refine wp_buildW (some ⟨w.heap.size + 1 + 1, 0, none⟩) css.length css.length m hm ?_ ?_ ?_); rfl; rfl) | ((with_reducible refine wp_storeW (tyWorld) (ob) (rfl) (s1) (one) ?_ ?_ ?_); rfl; rfl))
   intro w5 ob5 st5
   replace low := st5.low low (by omega)
   have KF5 := Lib.hid ((KF.out.out st5 (.inl (by omega))).more (B' := w.heap.size) (C' := w5.heap.size) (by omega) (Nat.le_of_eq st5.size.symm))
   clear st5 ob wb wm KF ab
   go_wp2_with fail
   exact bodyPost_ret (v := wldV (.slice (some ⟨w.heap.size + 1 + 1, 0, none⟩) css.length css.length) m) (results_one tyWorld Tryz.results103 rfl ob5 s1) rfl ⟨⟨_, rfl, KF5.out⟩, low⟩
end Go.Proofs.YtcegjehoejgofaaGreat
namespace Go.Proofs.YtcegjehoejgofaaGreat
open Go.ChangeShapes Go.WideShapes Go.ChangeAt Go.RowKit Go.Joins
end Go.Proofs.YtcegjehoejgofaaGreat
namespace Go.Proofs.YtcegjehoejgofaaGreat
open Go.ChangeShapes Go.WideShapes Go.ChangeAt Go.RowKit Go.Joins
structure RunW (n s y b : Int) (F : List Int) (l : List Dd) (k : Nat) (css : List (List St)) (m : List Int) : Prop where
 ok : cohE n s y b css m = 0
 len : m.length = 64
 flat : flatW css m = runM F (l.take k)
 err : runE (l.take k) = 0
theorem info_done : (Tryz.prog.info? 180).map (fun i => (i.zero, i.size, i.bytes)) = some (some (.agg done0), 5, 40) := by kernel_rfl
def newD (n : Nat) : Array Value := madeCells done0 (n * 5)
theorem make_dones (n : Nat) (hn : n ≤ 200) (w : World) : (Instr.makeSlice 172 (.int .i64 n) (.int .i64 n)).run Tryz.prog w = .ok (.slice (some ⟨w.heap.size, 0, none⟩) n n) (w.alloc (.cells (newD n) 180)) := by
 obtain ⟨i0, hi, hz0, hz1, hz2⟩ := info_parts info_done
 have := run_make w 172 180 i0 (.agg done0) Tryz.underlying172 hi hz0 .i64 .i64 n n (by omega) (Int.le_refl _) (by rw [hz2]; omega) (by omega)
 rw [this, hz1]
 simp [newD, Value.cells]
def ToldIn (cur : Array Value) (xs : List Int) : Prop := ∀ (j : Nat) x, xs[j]? = some x → cur[j * 5]? = some (.int .u64 x)
end Go.Proofs.YtcegjehoejgofaaGreat
namespace Go.Proofs.YtcegjehoejgofaaGreat
open Go.ChangeShapes Go.WideShapes Go.ChangeAt Go.RowKit Go.Joins
structure Between (n s y b : Int) (F : List Int) (l : List Dd) (base gN : Nat) (k : Nat) (w : World) : Prop where
 ex : ∃ css m v B C cur, RunW n s y b F l k css m ∧ KFr w B C v css ∧ base < B ∧ C ≤ w.heap.size ∧ (gN + 1 < B ∨ C ≤ gN) ∧ Box w gN 31 (wldA v m) ∧ Box w (gN + 1) 180 cur ∧ cur.size = l.length * 5 ∧ ToldIn cur (runV F (l.take k))
end Go.Proofs.YtcegjehoejgofaaGreat
namespace Go.Proofs.YtcegjehoejgofaaGreat
open Go.ChangeShapes Go.WideShapes Go.ChangeAt Go.RowKit Go.Joins
set_option maxRecDepth 10000 in
set_option maxHeartbeats 1500000 in
theorem play_nil (n s y b : Int) (v : Value) (m : List Int) (css : List (List St)) (w : World) (h : Ks w v css) (hm : m.length = 64) (hE : cohE n s y b css m = 0) :
  Calls Tryz.prog 81 #[cfg n s y b, wldV v m, .slice none 0 0] w fun e w' => (∃ v' u, e = .returned (.tuple #[wldV v' m, u, .int .i64 0]) ∧ KFr w' w.heap.size w'.heap.size v' css) ∧ Below w.heap.size w w' := by
 have C := Lib.hid fun w hw => agreeCheck_any n s y b v m css w hw hm
 rw [hE] at C
 obtain ⟨g1, g2, g3⟩ := (cohE_iff.1 hE).1
 have hcf := cfgB_iff.1 g1
 have CW := Lib.hid fun w hw => copyWorld_ok v m css w hw hm (by omega) fun ss hs => by
  have good := goodC_iff.1 (g3 ss hs)
  obtain ⟨q1, q2⟩ := good.small
  have := good.2.1
  exact ⟨by omega, q1, q2⟩
 generalize cohL n s y b css m = L at C
 have MD : ∀ w, (Instr.makeSlice 172 (.int .i64 0) (.int .i64 0)).run Tryz.prog w = .ok (.slice (some ⟨w.heap.size, 0, none⟩) 0 0) (w.alloc (.cells (newD 0) 180)) := fun w => make_dones 0 (by omega) w
 clear hE g1 g2 g3 hcf
 have low := Below.refl w.heap.size w
 have cb := boxNext low 23 (cfgA n s y b)
 replace low := gAlloc low (.cells (cfgA n s y b) 23)
 replace h := h.alloc (.cells (cfgA n s y b) 23)
 try simp only [World.size_alloc] at cb
 have wb := boxNext low 31 (wldA v m)
 replace low := gAlloc low (.cells (wldA v m) 31)
 replace cb := cb.alloc (.cells (wldA v m) 31)
 replace h := h.alloc (.cells (wldA v m) 31)
 try simp only [World.size_alloc] at wb
 have ob := boxNext low 31 nilW
 replace low := gAlloc low (.cells nilW 31)
 replace cb := cb.alloc (.cells nilW 31)
 replace wb := wb.alloc (.cells nilW 31)
 replace h := h.alloc (.cells nilW 31)
 try simp only [World.size_alloc] at ob
 have wr := wb.range
 go_enter Tryz.func81, Tryz.ntmps81
 go_wp2_with (first | (with_reducible refine wp_newW (tyWorld) ?_) | ((with_reducible refine wp_loadW (tyWorld) (wr) (wld_size hm) ?_ ?_ ?_); rfl; rfl))
 (with_reducible refine (C.out _ h).mono ?_); rintro e w0 ⟨rfl, hb⟩
 replace cb := cb.call hb
 replace wb := wb.call hb
 replace ob := ob.call hb
 replace h := h.call hb
 replace low := gCall low hb
 clear hb wr C
 have z0 := ob.lt
 have wr := wb.range
 go_wp2_with (first | ((with_reducible refine wp_loadW (tyWorld) (wr) (wld_size hm) ?_ ?_ ?_); rfl; rfl))
 (with_reducible refine (CW.out _ h).mono ?_); rintro e w1 ⟨⟨v', rfl, kf⟩, hb⟩
 obtain ⟨Av, cv, rfl⟩ := kf.shape
 replace cb := cb.call hb
 replace ob := ob.call hb
 replace low := gCall low hb
 have KF := Lib.hid kf
 have z01 := hb.size
 clear hb wr wb h CW kf
 have s1 : (wldA (.slice Av css.length cv) m).size = nilW.size := wld_size hm
 have one : (wldA (.slice Av css.length cv) m).all (·.oneCell') = true := wldA_one _
 have nb := boxNext low 31 (wldA (.slice Av css.length cv) m)
 replace low := gAlloc low (.cells (wldA (.slice Av css.length cv) m) 31)
 replace cb := cb.alloc (.cells (wldA (.slice Av css.length cv) m) 31)
 replace ob := ob.alloc (.cells (wldA (.slice Av css.length cv) m) 31)
 try simp only [World.size_alloc] at nb
 have fb := boxNext low 180 (newD 0)
 replace low := gAlloc low (.cells (newD 0) 180)
 replace cb := cb.alloc (.cells (newD 0) 180)
 replace ob := ob.alloc (.cells (newD 0) 180)
 replace nb := nb.alloc (.cells (newD 0) 180)
 try simp only [World.size_alloc] at fb
 have KF2 := Lib.hid ((KF.out.alloc (.cells (wldA (.slice Av css.length cv) m) 31)).alloc (.cells (newD 0) 180))
 clear KF fb
 go_wp2_with (first | (with_reducible refine wp_newW (tyWorld) ?_) | ((with_reducible refine wp_freshW (tyWorld) (rfl) (s1) (one) ?_ ?_ ?_); rfl; rfl))
 clear MD
 refine wp_loop_rounds 1 ?_
 rw [rounds_succ]
 have nr := nb.range
 go_wp2_with (first | ((with_reducible refine wp_loadW (tyWorld) (nr) (s1) ?_ ?_ ?_); rfl; rfl) | ((with_reducible refine wp_storeW (tyWorld) (ob) (rfl) (s1) (one) ?_ ?_ ?_); rfl; rfl))
 intro w8 ob8 st8
 have hsz : w1.heap.size ≤ w8.heap.size := by rw [st8.size]; simp; omega
 replace low := st8.low low (by omega)
 have KF8 := Lib.hid ((KF2.out.out st8 (.inl (by omega))).more (B' := w.heap.size) (C' := w8.heap.size) (by omega) hsz)
 clear st8 ob nb nr cb KF2
 go_wp2_with fail
 exact bodyPost_ret (v := .tuple #[wldV (.slice Av css.length cv) m, .slice (some ⟨w1.heap.size + 1, 0, none⟩) 0 0, .int .i64 0]) (results_first3 tyWorld Tryz.results81 rfl rfl rfl ob8 s1) rfl ⟨⟨_, _, rfl, KF8.out⟩, low⟩
end Go.Proofs.YtcegjehoejgofaaGreat
namespace Go.Proofs.YtcegjehoejgofaaGreat
open Go.ChangeShapes Go.WideShapes Go.ChangeAt Go.RowKit Go.Joins
theorem info_int3 : (Tryz.prog.info? 3).map (fun i => (i.zero, i.size, i.bytes)) = some (some (.int .i64 0), 1, 8) := by kernel_rfl
set_option maxRecDepth 10000 in
set_option maxHeartbeats 1000000 in
theorem cloneInts_any (v : Value) (l : List Int) (w : World) (h : Sl w w.heap.size 1 v l.length (l.map (Value.int .i64))) (h8 : l.length ≤ 200) :
  Calls Tryz.prog 41 #[v] w fun e w' => (∃ v', e = .returned v' ∧ w'.ownsRow w.heap.size 3 1 v' l.length (l.map (Value.int .i64))) ∧ Below w.heap.size w w' := by
 obtain ⟨hl, A, c, rfl, h1, h2, h3⟩ := h
 obtain ⟨i0, hi, hz0, hz1, hz2⟩ := info_parts info_int3
 have HI := Lib.hid hi
 have HZ := Lib.hid (And.intro hz0 (And.intro hz1 hz2))
 have HL := Lib.hid hl
 have H3 := Lib.hid h3
 clear hl h3 hi hz0 hz1 hz2
 cases A with
 | none =>
  have e0 : l = [] := by
   cases l with
   | nil => rfl
   | cons x r =>
    obtain ⟨b, o, e, _⟩ := H3.out (by simp)
    cases e
  subst e0
  have en : ∀ w, (binOp .eql 35 (.slice none 0 c) (.slice none 0 0)).run Tryz.prog w = .ok (.bool true) w := fun w => by kernel_rfl
  clear HL H3 HI HZ
  go_enter Tryz.func41, Tryz.ntmps41
  try simp only [List.length_nil]
  go_wp2_with fail
  go_ret
  exact ⟨⟨_, rfl, World.ownsRow_nil _ _ _ _⟩, Below.refl _ _⟩
 | some ad =>
  have HC := Lib.hid (show ∀ j u, (l.map (Value.int .i64))[j]? = some u → w.cell? (ad.add j) = some u from fun j u hu => by
   have hj := (List.getElem?_eq_some_iff.1 hu).1
   rw [List.length_map] at hj
   obtain ⟨b, o, e, _, hc⟩ := H3.out (by omega)
   cases e
   have ee : (⟨b, o, none⟩ : Addr).add j = ⟨b, o + j, none⟩ := by cases j <;> simp [Addr.add]
   rw [ee]
   exact hc j u hu)
  have HB := Lib.hid (show ∀ j u, (l.map (Value.int .i64))[j]? = some u → (ad.add j).block < w.heap.size from fun j u hu => block_lt_of_cell (HC.out j u hu))
  have en : ∀ w, (binOp .eql 35 (.slice (some ad) l.length c) (.slice none 0 0)).run Tryz.prog w = .ok (.bool false) w := fun w => by kernel_rfl
  have ONE := Lib.hid (show ∀ u ∈ l.map (Value.int .i64), u.oneCell' = true from fun u hu => by obtain ⟨_, _, rfl⟩ := List.mem_map.1 hu; rfl)
  clear H3
  go_enter Tryz.func41, Tryz.ntmps41
  go_wp2_with (at_builtin; refine wpList_append_own _ rfl _ _ 35 rfl w.heap.size 3 i0 (.int .i64 0) 1 8 Tryz.underlying35 HI.out HZ.out.1 HZ.out.2.1 HZ.out.2.2 rfl (by decide) _ 0 [] rfl ?c0 ad l.length c (l.map (Value.int .i64)) rfl HL.out ?c1 ONE.out ?c3 ?c4 ?c5 ?_)
  case c0 => exact ⟨rfl, .inr ⟨w.heap.size, 0, #[], rfl, Nat.le_refl _, Box.new w 3 #[], Nat.le_refl _, Nat.zero_le _, rfl, rfl⟩⟩
  case c1 =>
   intro j u hu
   exact ((Below.refl w.heap.size w).alloc (Nat.le_refl _) _).cell (HB.out j u hu) |>.trans (HC.out j u hu)
  case c3 => unfold maxLen; omega
  case c4 => omega
  case c5 => simp
  intro v' w1 own grow _
  have low : Below w.heap.size w w1 := (gAlloc (Below.refl _ _) _).grown grow (by simp) (fun g e => by simp [Value.ownBlock] at e; omega)
  try simp only [Nat.zero_add, List.nil_append] at own
  have O := Lib.hid own
  clear own grow
  go_wp2_with fail
  go_ret
  exact ⟨⟨_, rfl, O.out⟩, low⟩
end Go.Proofs.YtcegjehoejgofaaGreat
namespace Go.Proofs.YtcegjehoejgofaaGreat
open Go.ChangeShapes Go.WideShapes Go.ChangeAt Go.RowKit Go.Joins
structure NewM (w : World) (B : Nat) (v : Value) (M : Mc) : Prop where
 m64 : M.mem.length = 64
 ex : ∃ A0 c0 A1 c1 A2 c2 A3 c3 A4 c4 ga Bk Ck Bt, v = .agg (mcA M.n M.s M.y M.b (.slice A0 M.css.length c0) M.mem (.slice A1 M.ring.length c1) (.slice A2 M.pr.length c2) (.slice A3 M.at_.length c3) (.slice A4 M.wts.length c4) M.had) ∧
  (KFr w Bk Ck (.slice A0 M.css.length c0) M.css ∧ B ≤ Bk ∧ Ck ≤ w.heap.size ∧ (ga < Bk ∨ Ck ≤ ga)) ∧ FrS w B w.heap.size (.slice A1 M.ring.length c1) M.ring ∧ PFr w B (.slice A2 M.pr.length c2) M.pr ∧ (OwnI w ga (.slice A3 M.at_.length c3) M.at_ ∧ B ≤ ga) ∧
  (w.ownsRow Bt 3 1 (.slice A4 M.wts.length c4) M.wts.length (M.wts.map (Value.int .i64)) ∧ ga < Bt ∧ B ≤ Bt)
theorem NewM.read {w : World} {B : Nat} {v : Value} {M : Mc} (h : NewM w B v M) : MRead w v M := by
 obtain ⟨m64, A0, c0, A1, c1, A2, c2, A3, c3, A4, c4, ga, Bk, Ck, Bt, rfl, ⟨k, _, _⟩, r, p, ⟨a, _⟩, ⟨t, _, _⟩⟩ := h
 exact ⟨m64, _, _, _, _, _, rfl, k.ks, r.rs, p.ps, a.sl, Sl.ofOwn t⟩
theorem NewM.shape {w : World} {B : Nat} {v : Value} {M : Mc} (h : NewM w B v M) : ∃ X, v = .agg X ∧ X.size = 74 ∧ X.all (·.oneCell') = true := by
 obtain ⟨m64, A0, c0, A1, c1, A2, c2, A3, c3, A4, c4, ga, Bk, Ck, Bt, rfl, _⟩ := h
 exact ⟨_, rfl, mcA_size m64, mcA_one⟩
theorem mcA_ext {n s y b h : Int} {u rv pv av tv : Value} {m : List Int} (hm : m.length = 64) (j : Nat) (v : Value) : (mcA n s y b u m rv pv av tv h).setIfInBounds (69 + j) v =
  (([.int .i64 n, .int .i64 s, .int .i64 y, .int .i64 b] : List Value) ++ (u :: m.map (Value.int .u64)) ++ ([rv, pv, av, tv, .int .i64 h] : List Value).set j v).toArray := by
 unfold mcA mcL
 rw [List.setIfInBounds_toArray]
 congr 1
 rw [List.set_append_right _ _ (by simp [hm])]
 congr 2
 simp [hm]
theorem mcA_ring {n s y b h : Int} {u rv pv av tv : Value} {m : List Int} (hm : m.length = 64) (v : Value) : (mcA n s y b u m rv pv av tv h).setIfInBounds 69 v = mcA n s y b u m v pv av tv h := mcA_ext hm 0 v
theorem mcA_progs {n s y b h : Int} {u rv pv av tv : Value} {m : List Int} (hm : m.length = 64) (v : Value) : (mcA n s y b u m rv pv av tv h).setIfInBounds 70 v = mcA n s y b u m rv v av tv h := mcA_ext hm 1 v
theorem mcA_ats {n s y b h : Int} {u rv pv av tv : Value} {m : List Int} (hm : m.length = 64) (v : Value) : (mcA n s y b u m rv pv av tv h).setIfInBounds 71 v = mcA n s y b u m rv pv v tv h := mcA_ext hm 2 v
theorem mcA_waits {n s y b h : Int} {u rv pv av tv : Value} {m : List Int} (hm : m.length = 64) (v : Value) : (mcA n s y b u m rv pv av tv h).setIfInBounds 72 v = mcA n s y b u m rv pv av v h := mcA_ext hm 3 v
theorem mach_setW {w : World} {g : Nat} {t : TypeId} {n s y b h : Int} {u rv pv av tv : Value} {m : List Int} (bx : Box w g t (mcA n s y b u m rv pv av tv h)) (u' : Value) :
  Box (w.setCells g 4 (wldA u' m).toList) g t (mcA n s y b u' m rv pv av tv h) := by
 have e : ∀ u, mcA n s y b u m rv pv av tv h = (([.int .i64 n, .int .i64 s, .int .i64 y, .int .i64 b] : List Value) ++ ((u :: m.map (Value.int .u64)) ++ [rv, pv, av, tv, .int .i64 h])).toArray := fun u => by
  unfold mcA mcL
  rw [List.append_assoc]
 rw [e] at bx ⊢
 exact setCells_mid (u' :: m.map (Value.int .u64)) ([.int .i64 n, .int .i64 s, .int .i64 y, .int .i64 b] : List Value) (u :: m.map (Value.int .u64)) [rv, pv, av, tv, .int .i64 h] (by simp) bx
theorem wpList_storeW4 {ops : Array Oper} {rest : List Oper} {dst : Option Tmp} {t : TypeId} {pos : String} {after : Array Edge} {a : Act} {w : World} {Q : Exit → Act → World → Prop} {x y : Operand} {g : Nat} {T : TypeId} {cs : Array Value} (bx : Box w g T cs) (hs : 69 ≤ cs.size)
  {u : Value} {m : List Int} (hm : m.length = 64) (h1 : (wldA u m).all (·.oneCell') = true) (hx : a.eval x = .pointer (some ⟨g, 4, none⟩)) (hy : a.eval y = .agg (wldA u m))
  (h : ∀ w', w' = w.setCells g 4 (wldA u m).toList → wpList Tryz.prog ops Q rest (a.put dst undef) w') : wpList Tryz.prog ops Q (⟨dst, .store 31 x y, t, pos, after, none⟩ :: rest) a w := by
 have sz : (wldA u m).size = 65 := by simp [wldA, hm]
 refine wpList_store_mid rfl 31 x y rfl g 4 (wldA u m) hx hy (fun j hj => ?_) (tyWorld.size.trans (by rw [wld_size hm])) h1 (h _ rfl)
 refine ⟨?_, bx.frozen _⟩
 rw [bx.cell, Array.getElem?_eq_getElem (by omega)]
 rfl
set_option maxRecDepth 10000 in
set_option maxHeartbeats 8000000 in
theorem copy_is (v : Value) (M : Mc) (w : World) (h : MRead w v M) (ok : McOk M) :
  Calls Tryz.prog 50 #[v] w fun e w' => (∃ v', e = .returned (.tuple #[v', .int .i64 0]) ∧ NewM w' w.heap.size v' M) ∧ Below w.heap.size w w' := by
 have m64 := h.m64
 obtain ⟨A0, c0, A1, c1, A2, c2, A3, c3, A4, c4, rfl, k0, k1, k2, k3, k4⟩ := h.shape
 have PN := Lib.hid fun W (hb : Below w.heap.size w W) => play_nil M.n M.s M.y M.b _ M.mem M.css W (k0.call hb) m64 ok.coh
 obtain ⟨_, r1, r8, _⟩ := ringE_ok ok.rng
 obtain ⟨_, pl, pz⟩ := progsE_zero ok.prg
 have n8 := ok.nodes
 have al := ok.len
 have wl : M.wts.length ≤ 20 := by
  have := ok.wts
  unfold waitsB at this
  rw [Bool.and_eq_true, decide_eq_true_eq] at this
  exact this.1
 have CR := Lib.hid fun W (hb : Below w.heap.size w W) => cloneRing_any _ M.ring W (k1.call hb) (by omega) r8
 have CP := Lib.hid fun W (hb : Below w.heap.size w W) => cloneProgs_any _ M.pr W (k2.call hb) (by omega) (fun k l hk => (listE_zero.1 pz k l hk).1)
 have CA := Lib.hid fun W (hb : Below w.heap.size w W) => cloneInts_any _ M.at_ W (Sl.call k3 hb) (by omega)
 have CW := Lib.hid fun W (hb : Below w.heap.size w W) => cloneInts_any _ M.wts W (Sl.call k4 hb) (by omega)
 have CELLS := Lib.hid (fun (W : World) (g : Nat) (hb : Box W g 37 (mcA M.n M.s M.y M.b (.slice A0 M.css.length c0) M.mem (.slice A1 M.ring.length c1) (.slice A2 M.pr.length c2) (.slice A3 M.at_.length c3) (.slice A4 M.wts.length c4) M.had)) => mach_cells hb m64)
 have WLD := Lib.hid (fun (W : World) (g : Nat) (hb : Box W g 37 (mcA M.n M.s M.y M.b (.slice A0 M.css.length c0) M.mem (.slice A1 M.ring.length c1) (.slice A2 M.pr.length c2) (.slice A3 M.at_.length c3) (.slice A4 M.wts.length c4) M.had)) => mach_wld hb)
 generalize hX : mcA M.n M.s M.y M.b (.slice A0 M.css.length c0) M.mem (.slice A1 M.ring.length c1) (.slice A2 M.pr.length c2) (.slice A3 M.at_.length c3) (.slice A4 M.wts.length c4) M.had = XA at *
 have HX := Lib.hid hX
 clear h k0 k1 k2 k3 k4 hX r1 r8 pl pz
 have low := Below.refl w.heap.size w
 have xb := boxNext low 37 XA
 replace low := gAlloc low (.cells XA 37)
 try simp only [World.size_alloc] at xb
 have zb := boxNext low 37 (mcA 0 0 0 0 (.slice none 0 0) zeroL (.slice none 0 0) (.slice none 0 0) (.slice none 0 0) (.slice none 0 0) 0)
 replace low := gAlloc low (.cells (mcA 0 0 0 0 (.slice none 0 0) zeroL (.slice none 0 0) (.slice none 0 0) (.slice none 0 0) (.slice none 0 0) 0) 37)
 replace xb := xb.alloc (.cells (mcA 0 0 0 0 (.slice none 0 0) zeroL (.slice none 0 0) (.slice none 0 0) (.slice none 0 0) (.slice none 0 0) 0) 37)
 try simp only [World.size_alloc] at zb
 have xw := WLD.out _ _ xb
 obtain ⟨⟨x0, x1, x2, x3⟩, x69, x70, x71, x72, x73⟩ := CELLS.out _ _ xb
 go_enter Tryz.func50, Tryz.ntmps50
 go_wp2_with (first | (with_reducible refine wp_newW (tyMach) ?_) | ((with_reducible refine wp_loadW (tyWorld) (xw) (wld_size m64) ?_ ?_ ?_); rfl; rfl))
 (with_reducible refine (PN.out _ low).mono ?_); rintro e w1 ⟨⟨vw, u1, rfl, kf⟩, hb⟩
 obtain ⟨Aw, cw, rfl⟩ := kf.shape
 replace xb := xb.call hb
 replace zb := zb.call hb
 replace low := gCall low hb
 have w01 := hb.size
 simp only [World.size_alloc] at w01 kf
 have KF := Lib.hid kf
 clear hb x0 x1 x2 x3 x69 x70 x71 x72 x73 xw PN kf
 rw [← HX.out] at xb
 have s1 : (wldA (.slice Aw M.css.length cw) M.mem).size = nilW.size := wld_size m64
 have one : (wldA (.slice Aw M.css.length cw) M.mem).all (·.oneCell') = true := wldA_one _
 have vb := boxNext low 31 (wldA (.slice Aw M.css.length cw) M.mem)
 replace low := gAlloc low (.cells (wldA (.slice Aw M.css.length cw) M.mem) 31)
 replace xb := xb.alloc (.cells (wldA (.slice Aw M.css.length cw) M.mem) 31)
 replace zb := zb.alloc (.cells (wldA (.slice Aw M.css.length cw) M.mem) 31)
 try simp only [World.size_alloc] at vb
 have vr := vb.range
 have x74 : 69 ≤ (mcA M.n M.s M.y M.b (.slice A0 M.css.length c0) M.mem (.slice A1 M.ring.length c1) (.slice A2 M.pr.length c2) (.slice A3 M.at_.length c3) (.slice A4 M.wts.length c4) M.had).size := by rw [mcA_size m64]; omega
 go_wp2_with (first | (with_reducible refine wp_newW (tyWorld) ?_) | ((with_reducible refine wp_freshW (tyWorld) (rfl) (s1) (one) ?_ ?_ ?_); rfl; rfl) | ((with_reducible refine wp_loadW (tyWorld) (vr) (s1) ?_ ?_ ?_); rfl; rfl) | ((with_reducible refine wpList_storeW4 xb x74 m64 one ?_ ?_ ?_); rfl; rfl))
 intro w2 e2
 have st2 : Stored (w1.alloc (.cells (wldA (.slice Aw M.css.length cw) M.mem) 31)) w.heap.size w2 := by rw [e2]; exact setCells_stored _ _ _ _
 have xb2 := mach_setW xb (.slice Aw M.css.length cw)
 rw [← e2] at xb2
 replace zb := st2.box zb (by omega)
 replace low := st2.low low (Nat.le_refl _)
 have KF2 := Lib.hid ((KF.out.alloc (.cells (wldA (.slice Aw M.css.length cw) M.mem) 31)).out st2 (.inl (by omega)))
 have w12 : w1.heap.size ≤ w2.heap.size := by rw [st2.size]; simp
 clear st2 xb vb vr e2 KF x74
 have xb := xb2
 have KF := KF2
 clear xb2 KF2
 obtain ⟨⟨x0, x1, x2, x3⟩, x69, x70, x71, x72, x73⟩ := mach_cells xb m64
 go_wp2_with fail
 (with_reducible refine (CR.out _ low).mono ?_); rintro e w3 ⟨vr, gr, rfl, own, gr0, hb⟩
 obtain ⟨Ar, cr, rfl⟩ := own.rs.shape
 have grl := own.lt
 replace xb := xb.call hb
 replace zb := zb.call hb
 replace low := gCall low hb
 replace KF := Lib.hid (KF.out.call hb)
 have w23 := hb.size
 have OR := Lib.hid own
 clear hb own x0 x1 x2 x3 x69 x70 x71 x72 x73 CR
 obtain ⟨⟨x0, x1, x2, x3⟩, x69, x70, x71, x72, x73⟩ := mach_cells xb m64
 have z69 := xb.frozen 69
 have st : Stored w3 w.heap.size (w3.setCell ⟨w.heap.size, 69, none⟩ (.slice Ar M.ring.length cr)) := Stored.cell1 w3 ⟨w.heap.size, 69, none⟩ (.slice Ar M.ring.length cr)
 have xb9 := xb.set 69 (.slice Ar M.ring.length cr)
 replace zb := st.box zb (by omega)
 replace low := st.low low (Nat.le_refl _)
 have KF9 := Lib.hid (KF.out.out st (.inl (by omega)))
 clear KF
 have KF := KF9
 clear KF9
 have OR2 := Lib.hid (OR.out.stored st (by omega))
 have W34 := Lib.hid st.size
 rw [mcA_ring m64] at xb9
 clear st OR xb
 have OR := OR2
 have xb := xb9
 clear OR2 xb9
 go_wp2_with fail
 (with_reducible refine (CP.out _ low).mono ?_); rintro e w5 ⟨⟨vp, rfl, gp, cp, rfl, gp0, p8, dn⟩, hb⟩
 have q34 := W34.out
 have PF := Lib.hid (show PFr w5 w.heap.size (.slice (some ⟨gp, 0, none⟩) M.pr.length M.pr.length) M.pr from ⟨gp, cp, rfl, by omega, p8, by
  obtain ⟨d1, d2, d3⟩ := dn
  refine ⟨d1, d2, fun k l hk hl => ?_⟩
  obtain ⟨u, e', d⟩ := d3 k l hk hl
  exact ⟨u, e', own_wider d (by omega)⟩⟩)
 replace xb := xb.call hb
 replace zb := zb.call hb
 replace low := gCall low hb
 replace KF := Lib.hid (KF.out.call hb)
 have OR2 := Lib.hid (OR.out.call hb)
 have w45 := hb.size
 clear hb dn x0 x1 x2 x3 x69 x70 x71 x72 x73 z69 CP OR
 have OR := OR2
 clear OR2
 obtain ⟨⟨x0, x1, x2, x3⟩, x69, x70, x71, x72, x73⟩ := mach_cells xb m64
 have z70 := xb.frozen 70
 have st : Stored w5 w.heap.size (w5.setCell ⟨w.heap.size, 70, none⟩ (.slice (some ⟨gp, 0, none⟩) M.pr.length M.pr.length)) := Stored.cell1 w5 ⟨w.heap.size, 70, none⟩ (.slice (some ⟨gp, 0, none⟩) M.pr.length M.pr.length)
 have xb9 := xb.set 70 (.slice (some ⟨gp, 0, none⟩) M.pr.length M.pr.length)
 replace zb := st.box zb (by omega)
 replace low := st.low low (Nat.le_refl _)
 have KF9 := Lib.hid (KF.out.out st (.inl (by omega)))
 clear KF
 have KF := KF9
 clear KF9
 have OR2 := Lib.hid (OR.out.stored st (by omega))
 have PF2 := Lib.hid (PF.out.kept st xb (by decide) (by decide))
 have W56 := Lib.hid st.size
 rw [mcA_progs m64] at xb9
 clear st OR PF xb
 have OR := OR2
 have PF := PF2
 have xb := xb9
 clear OR2 PF2 xb9
 go_wp2_with fail
 (with_reducible refine (CA.out _ low).mono ?_); rintro e w7 ⟨⟨va, rfl, ra⟩, hb⟩
 have q56 := W56.out
 obtain ⟨ga, ga0, ia⟩ := OwnI.of ra (by omega)
 obtain ⟨ca, rfl, _⟩ := ia.shape
 replace xb := xb.call hb
 replace zb := zb.call hb
 replace low := gCall low hb
 replace KF := Lib.hid (KF.out.call hb)
 have OR2 := Lib.hid (OR.out.call hb)
 have PF2 := Lib.hid (PF.out.call hb)
 have IA := Lib.hid ia
 have gal := ia.lt
 have w67 := hb.size
 clear hb x0 x1 x2 x3 x69 x70 x71 x72 x73 z70 CA OR PF ia ra
 have OR := OR2
 have PF := PF2
 clear OR2 PF2
 obtain ⟨⟨x0, x1, x2, x3⟩, x69, x70, x71, x72, x73⟩ := mach_cells xb m64
 have z71 := xb.frozen 71
 have st : Stored w7 w.heap.size (w7.setCell ⟨w.heap.size, 71, none⟩ (.slice (some ⟨ga, 0, none⟩) M.at_.length ca)) := Stored.cell1 w7 ⟨w.heap.size, 71, none⟩ (.slice (some ⟨ga, 0, none⟩) M.at_.length ca)
 have xb9 := xb.set 71 (.slice (some ⟨ga, 0, none⟩) M.at_.length ca)
 replace zb := st.box zb (by omega)
 replace low := st.low low (Nat.le_refl _)
 have KF9 := Lib.hid (KF.out.out st (.inl (by omega)))
 clear KF
 have KF := KF9
 clear KF9
 have OR2 := Lib.hid (OR.out.stored st (by omega))
 have PF2 := Lib.hid (PF.out.kept st xb (by decide) (by decide))
 have IA2 := Lib.hid (IA.out.kept st (by omega))
 have W78 := Lib.hid st.size
 rw [mcA_ats m64] at xb9
 clear st OR PF IA xb
 have OR := OR2
 have PF := PF2
 have IA := IA2
 have xb := xb9
 clear OR2 PF2 IA2 xb9
 go_wp2_with fail
 (with_reducible refine (CW.out _ low).mono ?_); rintro e w9 ⟨⟨vt, rfl, rt⟩, hb⟩
 have q78 := W78.out
 obtain ⟨At, ct, rfl⟩ := own_shape rt
 replace xb := xb.call hb
 replace zb := zb.call hb
 replace low := gCall low hb
 replace KF := Lib.hid (KF.out.call hb)
 have OR2 := Lib.hid (OR.out.call hb)
 have PF2 := Lib.hid (PF.out.call hb)
 have IA2 := Lib.hid (IA.out.call hb)
 have RT := Lib.hid rt
 have w89 := hb.size
 clear hb x0 x1 x2 x3 x69 x70 x71 x72 x73 z71 CW OR PF IA rt
 have OR := OR2
 have PF := PF2
 have IA := IA2
 clear OR2 PF2 IA2
 obtain ⟨⟨x0, x1, x2, x3⟩, x69, x70, x71, x72, x73⟩ := mach_cells xb m64
 have z72 := xb.frozen 72
 have st : Stored w9 w.heap.size (w9.setCell ⟨w.heap.size, 72, none⟩ (.slice At M.wts.length ct)) := Stored.cell1 w9 ⟨w.heap.size, 72, none⟩ (.slice At M.wts.length ct)
 have xb9 := xb.set 72 (.slice At M.wts.length ct)
 replace zb := st.box zb (by omega)
 replace low := st.low low (Nat.le_refl _)
 have KF9 := Lib.hid (KF.out.out st (.inl (by omega)))
 clear KF
 have KF := KF9
 clear KF9
 have OR2 := Lib.hid (OR.out.stored st (by omega))
 have PF2 := Lib.hid (PF.out.kept st xb (by decide) (by decide))
 have IA2 := Lib.hid (IA.out.kept st (by omega))
 have RT2 := Lib.hid (row_kept RT.out st xb (by decide))
 have W9a := Lib.hid st.size
 rw [mcA_waits m64] at xb9
 clear st OR PF IA RT xb
 have OR := OR2
 have PF := PF2
 have IA := IA2
 have RT := RT2
 have xb := xb9
 clear OR2 PF2 IA2 RT2 xb9
 have rx := xb.range
 have sz : (mcA M.n M.s M.y M.b (.slice Aw M.css.length cw) M.mem (.slice Ar M.ring.length cr) (.slice (some ⟨gp, 0, none⟩) M.pr.length M.pr.length) (.slice (some ⟨ga, 0, none⟩) M.at_.length ca) (.slice At M.wts.length ct) M.had).size = (mcA 0 0 0 0 (.slice none 0 0) zeroL (.slice none 0 0) (.slice none 0 0) (.slice none 0 0) (.slice none 0 0) 0).size := by rw [mcA_size m64, mcA_size zeroL_length]
 have on : (mcA M.n M.s M.y M.b (.slice Aw M.css.length cw) M.mem (.slice Ar M.ring.length cr) (.slice (some ⟨gp, 0, none⟩) M.pr.length M.pr.length) (.slice (some ⟨ga, 0, none⟩) M.at_.length ca) (.slice At M.wts.length ct) M.had).all (·.oneCell') = true := mcA_one
 have q34 := W34.out
 have q56 := W56.out
 have q78 := W78.out
 have q9a := W9a.out
 have MK := Lib.hid (fun (W : World) (st : Stored (w9.setCell ⟨w.heap.size, 72, none⟩ (.slice At M.wts.length ct)) (w.heap.size + 1) W) => show NewM W w.heap.size (.agg (mcA M.n M.s M.y M.b (.slice Aw M.css.length cw) M.mem (.slice Ar M.ring.length cr) (.slice (some ⟨gp, 0, none⟩) M.pr.length M.pr.length) (.slice (some ⟨ga, 0, none⟩) M.at_.length ca) (.slice At M.wts.length ct) M.had)) M from
  ⟨m64, _, _, _, _, _, _, _, _, _, _, ga, _, _, _, rfl, ⟨KF.out.out st (.inl (by omega)), by omega, by rw [st.size]; omega, .inr (by omega)⟩, ⟨gr, by omega, by rw [st.size]; omega, OR.out.stored st (by omega)⟩, PF.out.kept st zb (by decide) (by decide), ⟨IA.out.kept st (by omega), by omega⟩, ⟨row_kept RT.out st zb (by decide), by omega, by omega⟩⟩)
 generalize mcA M.n M.s M.y M.b (.slice Aw M.css.length cw) M.mem (.slice Ar M.ring.length cr) (.slice (some ⟨gp, 0, none⟩) M.pr.length M.pr.length) (.slice (some ⟨ga, 0, none⟩) M.at_.length ca) (.slice At M.wts.length ct) M.had = XB at *
 go_wp2_with (first | ((with_reducible refine wp_loadW (tyMach) (rx) (sz) ?_ ?_ ?_); rfl; rfl) | ((with_reducible refine wp_storeW (tyMach) (zb) (rfl) (sz) (on) ?_ ?_ ?_); rfl; rfl))
 intro w11 zb2 st11
 replace low := st11.low low (by omega)
 have MK2 := Lib.hid (MK.out _ st11)
 clear st11 zb rx MK
 go_wp2_with fail
 exact bodyPost_ret (v := .tuple #[.agg XB, .int .i64 0]) (results_first tyMach Tryz.results50 rfl rfl zb2 sz) rfl ⟨⟨_, rfl, MK2.out⟩, low⟩
end Go.Proofs.YtcegjehoejgofaaGreat
namespace Go.Proofs.YtcegjehoejgofaaGreat
open Go.ChangeShapes Go.WideShapes Go.ChangeAt Go.RowKit Go.Joins
end Go.Proofs.YtcegjehoejgofaaGreat
namespace Go.Proofs.YtcegjehoejgofaaGreat
open Go.ChangeShapes Go.WideShapes Go.ChangeAt Go.RowKit Go.Joins
def deed0A : Array Value := #[.int .i64 0, .int .i64 0, .int .i64 0, .int .u64 0]
theorem tyCfg4 : Ty 23 #[.int .i64 0, .int .i64 0, .int .i64 0, .int .i64 0] := ⟨by kernel_rfl, ⟨_, Tryz.underlying23, rfl⟩, fun w => by kernel_rfl⟩
theorem tyDeed4 : Ty 49 deed0A := ⟨by kernel_rfl, ⟨_, Tryz.underlying49, rfl⟩, fun w => by kernel_rfl⟩
def deedA (d : Dd) : Array Value := #[.int .i64 d.nd, .int .i64 d.kd, .int .i64 d.ad, .int .u64 d.vl]
theorem deedA_one (d : Dd) : (deedA d).all (·.oneCell') = true := by simp [deedA, Value.oneCell']
def Gave (w : World) (B : Nat) (I : Bool) (css' : List (List St)) (mem' : List Int) (A : Option Addr) (c n : Nat) (m : List Int) : Prop := I = false → n = css'.length ∧ m = mem' ∧ KFr w B w.heap.size (.slice A n c) css'
section
variable {w w' : World} {B C : Nat} {I : Bool} {v : Value} {css css' : List (List St)} {mem' m : List Int} {A : Option Addr} {c n : Nat}
theorem KFr.kept {x : Nat} {T : TypeId} {cs : Array Value} (h : KFr w B C v css) (st : Stored w x w') (bx : Box w x T cs) (h1 : 114 ≠ T) (h2 : 193 ≠ T) (h3 : 160 ≠ T) : KFr w' B C v css :=
 h.map (fun _ _ b => st.box b (boxNe b bx h1)) (fun _ _ b => st.box b (boxNe b bx h2)) (fun _ _ b => st.box b (boxNe b bx h3))
theorem Gave.call (h : Gave w B I css' mem' A c n m) (hb : Below w.heap.size w w') : Gave w' B I css' mem' A c n m := fun hi => by
 obtain ⟨h1, h2, h3⟩ := h hi
 exact ⟨h1, h2, (h3.call hb).more (Nat.le_refl _) hb.size⟩
theorem Gave.kept {x : Nat} {T : TypeId} {cs : Array Value} (h : Gave w B I css' mem' A c n m) (st : Stored w x w') (bx : Box w x T cs) (k1 : 114 ≠ T) (k2 : 193 ≠ T) (k3 : 160 ≠ T) : Gave w' B I css' mem' A c n m := fun hi => by
 obtain ⟨h1, h2, h3⟩ := h hi
 exact ⟨h1, h2, by rw [st.size]; exact h3.kept st bx k1 k2 k3⟩
theorem Gave.more {B' : Nat} (h : Gave w B I css' mem' A c n m) (hB : B' ≤ B) : Gave w B' I css' mem' A c n m := fun hi => by
 obtain ⟨h1, h2, h3⟩ := h hi
 exact ⟨h1, h2, h3.more hB (Nat.le_refl _)⟩
end
def toldM (M : Mc) (d : Dd) : Int := if idleB M.css d = true then 0 else doV (flatW M.css M.mem) d
def idleE (M : Mc) (d : Dd) : Int := if idleB M.css d = true then 5 else 0
theorem do_any {M : Mc} {d : Dd} (m64 : M.mem.length = 64) (he : findE M.n M.s M.y M.b M.css M.mem d = 0) (v : Value) (w : World) (h : Ks w v M.css) :
  Calls Tryz.prog 85 #[cfg M.n M.s M.y M.b, wldV v M.mem, .agg (deedA d)] w fun e w' => (∃ A c n m f1 f2 f3 f4, e = .returned (.tuple #[wldV (.slice A n c) m, doneV (toldM M d) f1 f2 f3 f4, .int .i64 (idleE M d)]) ∧ m.length = 64 ∧
   Gave w' w.heap.size (idleB M.css d) (didF M.n M.s M.y M.b M.css M.mem d).1 (didF M.n M.s M.y M.b M.css M.mem d).2 A c n m) ∧ Below w.heap.size w w' := by
 unfold toldM idleE
 cases hi : idleB M.css d with
 | true =>
  rw [if_pos rfl, if_pos rfl]
  refine (do_idle m64 he hi v w h).mono ?_
  rintro e w' ⟨rfl, hb⟩
  exact ⟨⟨none, 0, 0, zeroL, _, _, _, _, rfl, zeroL_length, fun h => by cases h⟩, hb⟩
 | false =>
  rw [if_neg (by simp), if_neg (by simp)]
  obtain ⟨out, did, e2, C⟩ := didF_is m64 he hi
  refine (C v w h).mono ?_
  rintro e w' ⟨⟨v', rfl, kf⟩, hb⟩
  obtain ⟨A, c, rfl⟩ := kf.shape
  exact ⟨⟨A, c, _, _, _, _, _, _, rfl, keepM_length m64 out, fun _ => ⟨rfl, e2.symm, kf⟩⟩, hb⟩
theorem share0 {Φ G : Prop} (tree : Φ → G) (last : Φ) : G := tree last
theorem shareN {M Φ : Nat → World → Prop} {G : Prop} (tree : (∀ g w, M g w → Φ g w) → G) (last : ∀ g w, M g w → Φ g w) : G := tree last
theorem shareP {M Φ : Nat → Nat → Option Addr → Nat → Nat → List Int → Bool → Int → Int → Bool → World → Prop} {G : Prop} (tree : (∀ ga gb A c n m f1 f2 f3 f4 w, M ga gb A c n m f1 f2 f3 f4 w → Φ ga gb A c n m f1 f2 f3 f4 w) → G) (last : ∀ ga gb A c n m f1 f2 f3 f4 w, M ga gb A c n m f1 f2 f3 f4 w → Φ ga gb A c n m f1 f2 f3 f4 w) : G := tree last
structure NextV (w0 : World) (g : Nat) (w : World) : Prop where
 low : Below w0.heap.size w0 w
 new : w0.heap.size ≤ g
 box : Box w g 49 deed0A
theorem run_cfg {w : World} {g : Nat} {t : TypeId} {n s y b h : Int} {u rv pv av tv ev : Value} {m : List Int} (bx : Box w g t (runA n s y b u m rv pv av tv h ev)) : w.rangeAt g 0 (#[.int .i64 n, .int .i64 s, .int .i64 y, .int .i64 b] : Array Value).toList := fun j x hx => by
 refine bx.at_ (0 + j) ?_
 have hj : j < 4 := (List.getElem?_eq_some_iff.1 hx).1
 unfold runA runL
 rw [Nat.zero_add, List.getElem?_toArray, List.getElem?_append_left (by simpa using hj)]
 exact hx
theorem build_event (d : Dd) (u : Int) (bb : Bool) (w : World) : (Instr.build 51 #[(0, .agg (deedA d)), (1, .int .u64 u), (2, .bool bb)]).run Tryz.prog w = .ok (.agg #[.int .i64 d.nd, .int .i64 d.kd, .int .i64 d.ad, .int .u64 d.vl, .int .u64 u, .bool bb]) w := by kernel_rfl
theorem exec_buildE {ρ : Operand → Value} {dst : Option Tmp} {t : TypeId} {pos : String} {after : Array Edge} {gd : Option (Nat × Bool)} {x y z : Operand} {d : Dd} {u : Int} {bb : Bool} {w : World} (hx : ρ x = .agg (deedA d)) (hy : ρ y = .int .u64 u) (hz : ρ z = .bool bb) :
  (execOp ρ ⟨dst, .build 51 #[(0, x), (1, y), (2, z)], t, pos, after, gd⟩).run Tryz.prog w = .ok (.value (.agg #[.int .i64 d.nd, .int .i64 d.kd, .int .i64 d.ad, .int .u64 d.vl, .int .u64 u, .bool bb])) w := by
 unfold execOp
 simp only [List.map_toArray, List.map_cons, List.map_nil, hx, hy, hz, Sem.run_bind, build_event, Result.andThen_ok, Sem.run_pure]
theorem event_new (w : World) (x : Ev) (j : Nat) (u : Value) (h : (Ev.cells x)[j]? = some u) : (w.alloc (.cells (Ev.arr x) 51)).cell? ((⟨w.heap.size, 0, none⟩ : Addr).add j) = some u := by
 have e : (⟨w.heap.size, 0, none⟩ : Addr).add j = ⟨w.heap.size, j, none⟩ := by cases j <;> simp [Addr.add]
 rw [e]
 exact (Box.new w 51 (Ev.arr x)).at_ j (by show (Ev.cells x).toArray[j]? = some u; rw [List.getElem?_toArray]; exact h)
noncomputable def mid1 (M : Mc) (d : Dd) : Mc := if idleB M.css d = true then M else { M with css := (didF M.n M.s M.y M.b M.css M.mem d).1, mem := (didF M.n M.s M.y M.b M.css M.mem d).2 }
theorem perf_mid (M : Mc) (k : Nat) (d : Dd) {x : Int} (hx : M.at_[k]? = some x) : perf didF M k d = { mid1 M d with at_ := M.at_.set k (x + 1) } := by
 have gx : M.at_.getD k 0 = x := by simp [List.getD, hx]
 unfold perf mid1
 cases idleB M.css d
 ·rw [if_neg (by simp), if_neg (by simp), gx]
 ·rw [if_pos rfl, if_pos rfl, gx]
set_option maxRecDepth 10000 in
set_option maxHeartbeats 8000000 in
theorem perform_is (B g ga : Nat) (M : Mc) (ev : List Ev) (k : Nat) (d : Dd) (bb : Bool) (w : World) (h : RunS w B g ga M ev) (ok : McOk M) (hop : opAt M k = some d) (few : ev.length ≤ 500) :
  Calls Tryz.prog 52 #[.pointer (some ⟨g, 0, none⟩), .int .i64 k, .bool bb] w fun e w' => (e = .returned (.int .i64 0) ∧ RunS w' B g ga (perf didF M k d) (ev ++ [perfE M bb d]) ∧ Frame ga w w') ∧ Below B w w' := by
 have m64 := h.m64
 obtain ⟨x, l, hx, hl, x0, x1, hd, hnd, hde, hkn⟩ := opAt_some ok hop
 have he : findE M.n M.s M.y M.b M.css M.mem d = 0 := by unfold findE; rw [if_neg (by simpa using ok.coh), if_neg (by simpa using hde), if_neg (by omega)]
 have H := Lib.hid h
 obtain ⟨A0, c0, A1, c1, A2, c2, A3, c3, A4, c4, A5, c5, bx, _, ks, _, ps, sa, _, ia, re⟩ := h.read
 have NX := Lib.hid fun W (hb : Below w.heap.size w W) => (next_good _ _ M.pr M.at_ k x l W (ps.call hb) (Sl.call sa hb) ok.prs.symm hl hx x0).mono (fun e w' ⟨n, b⟩ => show e = Ending.returned (.tuple #[.agg (deedA d), .bool true, .int .i64 0]) ∧ Below W.heap.size W w' from ⟨by
  rcases n with ⟨n, _⟩ | ⟨j, d', n1, n2, n3⟩
  ·omega
  ·have : x.toNat = j := by omega
   rw [this, n2] at hd
   cases hd
   exact n3, b⟩)
 have DD := Lib.hid fun W (hb : Below w.heap.size w W) => do_any m64 he _ W (ks.call hb)
 have HX := Lib.hid hx
 have LL := Lib.hid (show l.length ≤ 20 from (listE_zero.1 (progsE_zero ok.prg).2.2 k l hl).1)
 obtain ⟨i0, hi0, hz0, hz1, hz2⟩ := info_parts info_event
 have HI := Lib.hid hi0
 have HZ := Lib.hid (And.intro hz0 (And.intro hz1 hz2))
 clear hi0 hz0 hz1 hz2
 have k0 : (0 : Int) ≤ k := by omega
 obtain ⟨⟨x0', x1', x2', x3'⟩, x69, x70, x71, x72, x73, x74⟩ := run_cells bx m64
 clear h ks ps sa hl hd hde hkn re ia x0' x1' x2' x3' x69 x72 x73 x74
 have low := Below.refl w.heap.size w
 go_enter Tryz.func52, Tryz.ntmps52
 go_wp2_with fail
 refine wp_region_noPanic ?_
 refine wp_region_held_drew (S := fun w' => w'.cell? ⟨g, 70, none⟩ = some (.slice A2 M.pr.length c2) ∧ w'.cell? ⟨g, 71, none⟩ = some (.slice A3 M.at_.length c3)) (by kernel_rfl) ⟨x70, x71⟩ (fun hHeld => ?_)
 replace low := low.drew
 generalize w.drew = wN at *
 clear x70 x71
 refine takeA 0 ?_ rfl ?_ ?_; rotate_left
 ·(intro w hSw; go_simp; try (with_reducible rfl))
 try simp only [Act.put, List.setIfInBounds_toArray, List.set_cons_zero, List.set_cons_succ]
 refine takeA 1 ?_ rfl ?_ ?_; rotate_left
 ·(intro w hSw; go_simp; try (with_reducible rfl))
 try simp only [Act.put, List.setIfInBounds_toArray, List.set_cons_zero, List.set_cons_succ]
 refine takeA 2 ?_ rfl ?_ ?_; rotate_left
 ·(intro w hSw; go_simp; try (with_reducible rfl))
 try simp only [Act.put, List.setIfInBounds_toArray, List.set_cons_zero, List.set_cons_succ]
 refine takeA 3 ?_ rfl ?_ ?_; rotate_left
 ·(intro w hSw; go_simp; try (with_reducible rfl))
 try simp only [Act.put, List.setIfInBounds_toArray, List.set_cons_zero, List.set_cons_succ]
 refine takeA 4 ?_ rfl ?_ ?_; rotate_left
 ·(intro w hSw; go_simp; try (with_reducible rfl))
 try simp only [Act.put, List.setIfInBounds_toArray, List.set_cons_zero, List.set_cons_succ]
 refine takeA 5 ?_ rfl ?_ ?_; rotate_left
 ·(intro w hSw; go_simp; try (with_reducible rfl))
 try simp only [Act.put, List.setIfInBounds_toArray, List.set_cons_zero, List.set_cons_succ]
 refine takeA 6 ?_ rfl ?_ ?_; rotate_left
 ·(intro w hSw; go_simp; try (with_reducible rfl))
 try simp only [Act.put, List.setIfInBounds_toArray, List.set_cons_zero, List.set_cons_succ]
 refine takeA 7 ?_ rfl ?_ ?_; rotate_left
 ·(intro w hSw; go_simp; try (with_reducible rfl))
 try simp only [Act.put, List.setIfInBounds_toArray, List.set_cons_zero, List.set_cons_succ]
 refine takeA 8 ?_ rfl ?_ ?_; rotate_left
 ·(intro w hSw; go_simp; try (with_reducible rfl))
 try simp only [Act.put, List.setIfInBounds_toArray, List.set_cons_zero, List.set_cons_succ]
 apply shareN (M := fun gx wz => NextV wN gx wz)
 ·intro hE
  have near := Below.refl wN.heap.size wN
  refine stepTwo (i1 := 9) (i2 := 14) (by kernel_rfl) rfl rfl (by rfl) (by rfl) (fun K hK => ?_) (fun K hK => ?_)
  ·go_simp
   (with_reducible refine (NX.out _ (gCall low near)).mono ?_); rintro e wx ⟨rfl, hbz⟩
   replace near := gCall near hbz
   try clear hNow
   have hNow := (And.intro (callC near hHeld.1) (callC near hHeld.2))
   refine hK.out _ _ hNow ?_
   clear hK K
   try simp only [Act.put]
   try simp only [List.setIfInBounds_toArray, List.set_cons_zero, List.set_cons_succ]
   refine takeA 10 ?_ rfl ?_ ?_; rotate_left
   ·(intro w hSw; go_simp; try (with_reducible rfl))
   try simp only [Act.put, List.setIfInBounds_toArray, List.set_cons_zero, List.set_cons_succ]
   refine takeA 11 ?_ rfl ?_ ?_; rotate_left
   ·(intro w hSw; go_simp; try (with_reducible rfl))
   try simp only [Act.put, List.setIfInBounds_toArray, List.set_cons_zero, List.set_cons_succ]
   refine takeA 12 ?_ rfl ?_ ?_; rotate_left
   ·(intro w hSw; go_simp; try (with_reducible rfl))
   try simp only [Act.put, List.setIfInBounds_toArray, List.set_cons_zero, List.set_cons_succ]
   refine takeA 13 ?_ rfl ?_ ?_; rotate_left
   ·(intro w hSw; go_simp; try (with_reducible rfl))
   try simp only [Act.put, List.setIfInBounds_toArray, List.set_cons_zero, List.set_cons_succ]
   clear hbz
   refine stepNext (i := 14) (by kernel_rfl) rfl (by rfl) (fun K hK => ?_)
   refine op_newW tyDeed4 ?_
   obtain ⟨gx, HG⟩ : ∃ gx, Hid (wx.heap.size = gx) := ⟨_, Lib.hid rfl⟩
   have new : wN.heap.size ≤ gx := by rw [← HG.out]; exact near.size
   replace near := gAlloc near (.cells deed0A 49)
   have box := Box.new wx 49 deed0A
   try clear hNow
   have hNow := (And.intro (callC near hHeld.1) (callC near hHeld.2))
   refine hK.out _ _ hNow ?_
   clear hK K
   try simp only [Act.put]
   try simp only [List.setIfInBounds_toArray, List.set_cons_zero, List.set_cons_succ]
   rw [HG.out] at box ⊢
   generalize wx.alloc (.cells deed0A 49) = wy at near box hNow ⊢
   refine relist (l2 := #[true, true, true, true, true, true, true, true, true, true, true, true, true, true, true, false, false, false]) (by kernel_rfl) ?_
   exact hE _ _ ⟨near, new, box⟩
  ·refine op_newW tyDeed4 ?_
   obtain ⟨gx, HG⟩ : ∃ gx, Hid (wN.heap.size = gx) := ⟨_, Lib.hid rfl⟩
   have new : wN.heap.size ≤ gx := by rw [← HG.out]; exact near.size
   replace near := gAlloc near (.cells deed0A 49)
   have box := Box.new wN 49 deed0A
   try clear hNow
   have hNow := (And.intro (callC near hHeld.1) (callC near hHeld.2))
   refine hK.out _ _ hNow ?_
   clear hK K
   try simp only [Act.put]
   try simp only [List.setIfInBounds_toArray, List.set_cons_zero, List.set_cons_succ]
   rw [HG.out] at box ⊢
   generalize wN.alloc (.cells deed0A 49) = wx at near box hNow ⊢
   refine stepNext (i := 9) (by kernel_rfl) rfl (by rfl) (fun K hK => ?_)
   go_simp
   (with_reducible refine (NX.out _ (gCall low near)).mono ?_); rintro e wy ⟨rfl, hbz⟩
   replace near := gCall near hbz
   try clear hNow
   have hNow := (And.intro (callC near hHeld.1) (callC near hHeld.2))
   refine hK.out _ _ hNow ?_
   clear hK K
   try simp only [Act.put]
   try simp only [List.setIfInBounds_toArray, List.set_cons_zero, List.set_cons_succ]
   refine takeA 10 ?_ rfl ?_ ?_; rotate_left
   ·(intro w hSw; go_simp; try (with_reducible rfl))
   try simp only [Act.put, List.setIfInBounds_toArray, List.set_cons_zero, List.set_cons_succ]
   refine takeA 11 ?_ rfl ?_ ?_; rotate_left
   ·(intro w hSw; go_simp; try (with_reducible rfl))
   try simp only [Act.put, List.setIfInBounds_toArray, List.set_cons_zero, List.set_cons_succ]
   refine takeA 12 ?_ rfl ?_ ?_; rotate_left
   ·(intro w hSw; go_simp; try (with_reducible rfl))
   try simp only [Act.put, List.setIfInBounds_toArray, List.set_cons_zero, List.set_cons_succ]
   refine takeA 13 ?_ rfl ?_ ?_; rotate_left
   ·(intro w hSw; go_simp; try (with_reducible rfl))
   try simp only [Act.put, List.setIfInBounds_toArray, List.set_cons_zero, List.set_cons_succ]
   replace box := box.call hbz
   refine relist (l2 := #[true, true, true, true, true, true, true, true, true, true, true, true, true, true, true, false, false, false]) (by kernel_rfl) ?_
   exact hE _ _ ⟨near, new, box⟩
 intro gd wz nv
 refine stepNext (i := 15) (by kernel_rfl) rfl (by rfl) (fun K hK => ?_)
 refine wp_store_box 49 (.tmp 8) (.tmp 27) rfl _ (deedA d) rfl rfl nv.box (tyDeed4.size.trans rfl) rfl (deedA_one d) ?_
 intro w4 db st
 have near := st.low nv.low nv.new
 have gnew := nv.new
 try clear hNow
 have hNow := (And.intro (callC near hHeld.1) (callC near hHeld.2))
 refine hK.out _ _ hNow ?_
 clear hK K
 try simp only [Act.put]
 try simp only [List.setIfInBounds_toArray, List.set_cons_zero, List.set_cons_succ]
 refine takeA 16 ?_ rfl ?_ ?_; rotate_left
 ·(intro w hSw; go_simp; try (with_reducible rfl))
 try simp only [Act.put, List.setIfInBounds_toArray, List.set_cons_zero, List.set_cons_succ]
 refine takeA 17 ?_ rfl ?_ ?_; rotate_left
 ·(intro w hSw; go_simp; try (with_reducible rfl))
 try simp only [Act.put, List.setIfInBounds_toArray, List.set_cons_zero, List.set_cons_succ]
 refine wpAnyH_done (by kernel_rfl) ?_ _
 refine NoPanic.normal ?_
 have gdn : w.heap.size ≤ gd := Nat.le_trans low.size gnew
 replace low := gCall low near
 clear hNow near st nv gnew
 have bx4 := bx.call low
 have rg := run_wld bx4
 clear bx
 go_wp2_with fail
 refine wp_region_noPanic ?_
 refine wp_region_held_drew (S := fun w' => Box w' g 127 (runA M.n M.s M.y M.b (.slice A0 M.css.length c0) M.mem (.slice A1 M.ring.length c1) (.slice A2 M.pr.length c2) (.slice A3 M.at_.length c3) (.slice A4 M.wts.length c4) M.had (.slice A5 ev.length c5)) ∧ Box w' gd 49 (deedA d)) (by kernel_rfl) ⟨bx4.drew, db.drew⟩ (fun hHeld => ?_)
 replace low := low.drew
 replace db := db.drew
 generalize w4.drew = wM at *
 clear bx4 rg
 refine takeA 0 ?_ rfl ?_ ?_; rotate_left
 ·(intro w hSw; go_simp; try (with_reducible rfl))
 try simp only [Act.put, List.setIfInBounds_toArray, List.set_cons_zero, List.set_cons_succ]
 refine takeA 1 ?_ rfl ?_ ?_; rotate_left
 ·(intro w hSw; go_simp; try (with_reducible rfl))
 try simp only [Act.put, List.setIfInBounds_toArray, List.set_cons_zero, List.set_cons_succ]
 refine takeA 2 ?_ rfl ?_ ?_; rotate_left
 ·(intro w hSw; go_simp; try (with_reducible rfl))
 try simp only [Act.put, List.setIfInBounds_toArray, List.set_cons_zero, List.set_cons_succ]
 refine takeFirst (i := 3) (v := .agg (#[.int .i64 M.n, .int .i64 M.s, .int .i64 M.y, .int .i64 M.b])) rfl (by kernel_rfl) (by kernel_rfl) (by kernel_rfl) (by rfl) (fun _ _ _ h => h) (fun _ hSw => exec_loadW tyCfg4 rfl (run_cfg hSw.1) (rfl)) (by assumption) ?_
 try simp only [Act.put]
 try simp only [List.setIfInBounds_toArray, List.set_cons_zero, List.set_cons_succ]
 refine takeA 4 ?_ rfl ?_ ?_; rotate_left
 ·(intro w hSw; go_simp; try (with_reducible rfl))
 try simp only [Act.put, List.setIfInBounds_toArray, List.set_cons_zero, List.set_cons_succ]
 refine takeA 5 ?_ rfl ?_ ?_; rotate_left
 ·(intro w hSw; go_simp; try (with_reducible rfl))
 try simp only [Act.put, List.setIfInBounds_toArray, List.set_cons_zero, List.set_cons_succ]
 refine takeA 6 ?_ rfl ?_ ?_; rotate_left
 ·(intro w hSw; go_simp; try (with_reducible rfl))
 try simp only [Act.put, List.setIfInBounds_toArray, List.set_cons_zero, List.set_cons_succ]
 refine takeFirst (i := 7) (v := .agg (wldA (.slice A0 M.css.length c0) M.mem)) rfl (by kernel_rfl) (by kernel_rfl) (by kernel_rfl) (by rfl) (fun _ _ _ h => h) (fun _ hSw => exec_loadW tyWorld rfl (run_wld hSw.1) (wld_size m64)) (by assumption) ?_
 try simp only [Act.put]
 try simp only [List.setIfInBounds_toArray, List.set_cons_zero, List.set_cons_succ]
 refine takeFirst (i := 8) (v := .agg (deedA d)) rfl (by kernel_rfl) (by kernel_rfl) (by kernel_rfl) (by rfl) (fun _ _ _ h => h) (fun _ hSw => exec_loadW tyDeed4 rfl (Box.range hSw.2) (rfl)) (by assumption) ?_
 try simp only [Act.put]
 try simp only [List.setIfInBounds_toArray, List.set_cons_zero, List.set_cons_succ]
 apply shareP (M := fun gv gt A c n m f1 f2 f3 f4 wz => Two wM 31 nilW 180 done0 wz (some gv) (some gt) ∧ m.length = 64 ∧ Gave wz wM.heap.size (idleB M.css d) (didF M.n M.s M.y M.b M.css M.mem d).1 (didF M.n M.s M.y M.b M.css M.mem d).2 A c n m)
 ·intro hE
  have mid := Two.start wM 31 nilW 180 done0
  refine stepThree (i1 := 9) (i2 := 14) (i3 := 15) (by kernel_rfl) rfl rfl rfl (by rfl) (by rfl) (by rfl) (fun K hK => ?_) (fun K hK => ?_) (fun K hK => ?_)
  ·go_simp
   (with_reducible refine (Calls.mono (DD.out _ (gCall low mid.low)) ?_)); rintro e wa ⟨⟨A9, c9, n9, m9, f1, f2, f3, f4, rfl, hm9, gv⟩, hbz⟩
   have G := Lib.hid (gv.more mid.low.size)
   replace mid := mid.call hbz
   clear hbz gv
   try clear hNow
   have hNow := And.intro (hHeld.1.call mid.low) (hHeld.2.call mid.low)
   refine hK.out _ _ hNow ?_
   clear hK K
   try simp only [Act.put]
   try simp only [List.setIfInBounds_toArray, List.set_cons_zero, List.set_cons_succ]
   refine takeA 10 ?_ rfl ?_ ?_; rotate_left
   ·(intro w hSw; go_simp; try (with_reducible rfl))
   try simp only [Act.put, List.setIfInBounds_toArray, List.set_cons_zero, List.set_cons_succ]
   refine takeA 11 ?_ rfl ?_ ?_; rotate_left
   ·(intro w hSw; go_simp; try (with_reducible rfl))
   try simp only [Act.put, List.setIfInBounds_toArray, List.set_cons_zero, List.set_cons_succ]
   refine takeA 12 ?_ rfl ?_ ?_; rotate_left
   ·(intro w hSw; go_simp; try (with_reducible rfl))
   try simp only [Act.put, List.setIfInBounds_toArray, List.set_cons_zero, List.set_cons_succ]
   refine takeA 13 ?_ rfl ?_ ?_; rotate_left
   ·(intro w hSw; go_simp; try (with_reducible rfl))
   try simp only [Act.put, List.setIfInBounds_toArray, List.set_cons_zero, List.set_cons_succ]
   refine stepTwo (i1 := 14) (i2 := 15) (by kernel_rfl) rfl rfl (by rfl) (by rfl) (fun K hK => ?_) (fun K hK => ?_)
   ·refine op_newW tyWorld ?_
    replace mid := mid.allocA
    replace G := Lib.hid (G.out.call (gAlloc (Below.refl wa.heap.size wa) (.cells nilW 31)))
    try clear hNow
    have hNow := And.intro (hHeld.1.call mid.low) (hHeld.2.call mid.low)
    refine hK.out _ _ hNow ?_
    clear hK K
    try simp only [Act.put]
    try simp only [List.setIfInBounds_toArray, List.set_cons_zero, List.set_cons_succ]
    generalize wa.heap.size = gv at mid ⊢
    generalize wa.alloc (.cells nilW 31) = wb1 at mid hNow G ⊢
    refine stepNext (i := 15) (by kernel_rfl) rfl (by rfl) (fun K hK => ?_)
    refine op_newW tyDone ?_
    replace mid := mid.allocB
    replace G := Lib.hid (G.out.call (gAlloc (Below.refl wb1.heap.size wb1) (.cells done0 180)))
    try clear hNow
    have hNow := And.intro (hHeld.1.call mid.low) (hHeld.2.call mid.low)
    refine hK.out _ _ hNow ?_
    clear hK K
    try simp only [Act.put]
    try simp only [List.setIfInBounds_toArray, List.set_cons_zero, List.set_cons_succ]
    generalize wb1.heap.size = gt at mid ⊢
    generalize wb1.alloc (.cells done0 180) = wc at mid hNow G ⊢
    refine relist (l2 := #[true, true, true, true, true, true, true, true, true, true, true, true, true, true, true, true, false, false, false]) (by kernel_rfl) ?_
    exact hE gv gt A9 c9 n9 m9 f1 f2 f3 f4 _ ⟨mid, hm9, G.out⟩
   ·refine op_newW tyDone ?_
    replace mid := mid.allocB
    replace G := Lib.hid (G.out.call (gAlloc (Below.refl wa.heap.size wa) (.cells done0 180)))
    try clear hNow
    have hNow := And.intro (hHeld.1.call mid.low) (hHeld.2.call mid.low)
    refine hK.out _ _ hNow ?_
    clear hK K
    try simp only [Act.put]
    try simp only [List.setIfInBounds_toArray, List.set_cons_zero, List.set_cons_succ]
    generalize wa.heap.size = gt at mid ⊢
    generalize wa.alloc (.cells done0 180) = wb1 at mid hNow G ⊢
    refine stepNext (i := 14) (by kernel_rfl) rfl (by rfl) (fun K hK => ?_)
    refine op_newW tyWorld ?_
    replace mid := mid.allocA
    replace G := Lib.hid (G.out.call (gAlloc (Below.refl wb1.heap.size wb1) (.cells nilW 31)))
    try clear hNow
    have hNow := And.intro (hHeld.1.call mid.low) (hHeld.2.call mid.low)
    refine hK.out _ _ hNow ?_
    clear hK K
    try simp only [Act.put]
    try simp only [List.setIfInBounds_toArray, List.set_cons_zero, List.set_cons_succ]
    generalize wb1.heap.size = gv at mid ⊢
    generalize wb1.alloc (.cells nilW 31) = wc at mid hNow G ⊢
    refine relist (l2 := #[true, true, true, true, true, true, true, true, true, true, true, true, true, true, true, true, false, false, false]) (by kernel_rfl) ?_
    exact hE gv gt A9 c9 n9 m9 f1 f2 f3 f4 _ ⟨mid, hm9, G.out⟩
  ·refine op_newW tyWorld ?_
   replace mid := mid.allocA
   try clear hNow
   have hNow := And.intro (hHeld.1.call mid.low) (hHeld.2.call mid.low)
   refine hK.out _ _ hNow ?_
   clear hK K
   try simp only [Act.put]
   try simp only [List.setIfInBounds_toArray, List.set_cons_zero, List.set_cons_succ]
   generalize wM.heap.size = gv at mid ⊢
   generalize wM.alloc (.cells nilW 31) = wa at mid hNow ⊢
   refine stepTwo (i1 := 9) (i2 := 15) (by kernel_rfl) rfl rfl (by rfl) (by rfl) (fun K hK => ?_) (fun K hK => ?_)
   ·go_simp
    (with_reducible refine (Calls.mono (DD.out _ (gCall low mid.low)) ?_)); rintro e wb1 ⟨⟨A9, c9, n9, m9, f1, f2, f3, f4, rfl, hm9, gv⟩, hbz⟩
    have G := Lib.hid (gv.more mid.low.size)
    replace mid := mid.call hbz
    clear hbz gv
    try clear hNow
    have hNow := And.intro (hHeld.1.call mid.low) (hHeld.2.call mid.low)
    refine hK.out _ _ hNow ?_
    clear hK K
    try simp only [Act.put]
    try simp only [List.setIfInBounds_toArray, List.set_cons_zero, List.set_cons_succ]
    refine takeA 10 ?_ rfl ?_ ?_; rotate_left
    ·(intro w hSw; go_simp; try (with_reducible rfl))
    try simp only [Act.put, List.setIfInBounds_toArray, List.set_cons_zero, List.set_cons_succ]
    refine takeA 11 ?_ rfl ?_ ?_; rotate_left
    ·(intro w hSw; go_simp; try (with_reducible rfl))
    try simp only [Act.put, List.setIfInBounds_toArray, List.set_cons_zero, List.set_cons_succ]
    refine takeA 12 ?_ rfl ?_ ?_; rotate_left
    ·(intro w hSw; go_simp; try (with_reducible rfl))
    try simp only [Act.put, List.setIfInBounds_toArray, List.set_cons_zero, List.set_cons_succ]
    refine takeA 13 ?_ rfl ?_ ?_; rotate_left
    ·(intro w hSw; go_simp; try (with_reducible rfl))
    try simp only [Act.put, List.setIfInBounds_toArray, List.set_cons_zero, List.set_cons_succ]
    refine stepNext (i := 15) (by kernel_rfl) rfl (by rfl) (fun K hK => ?_)
    refine op_newW tyDone ?_
    replace mid := mid.allocB
    replace G := Lib.hid (G.out.call (gAlloc (Below.refl wb1.heap.size wb1) (.cells done0 180)))
    try clear hNow
    have hNow := And.intro (hHeld.1.call mid.low) (hHeld.2.call mid.low)
    refine hK.out _ _ hNow ?_
    clear hK K
    try simp only [Act.put]
    try simp only [List.setIfInBounds_toArray, List.set_cons_zero, List.set_cons_succ]
    generalize wb1.heap.size = gt at mid ⊢
    generalize wb1.alloc (.cells done0 180) = wc at mid hNow G ⊢
    refine relist (l2 := #[true, true, true, true, true, true, true, true, true, true, true, true, true, true, true, true, false, false, false]) (by kernel_rfl) ?_
    exact hE gv gt A9 c9 n9 m9 f1 f2 f3 f4 _ ⟨mid, hm9, G.out⟩
   ·refine op_newW tyDone ?_
    replace mid := mid.allocB
    try clear hNow
    have hNow := And.intro (hHeld.1.call mid.low) (hHeld.2.call mid.low)
    refine hK.out _ _ hNow ?_
    clear hK K
    try simp only [Act.put]
    try simp only [List.setIfInBounds_toArray, List.set_cons_zero, List.set_cons_succ]
    generalize wa.heap.size = gt at mid ⊢
    generalize wa.alloc (.cells done0 180) = wb1 at mid hNow ⊢
    refine stepNext (i := 9) (by kernel_rfl) rfl (by rfl) (fun K hK => ?_)
    go_simp
    (with_reducible refine (Calls.mono (DD.out _ (gCall low mid.low)) ?_)); rintro e wc ⟨⟨A9, c9, n9, m9, f1, f2, f3, f4, rfl, hm9, gv⟩, hbz⟩
    have G := Lib.hid (gv.more mid.low.size)
    replace mid := mid.call hbz
    clear hbz gv
    try clear hNow
    have hNow := And.intro (hHeld.1.call mid.low) (hHeld.2.call mid.low)
    refine hK.out _ _ hNow ?_
    clear hK K
    try simp only [Act.put]
    try simp only [List.setIfInBounds_toArray, List.set_cons_zero, List.set_cons_succ]
    refine takeA 10 ?_ rfl ?_ ?_; rotate_left
    ·(intro w hSw; go_simp; try (with_reducible rfl))
    try simp only [Act.put, List.setIfInBounds_toArray, List.set_cons_zero, List.set_cons_succ]
    refine takeA 11 ?_ rfl ?_ ?_; rotate_left
    ·(intro w hSw; go_simp; try (with_reducible rfl))
    try simp only [Act.put, List.setIfInBounds_toArray, List.set_cons_zero, List.set_cons_succ]
    refine takeA 12 ?_ rfl ?_ ?_; rotate_left
    ·(intro w hSw; go_simp; try (with_reducible rfl))
    try simp only [Act.put, List.setIfInBounds_toArray, List.set_cons_zero, List.set_cons_succ]
    refine takeA 13 ?_ rfl ?_ ?_; rotate_left
    ·(intro w hSw; go_simp; try (with_reducible rfl))
    try simp only [Act.put, List.setIfInBounds_toArray, List.set_cons_zero, List.set_cons_succ]
    refine relist (l2 := #[true, true, true, true, true, true, true, true, true, true, true, true, true, true, true, true, false, false, false]) (by kernel_rfl) ?_
    exact hE gv gt A9 c9 n9 m9 f1 f2 f3 f4 _ ⟨mid, hm9, G.out⟩
  ·refine op_newW tyDone ?_
   replace mid := mid.allocB
   try clear hNow
   have hNow := And.intro (hHeld.1.call mid.low) (hHeld.2.call mid.low)
   refine hK.out _ _ hNow ?_
   clear hK K
   try simp only [Act.put]
   try simp only [List.setIfInBounds_toArray, List.set_cons_zero, List.set_cons_succ]
   generalize wM.heap.size = gt at mid ⊢
   generalize wM.alloc (.cells done0 180) = wa at mid hNow ⊢
   refine stepTwo (i1 := 9) (i2 := 14) (by kernel_rfl) rfl rfl (by rfl) (by rfl) (fun K hK => ?_) (fun K hK => ?_)
   ·go_simp
    (with_reducible refine (Calls.mono (DD.out _ (gCall low mid.low)) ?_)); rintro e wb1 ⟨⟨A9, c9, n9, m9, f1, f2, f3, f4, rfl, hm9, gv⟩, hbz⟩
    have G := Lib.hid (gv.more mid.low.size)
    replace mid := mid.call hbz
    clear hbz gv
    try clear hNow
    have hNow := And.intro (hHeld.1.call mid.low) (hHeld.2.call mid.low)
    refine hK.out _ _ hNow ?_
    clear hK K
    try simp only [Act.put]
    try simp only [List.setIfInBounds_toArray, List.set_cons_zero, List.set_cons_succ]
    refine takeA 10 ?_ rfl ?_ ?_; rotate_left
    ·(intro w hSw; go_simp; try (with_reducible rfl))
    try simp only [Act.put, List.setIfInBounds_toArray, List.set_cons_zero, List.set_cons_succ]
    refine takeA 11 ?_ rfl ?_ ?_; rotate_left
    ·(intro w hSw; go_simp; try (with_reducible rfl))
    try simp only [Act.put, List.setIfInBounds_toArray, List.set_cons_zero, List.set_cons_succ]
    refine takeA 12 ?_ rfl ?_ ?_; rotate_left
    ·(intro w hSw; go_simp; try (with_reducible rfl))
    try simp only [Act.put, List.setIfInBounds_toArray, List.set_cons_zero, List.set_cons_succ]
    refine takeA 13 ?_ rfl ?_ ?_; rotate_left
    ·(intro w hSw; go_simp; try (with_reducible rfl))
    try simp only [Act.put, List.setIfInBounds_toArray, List.set_cons_zero, List.set_cons_succ]
    refine stepNext (i := 14) (by kernel_rfl) rfl (by rfl) (fun K hK => ?_)
    refine op_newW tyWorld ?_
    replace mid := mid.allocA
    replace G := Lib.hid (G.out.call (gAlloc (Below.refl wb1.heap.size wb1) (.cells nilW 31)))
    try clear hNow
    have hNow := And.intro (hHeld.1.call mid.low) (hHeld.2.call mid.low)
    refine hK.out _ _ hNow ?_
    clear hK K
    try simp only [Act.put]
    try simp only [List.setIfInBounds_toArray, List.set_cons_zero, List.set_cons_succ]
    generalize wb1.heap.size = gv at mid ⊢
    generalize wb1.alloc (.cells nilW 31) = wc at mid hNow G ⊢
    refine relist (l2 := #[true, true, true, true, true, true, true, true, true, true, true, true, true, true, true, true, false, false, false]) (by kernel_rfl) ?_
    exact hE gv gt A9 c9 n9 m9 f1 f2 f3 f4 _ ⟨mid, hm9, G.out⟩
   ·refine op_newW tyWorld ?_
    replace mid := mid.allocA
    try clear hNow
    have hNow := And.intro (hHeld.1.call mid.low) (hHeld.2.call mid.low)
    refine hK.out _ _ hNow ?_
    clear hK K
    try simp only [Act.put]
    try simp only [List.setIfInBounds_toArray, List.set_cons_zero, List.set_cons_succ]
    generalize wa.heap.size = gv at mid ⊢
    generalize wa.alloc (.cells nilW 31) = wb1 at mid hNow ⊢
    refine stepNext (i := 9) (by kernel_rfl) rfl (by rfl) (fun K hK => ?_)
    go_simp
    (with_reducible refine (Calls.mono (DD.out _ (gCall low mid.low)) ?_)); rintro e wc ⟨⟨A9, c9, n9, m9, f1, f2, f3, f4, rfl, hm9, gv⟩, hbz⟩
    have G := Lib.hid (gv.more mid.low.size)
    replace mid := mid.call hbz
    clear hbz gv
    try clear hNow
    have hNow := And.intro (hHeld.1.call mid.low) (hHeld.2.call mid.low)
    refine hK.out _ _ hNow ?_
    clear hK K
    try simp only [Act.put]
    try simp only [List.setIfInBounds_toArray, List.set_cons_zero, List.set_cons_succ]
    refine takeA 10 ?_ rfl ?_ ?_; rotate_left
    ·(intro w hSw; go_simp; try (with_reducible rfl))
    try simp only [Act.put, List.setIfInBounds_toArray, List.set_cons_zero, List.set_cons_succ]
    refine takeA 11 ?_ rfl ?_ ?_; rotate_left
    ·(intro w hSw; go_simp; try (with_reducible rfl))
    try simp only [Act.put, List.setIfInBounds_toArray, List.set_cons_zero, List.set_cons_succ]
    refine takeA 12 ?_ rfl ?_ ?_; rotate_left
    ·(intro w hSw; go_simp; try (with_reducible rfl))
    try simp only [Act.put, List.setIfInBounds_toArray, List.set_cons_zero, List.set_cons_succ]
    refine takeA 13 ?_ rfl ?_ ?_; rotate_left
    ·(intro w hSw; go_simp; try (with_reducible rfl))
    try simp only [Act.put, List.setIfInBounds_toArray, List.set_cons_zero, List.set_cons_succ]
    refine relist (l2 := #[true, true, true, true, true, true, true, true, true, true, true, true, true, true, true, true, false, false, false]) (by kernel_rfl) ?_
    exact hE gv gt A9 c9 n9 m9 f1 f2 f3 f4 _ ⟨mid, hm9, G.out⟩
 intro gv gt A c n m f1 f2 f3 f4 wz two_hm_G
 obtain ⟨two, hm, G0⟩ := two_hm_G
 have sm : (wldA (.slice A n c) m).size = nilW.size := wld_size hm
 have om : (wldA (.slice A n c) m).all (·.oneCell') = true := wldA_one _
 have vn := (two.fa _ rfl).1
 have tn := (two.fb _ rfl).1
 refine stepNext (i := 16) (by kernel_rfl) rfl (by rfl) (fun K hK => ?_)
 refine wp_store_box 31 (.tmp 11) (.tmp 44) rfl _ (wldA (.slice A n c) m) rfl rfl (two.fa _ rfl).2 (tyWorld.size.trans (congrArg some sm.symm)) sm.symm om ?_
 intro w5 vb st5
 have near := st5.low two.low vn
 have tb := st5.box (two.fb _ rfl).2 (fun e => two.ne _ _ rfl rfl e.symm)
 have G5 := Lib.hid (G0.kept st5 (two.fa _ rfl).2 (by decide) (by decide) (by decide))
 have hNow := And.intro (hHeld.1.call near) (hHeld.2.call near)
 refine hK.out _ _ hNow ?_
 clear hK K
 try simp only [Act.put]
 try simp only [List.setIfInBounds_toArray, List.set_cons_zero, List.set_cons_succ]
 refine stepNext (i := 17) (by kernel_rfl) rfl (by rfl) (fun K hK => ?_)
 refine wp_store_box 180 (.tmp 12) (.tmp 45) rfl _ (doneA (toldM M d) f1 f2 f3 f4) rfl rfl tb (tyDone.size.trans rfl) rfl (done_one _ _ _ _ _) ?_
 intro w6 tb6 st6
 have near6 := st6.low near tn
 have vb6 := st6.box vb (fun e => two.ne _ _ rfl rfl e)
 have G6 := Lib.hid (G5.out.kept st6 tb (by decide) (by decide) (by decide))
 have hNow2 := And.intro (hHeld.1.call near6) (hHeld.2.call near6)
 refine hK.out _ _ hNow2 ?_
 clear hK K
 try simp only [Act.put]
 try simp only [List.setIfInBounds_toArray, List.set_cons_zero, List.set_cons_succ]
 refine takeA 18 ?_ rfl ?_ ?_; rotate_left
 ·(intro w hSw; go_simp; try (with_reducible rfl))
 try simp only [Act.put, List.setIfInBounds_toArray, List.set_cons_zero, List.set_cons_succ]
 refine wpAnyH_done (by kernel_rfl) ?_ _
 refine NoPanic.normal ?_
 have db6 := db.call near6
 have lz := low.size
 replace low := gCall low near6
 have gl := H.out.lt
 have H6 := Lib.hid (H.out.call low)
 have G7 := Lib.hid (G6.out.more lz)
 clear hHeld hNow hNow2 st5 st6 near near6 two tb G0 G5 G6 vb db
 have AB := H.out.aB
 have GB := H.out.gB
 generalize hu : toldM M d = u at *
 have HU := Lib.hid hu
 generalize hE : idleE M d = E at *
 have HE := Lib.hid hE
 clear hu hE hnd
 have x20 : x < 20 := by have := LL.out; omega
 cases hi : idleB M.css d with
 | true =>
  have e5 : E = 5 := by rw [← HE.out]; unfold idleE; rw [if_pos hi]
  have em : mid1 M d = M := by unfold mid1; rw [if_pos hi]
  subst e5
  have H7R : RunS w6 B g ga (mid1 M d) ev := by rw [em]; exact H6.out
  have FRM := Lib.hid (Frame.call (ga := ga) low)
  clear em
  have H7 := Lib.hid H7R
  obtain ⟨B0, d0, B1, d1, B2, d2, B3, d3, B4, d4, B5, d5, bx7, _, _, _, _, _, _, ia7, re7⟩ := H7.out.read
  obtain ⟨cap, eia, hcap⟩ := ia7.shape
  injection eia with q1 _ q3
  subst q1 q3
  have AT1 := Lib.hid (show (mid1 M d).at_ = M.at_ by unfold mid1; split <;> rfl)
  have HX7 : (mid1 M d).at_[k]? = some x := by rw [AT1.out]; exact HX.out
  have c71 := (run_cells bx7 H7.out.m64).2.2.2.1
  have c74 := (run_cells bx7 H7.out.m64).2.2.2.2.2.2
  have cat := ia7.at_ HX7
  have fat := ia7.free k
  have ktl : (k : Int) < (mid1 M d).at_.length := by have := (List.getElem?_eq_some_iff.1 HX7).1; omega
  have ST8 := Lib.hid (Stored.cell1 w6 ⟨ga, k, none⟩ (.int .i64 (x + 1)))
  obtain ⟨H8, FR8⟩ := H7.out.setAt k (x + 1)
  have low8 := ST8.out.low (low.mono (by have := H.out.lt; omega)) H7.out.aB
  have db8 := FR8 gd _ _ (by decide) (by decide) (by omega) db6
  have tb8 := FR8 gt _ _ (by decide) (by decide) (by omega) tb6
  have H8' := Lib.hid H8
  have FR8' := Lib.hid (FRM.out.trans FR8)
  clear H8 FR8 bx7 ia7 re7 ST8 H7 FRM
  go_wp2_with fail
  have al8 : ({ mid1 M d with at_ := (mid1 M d).at_.set k (x + 1) } : Mc) = perf didF M k d := by rw [perf_mid M k d HX.out, AT1.out]
  rw [al8] at H8'
  generalize w6.setCell ⟨ga, k, none⟩ (.int .i64 (x + 1)) = w8 at *
  clear c71 c74 cat fat ktl AT1 HX7 al8
  obtain ⟨B0, d0, B1, d1, B2, d2, B3, d3, B4, d4, B5, d5, bx8, _, _, _, _, _, _, _, re8⟩ := H8'.out.read
  have c74 := (run_cells bx8 H8'.out.m64).2.2.2.2.2.2
  have RE8 := Lib.hid re8
  clear bx8 re8
  refine wp_region_noPanic ?_
  refine wp_region_held_drew (S := fun w' => Box w' gd 49 (deedA d) ∧ Box w' gt 180 (doneA u f1 f2 f3 f4)) (by kernel_rfl) ⟨db8.drew, tb8.drew⟩ (fun hHeld => ?_)
  have H9 := Lib.hid (H8'.out.call (Below.refl _ _).drew)
  have FR9 := Lib.hid (FR8'.out.trans (Frame.call (ga := ga) (Below.refl w8.heap.size w8).drew))
  have low9 := low8.drew
  have RE9 := Lib.hid (own_below RE8.out (Below.refl _ _).drew)
  replace c74 := drewC c74
  clear H8' FR8' low8 RE8 db8 tb8
  generalize w8.drew = wy at *
  refine takeA 0 ?_ rfl ?_ ?_; rotate_left
  ·(intro w hSw; go_simp; try (with_reducible rfl))
  try simp only [Act.put, List.setIfInBounds_toArray, List.set_cons_zero, List.set_cons_succ]
  refine takeA 1 ?_ rfl ?_ ?_; rotate_left
  ·(intro w hSw; go_simp; try (with_reducible rfl))
  try simp only [Act.put, List.setIfInBounds_toArray, List.set_cons_zero, List.set_cons_succ]
  refine takeA 2 ?_ rfl ?_ ?_; rotate_left
  ·(intro w hSw; go_simp; try (with_reducible rfl))
  try simp only [Act.put, List.setIfInBounds_toArray, List.set_cons_zero, List.set_cons_succ]
  refine takeA 3 ?_ rfl ?_ ?_; rotate_left
  ·(intro w hSw; go_simp; try (with_reducible rfl))
  try simp only [Act.put, List.setIfInBounds_toArray, List.set_cons_zero, List.set_cons_succ]
  refine takeFirst (i := 5) (v := .agg (deedA d)) rfl (by kernel_rfl) (by kernel_rfl) (by kernel_rfl) (by rfl) (fun _ _ _ h => h) (fun _ hSw => exec_loadW tyDeed4 rfl (Box.range hSw.1) (rfl)) (by assumption) ?_
  try simp only [Act.put]
  try simp only [List.setIfInBounds_toArray, List.set_cons_zero, List.set_cons_succ]
  refine takeA 6 ?_ rfl ?_ ?_; rotate_left
  ·(intro w hSw; go_simp; try (with_reducible rfl))
  try simp only [Act.put, List.setIfInBounds_toArray, List.set_cons_zero, List.set_cons_succ]
  refine takeFirst (i := 7) (v := .int .u64 u) rfl (by kernel_rfl) (by kernel_rfl) (by kernel_rfl) (by rfl) (fun _ _ _ h => h) (fun w' hSw => by have c9 := hSw.2.at_ 0 rfl; go_simp) (by assumption) ?_
  try simp only [Act.put]
  try simp only [List.setIfInBounds_toArray, List.set_cons_zero, List.set_cons_succ]
  refine takeA 8 ?_ rfl ?_ ?_; rotate_left
  ·(intro w hSw; go_simp; try (with_reducible rfl))
  try simp only [Act.put, List.setIfInBounds_toArray, List.set_cons_zero, List.set_cons_succ]
  refine takeFirst (i := 9) (v := .agg #[.int .i64 d.nd, .int .i64 d.kd, .int .i64 d.ad, .int .u64 d.vl, .int .u64 u, .bool bb]) rfl (by kernel_rfl) (by kernel_rfl) (by kernel_rfl) (by rfl) (fun _ _ _ h => h) (fun _ _ => exec_buildE rfl rfl rfl) (by assumption) ?_
  try simp only [Act.put]
  try simp only [List.setIfInBounds_toArray, List.set_cons_zero, List.set_cons_succ]
  have alc := gAlloc (Below.refl wy.heap.size wy) (.cells #[.int .i64 d.nd, .int .i64 d.kd, .int .i64 d.ad, .int .u64 d.vl, .int .u64 u, .bool bb] 51)
  have c74b := allocC (.cells #[.int .i64 d.nd, .int .i64 d.kd, .int .i64 d.ad, .int .u64 d.vl, .int .u64 u, .bool bb] 51) c74
  have hNext := And.intro (hHeld.1.call alc) (hHeld.2.call alc)
  apply share0
  ·intro hE
   refine stepTwo (i1 := 4) (i2 := 10) (by kernel_rfl) rfl rfl (by rfl) (by rfl) (fun K hK => ?_) (fun K hK => ?_)
   ·go_simp
    refine hK.out _ _ hHeld ?_
    clear hK K
    try simp only [Act.put]
    try simp only [List.setIfInBounds_toArray, List.set_cons_zero, List.set_cons_succ]
    refine stepNext (i := 10) (by kernel_rfl) rfl (by rfl) (fun K hK => ?_)
    go_simp
    refine hK.out _ _ hNext ?_
    clear hK K
    try simp only [Act.put]
    try simp only [List.setIfInBounds_toArray, List.set_cons_zero, List.set_cons_succ]
    refine relist (l2 := #[true, true, true, true, true, true, true, true, true, true, true, false, false, false, false]) (by kernel_rfl) ?_
    exact hE
   ·go_simp
    refine hK.out _ _ hNext ?_
    clear hK K
    try simp only [Act.put]
    try simp only [List.setIfInBounds_toArray, List.set_cons_zero, List.set_cons_succ]
    refine stepNext (i := 4) (by kernel_rfl) rfl (by rfl) (fun K hK => ?_)
    go_simp
    refine hK.out _ _ hNext ?_
    clear hK K
    try simp only [Act.put]
    try simp only [List.setIfInBounds_toArray, List.set_cons_zero, List.set_cons_succ]
    refine relist (l2 := #[true, true, true, true, true, true, true, true, true, true, true, false, false, false, false]) (by kernel_rfl) ?_
    exact hE
  have H10 := Lib.hid (H9.out.call alc)
  have FR10 := Lib.hid (FR9.out.trans (Frame.call (ga := ga) alc))
  have RE10 := Lib.hid (own_below RE9.out alc)
  have low10 := low9.trans (alc.mono (B' := B) (by have := H9.out.lt; have := H9.out.gB; omega))
  have news := Lib.hid fun j u' h => event_new wy ⟨d, u, bb⟩ j u' h
  clear H9 FR9 low9 RE9 hHeld alc c74
  generalize hw10 : wy.alloc (.cells #[.int .i64 d.nd, .int .i64 d.kd, .int .i64 d.ad, .int .u64 d.vl, .int .u64 u, .bool bb] 51) = w10 at *
  have lz10 : B ≤ w10.heap.size := by have := H10.out.lt; have := H10.out.gB; omega
  clear hw10
  refine stepNext (i := 11) (by kernel_rfl) rfl (by rfl) (fun K hK => ?_)
  refine wp_append_own _ (.tmp 70) (.tmp 76) 42 rfl B 51 i0 (.agg #[.int .i64 0, .int .i64 0, .int .i64 0, .int .u64 0, .int .u64 0, .bool false]) 6 48 Tryz.underlying42 HI.out HZ.out.1 HZ.out.2.1 HZ.out.2.2 rfl (by decide) _ _ _ rfl RE10.out ⟨wy.heap.size, 0, none⟩ 1 1 (Ev.cells ⟨d, u, bb⟩) rfl rfl news.out (elE.one _) ?f3 ?f4 ?f5 ?_
  case f3 => unfold maxLen; omega
  case f4 => omega
  case f5 => exact lz10
  intro v4 w4 own4 grow4 _
  rw [show elE.C ev ++ Ev.cells ⟨d, u, bb⟩ = elE.C (ev ++ [⟨d, u, bb⟩]) from (elE.C_snoc ev ⟨d, u, bb⟩).symm] at own4
  have own4' : w4.ownsRow B 51 6 v4 (ev ++ [(⟨d, u, bb⟩ : Ev)]).length (elE.C (ev ++ [⟨d, u, bb⟩])) := by rw [List.length_append]; exact own4
  have bel := (Below.refl B w10).grown grow4 lz10 (fun g e => (RE10.out.lt _ e).1)
  have hNx := And.intro (hNext.1.grown grow4 (own_ne RE10.out hNext.1 (by decide))) (hNext.2.grown grow4 (own_ne RE10.out hNext.2 (by decide)))
  obtain ⟨H11, FR11⟩ := H10.out.setEvents ⟨_, _, rfl⟩ c74b own4' grow4 bel
  have low11 := (Stored.cell1 w4 ⟨g, 74, none⟩ v4).low (low10.trans bel) H10.out.gB
  have bx4' : ∃ cs, Box w4 g 127 cs := by
   obtain ⟨_, _, _, _, _, _, _, _, _, _, _, _, bq, _⟩ := H10.out.read
   exact ⟨_, bq.grown grow4 (own_ne RE10.out bq (by decide))⟩
  obtain ⟨cs4, b4⟩ := bx4'
  have st4 := Stored.cell1 w4 ⟨g, 74, none⟩ v4
  have hNx2 := And.intro (st4.box hNx.1 (boxNe hNx.1 b4 (by decide))) (st4.box hNx.2 (boxNe hNx.2 b4 (by decide)))
  have c744 : ∃ z, w4.cell? ⟨g, 74, none⟩ = some z := ⟨_, grow4.cell c74b (own_ne RE10.out (show Box w10 g 127 _ from H10.out.read.choose_spec.choose_spec.choose_spec.choose_spec.choose_spec.choose_spec.choose_spec.choose_spec.choose_spec.choose_spec.choose_spec.choose_spec.1) (by decide))⟩
  obtain ⟨z4, c74w⟩ := c744
  have f74 := b4.frozen 74
  obtain ⟨A9, c9, rfl⟩ := own_shape own4
  refine hK.out _ _ hNx ?_
  clear hK K
  try simp only [Act.put]
  try simp only [List.setIfInBounds_toArray, List.set_cons_zero, List.set_cons_succ]
  have RS := Lib.hid H11
  have FR := Lib.hid (FR10.out.trans FR11)
  clear H11 FR11 H10 FR10 RE10 own4 own4' grow4 bel c74b
  refine takeA 12 ?_ rfl ?_ ?_; rotate_left
  ·(intro w hSw; go_simp; try (with_reducible rfl))
  try simp only [Act.put, List.setIfInBounds_toArray, List.set_cons_zero, List.set_cons_succ]
  refine takeA 13 ?_ rfl ?_ ?_; rotate_left
  ·(intro w hSw; go_simp; try (with_reducible rfl))
  try simp only [Act.put, List.setIfInBounds_toArray, List.set_cons_zero, List.set_cons_succ]
  refine stepNext (i := 14) (by kernel_rfl) rfl (by rfl) (fun K hK => ?_)
  go_simp
  refine hK.out _ _ hNx2 ?_
  clear hK K
  try simp only [Act.put]
  try simp only [List.setIfInBounds_toArray, List.set_cons_zero, List.set_cons_succ]
  refine wpAnyH_done (by kernel_rfl) ?_ _
  refine NoPanic.normal ?_
  clear hNx hNx2 hNext c74w f74 st4 b4
  go_wp2_with fail
  go_ret
  refine ⟨⟨rfl, ?_, FR.out⟩, low11⟩
  have := RS.out
  rw [show perfE M bb d = ⟨d, u, bb⟩ from by unfold perfE; rw [← HU.out]; rfl]
  exact this
 | false =>
  have e0 : E = 0 := by rw [← HE.out]; unfold idleE; rw [if_neg (by rw [hi]; simp)]
  subst e0
  obtain ⟨en, em, kf⟩ := G7.out hi
  subst en em
  obtain ⟨RA, bx6, b69⟩ : ∃ RA, Box w6 g 127 RA ∧ 69 ≤ RA.size := by
   obtain ⟨_, _, _, _, _, _, _, _, _, _, _, _, bq, _⟩ := H6.out.read
   exact ⟨_, bq, by rw [runA_size m64]; omega⟩
  have vr := vb6.range
  go_wp2_with (first | ((with_reducible refine wp_loadW (tyWorld) (vr) (sm) ?_ ?_ ?_); rfl; rfl) | ((with_reducible refine wpList_storeW4 bx6 b69 hm om ?_ ?_ ?_); rfl; rfl))
  intro w7 e7
  obtain ⟨H7R0, FR7, st7⟩ := H6.out.setWorld hm kf (by omega) (by omega) (by omega) (Nat.le_refl _)
  rw [← e7] at H7R0 FR7 st7
  have em : mid1 M d = { M with css := (didF M.n M.s M.y M.b M.css M.mem d).1, mem := (didF M.n M.s M.y M.b M.css M.mem d).2 } := by unfold mid1; rw [if_neg (by rw [hi]; simp)]
  have H7R : RunS w7 B g ga (mid1 M d) ev := by rw [em]; exact H7R0
  have FRM := Lib.hid ((Frame.call (ga := ga) low).trans FR7)
  have low7 := st7.low (low.mono (B' := B) (by omega)) GB
  have db7 := FR7 gd _ _ (by decide) (by decide) (by omega) db6
  have tb7 := FR7 gt _ _ (by decide) (by decide) (by omega) tb6
  clear em e7 H7R0 FR7 st7 bx6 b69 vr kf low db6 tb6 vb6 sm om hm
  have H7 := Lib.hid H7R
  obtain ⟨B0, d0, B1, d1, B2, d2, B3, d3, B4, d4, B5, d5, bx7, _, _, _, _, _, _, ia7, re7⟩ := H7.out.read
  obtain ⟨cap, eia, hcap⟩ := ia7.shape
  injection eia with q1 _ q3
  subst q1 q3
  have AT1 := Lib.hid (show (mid1 M d).at_ = M.at_ by unfold mid1; split <;> rfl)
  have HX7 : (mid1 M d).at_[k]? = some x := by rw [AT1.out]; exact HX.out
  have c71 := (run_cells bx7 H7.out.m64).2.2.2.1
  have c74 := (run_cells bx7 H7.out.m64).2.2.2.2.2.2
  have cat := ia7.at_ HX7
  have fat := ia7.free k
  have ktl : (k : Int) < (mid1 M d).at_.length := by have := (List.getElem?_eq_some_iff.1 HX7).1; omega
  have ST8 := Lib.hid (Stored.cell1 w7 ⟨ga, k, none⟩ (.int .i64 (x + 1)))
  obtain ⟨H8, FR8⟩ := H7.out.setAt k (x + 1)
  have low8 := ST8.out.low low7 H7.out.aB
  have db8 := FR8 gd _ _ (by decide) (by decide) (by omega) db7
  have tb8 := FR8 gt _ _ (by decide) (by decide) (by omega) tb7
  have H8' := Lib.hid H8
  have FR8' := Lib.hid (FRM.out.trans FR8)
  clear H8 FR8 bx7 ia7 re7 ST8 H7 FRM
  go_wp2_with fail
  have al8 : ({ mid1 M d with at_ := (mid1 M d).at_.set k (x + 1) } : Mc) = perf didF M k d := by rw [perf_mid M k d HX.out, AT1.out]
  rw [al8] at H8'
  generalize w7.setCell ⟨ga, k, none⟩ (.int .i64 (x + 1)) = w8 at *
  clear c71 c74 cat fat ktl AT1 HX7 al8
  obtain ⟨B0, d0, B1, d1, B2, d2, B3, d3, B4, d4, B5, d5, bx8, _, _, _, _, _, _, _, re8⟩ := H8'.out.read
  have c74 := (run_cells bx8 H8'.out.m64).2.2.2.2.2.2
  have RE8 := Lib.hid re8
  clear bx8 re8
  refine wp_region_noPanic ?_
  refine wp_region_held_drew (S := fun w' => Box w' gd 49 (deedA d) ∧ Box w' gt 180 (doneA u f1 f2 f3 f4)) (by kernel_rfl) ⟨db8.drew, tb8.drew⟩ (fun hHeld => ?_)
  have H9 := Lib.hid (H8'.out.call (Below.refl _ _).drew)
  have FR9 := Lib.hid (FR8'.out.trans (Frame.call (ga := ga) (Below.refl w8.heap.size w8).drew))
  have low9 := low8.drew
  have RE9 := Lib.hid (own_below RE8.out (Below.refl _ _).drew)
  replace c74 := drewC c74
  clear H8' FR8' low8 RE8 db8 tb8
  generalize w8.drew = wy at *
  refine takeA 0 ?_ rfl ?_ ?_; rotate_left
  ·(intro w hSw; go_simp; try (with_reducible rfl))
  try simp only [Act.put, List.setIfInBounds_toArray, List.set_cons_zero, List.set_cons_succ]
  refine takeA 1 ?_ rfl ?_ ?_; rotate_left
  ·(intro w hSw; go_simp; try (with_reducible rfl))
  try simp only [Act.put, List.setIfInBounds_toArray, List.set_cons_zero, List.set_cons_succ]
  refine takeA 2 ?_ rfl ?_ ?_; rotate_left
  ·(intro w hSw; go_simp; try (with_reducible rfl))
  try simp only [Act.put, List.setIfInBounds_toArray, List.set_cons_zero, List.set_cons_succ]
  refine takeA 3 ?_ rfl ?_ ?_; rotate_left
  ·(intro w hSw; go_simp; try (with_reducible rfl))
  try simp only [Act.put, List.setIfInBounds_toArray, List.set_cons_zero, List.set_cons_succ]
  refine takeFirst (i := 5) (v := .agg (deedA d)) rfl (by kernel_rfl) (by kernel_rfl) (by kernel_rfl) (by rfl) (fun _ _ _ h => h) (fun _ hSw => exec_loadW tyDeed4 rfl (Box.range hSw.1) (rfl)) (by assumption) ?_
  try simp only [Act.put]
  try simp only [List.setIfInBounds_toArray, List.set_cons_zero, List.set_cons_succ]
  refine takeA 6 ?_ rfl ?_ ?_; rotate_left
  ·(intro w hSw; go_simp; try (with_reducible rfl))
  try simp only [Act.put, List.setIfInBounds_toArray, List.set_cons_zero, List.set_cons_succ]
  refine takeFirst (i := 7) (v := .int .u64 u) rfl (by kernel_rfl) (by kernel_rfl) (by kernel_rfl) (by rfl) (fun _ _ _ h => h) (fun w' hSw => by have c9 := hSw.2.at_ 0 rfl; go_simp) (by assumption) ?_
  try simp only [Act.put]
  try simp only [List.setIfInBounds_toArray, List.set_cons_zero, List.set_cons_succ]
  refine takeA 8 ?_ rfl ?_ ?_; rotate_left
  ·(intro w hSw; go_simp; try (with_reducible rfl))
  try simp only [Act.put, List.setIfInBounds_toArray, List.set_cons_zero, List.set_cons_succ]
  refine takeFirst (i := 9) (v := .agg #[.int .i64 d.nd, .int .i64 d.kd, .int .i64 d.ad, .int .u64 d.vl, .int .u64 u, .bool bb]) rfl (by kernel_rfl) (by kernel_rfl) (by kernel_rfl) (by rfl) (fun _ _ _ h => h) (fun _ _ => exec_buildE rfl rfl rfl) (by assumption) ?_
  try simp only [Act.put]
  try simp only [List.setIfInBounds_toArray, List.set_cons_zero, List.set_cons_succ]
  have alc := gAlloc (Below.refl wy.heap.size wy) (.cells #[.int .i64 d.nd, .int .i64 d.kd, .int .i64 d.ad, .int .u64 d.vl, .int .u64 u, .bool bb] 51)
  have c74b := allocC (.cells #[.int .i64 d.nd, .int .i64 d.kd, .int .i64 d.ad, .int .u64 d.vl, .int .u64 u, .bool bb] 51) c74
  have hNext := And.intro (hHeld.1.call alc) (hHeld.2.call alc)
  apply share0
  ·intro hE
   refine stepTwo (i1 := 4) (i2 := 10) (by kernel_rfl) rfl rfl (by rfl) (by rfl) (fun K hK => ?_) (fun K hK => ?_)
   ·go_simp
    refine hK.out _ _ hHeld ?_
    clear hK K
    try simp only [Act.put]
    try simp only [List.setIfInBounds_toArray, List.set_cons_zero, List.set_cons_succ]
    refine stepNext (i := 10) (by kernel_rfl) rfl (by rfl) (fun K hK => ?_)
    go_simp
    refine hK.out _ _ hNext ?_
    clear hK K
    try simp only [Act.put]
    try simp only [List.setIfInBounds_toArray, List.set_cons_zero, List.set_cons_succ]
    refine relist (l2 := #[true, true, true, true, true, true, true, true, true, true, true, false, false, false, false]) (by kernel_rfl) ?_
    exact hE
   ·go_simp
    refine hK.out _ _ hNext ?_
    clear hK K
    try simp only [Act.put]
    try simp only [List.setIfInBounds_toArray, List.set_cons_zero, List.set_cons_succ]
    refine stepNext (i := 4) (by kernel_rfl) rfl (by rfl) (fun K hK => ?_)
    go_simp
    refine hK.out _ _ hNext ?_
    clear hK K
    try simp only [Act.put]
    try simp only [List.setIfInBounds_toArray, List.set_cons_zero, List.set_cons_succ]
    refine relist (l2 := #[true, true, true, true, true, true, true, true, true, true, true, false, false, false, false]) (by kernel_rfl) ?_
    exact hE
  have H10 := Lib.hid (H9.out.call alc)
  have FR10 := Lib.hid (FR9.out.trans (Frame.call (ga := ga) alc))
  have RE10 := Lib.hid (own_below RE9.out alc)
  have low10 := low9.trans (alc.mono (B' := B) (by have := H9.out.lt; have := H9.out.gB; omega))
  have news := Lib.hid fun j u' h => event_new wy ⟨d, u, bb⟩ j u' h
  clear H9 FR9 low9 RE9 hHeld alc c74
  generalize hw10 : wy.alloc (.cells #[.int .i64 d.nd, .int .i64 d.kd, .int .i64 d.ad, .int .u64 d.vl, .int .u64 u, .bool bb] 51) = w10 at *
  have lz10 : B ≤ w10.heap.size := by have := H10.out.lt; have := H10.out.gB; omega
  clear hw10
  refine stepNext (i := 11) (by kernel_rfl) rfl (by rfl) (fun K hK => ?_)
  refine wp_append_own _ (.tmp 70) (.tmp 76) 42 rfl B 51 i0 (.agg #[.int .i64 0, .int .i64 0, .int .i64 0, .int .u64 0, .int .u64 0, .bool false]) 6 48 Tryz.underlying42 HI.out HZ.out.1 HZ.out.2.1 HZ.out.2.2 rfl (by decide) _ _ _ rfl RE10.out ⟨wy.heap.size, 0, none⟩ 1 1 (Ev.cells ⟨d, u, bb⟩) rfl rfl news.out (elE.one _) ?f3 ?f4 ?f5 ?_
  case f3 => unfold maxLen; omega
  case f4 => omega
  case f5 => exact lz10
  intro v4 w4 own4 grow4 _
  rw [show elE.C ev ++ Ev.cells ⟨d, u, bb⟩ = elE.C (ev ++ [⟨d, u, bb⟩]) from (elE.C_snoc ev ⟨d, u, bb⟩).symm] at own4
  have own4' : w4.ownsRow B 51 6 v4 (ev ++ [(⟨d, u, bb⟩ : Ev)]).length (elE.C (ev ++ [⟨d, u, bb⟩])) := by rw [List.length_append]; exact own4
  have bel := (Below.refl B w10).grown grow4 lz10 (fun g e => (RE10.out.lt _ e).1)
  have hNx := And.intro (hNext.1.grown grow4 (own_ne RE10.out hNext.1 (by decide))) (hNext.2.grown grow4 (own_ne RE10.out hNext.2 (by decide)))
  obtain ⟨H11, FR11⟩ := H10.out.setEvents ⟨_, _, rfl⟩ c74b own4' grow4 bel
  have low11 := (Stored.cell1 w4 ⟨g, 74, none⟩ v4).low (low10.trans bel) H10.out.gB
  have bx4' : ∃ cs, Box w4 g 127 cs := by
   obtain ⟨_, _, _, _, _, _, _, _, _, _, _, _, bq, _⟩ := H10.out.read
   exact ⟨_, bq.grown grow4 (own_ne RE10.out bq (by decide))⟩
  obtain ⟨cs4, b4⟩ := bx4'
  have st4 := Stored.cell1 w4 ⟨g, 74, none⟩ v4
  have hNx2 := And.intro (st4.box hNx.1 (boxNe hNx.1 b4 (by decide))) (st4.box hNx.2 (boxNe hNx.2 b4 (by decide)))
  have c744 : ∃ z, w4.cell? ⟨g, 74, none⟩ = some z := ⟨_, grow4.cell c74b (own_ne RE10.out (show Box w10 g 127 _ from H10.out.read.choose_spec.choose_spec.choose_spec.choose_spec.choose_spec.choose_spec.choose_spec.choose_spec.choose_spec.choose_spec.choose_spec.choose_spec.1) (by decide))⟩
  obtain ⟨z4, c74w⟩ := c744
  have f74 := b4.frozen 74
  obtain ⟨A9, c9, rfl⟩ := own_shape own4
  refine hK.out _ _ hNx ?_
  clear hK K
  try simp only [Act.put]
  try simp only [List.setIfInBounds_toArray, List.set_cons_zero, List.set_cons_succ]
  have RS := Lib.hid H11
  have FR := Lib.hid (FR10.out.trans FR11)
  clear H11 FR11 H10 FR10 RE10 own4 own4' grow4 bel c74b
  refine takeA 12 ?_ rfl ?_ ?_; rotate_left
  ·(intro w hSw; go_simp; try (with_reducible rfl))
  try simp only [Act.put, List.setIfInBounds_toArray, List.set_cons_zero, List.set_cons_succ]
  refine takeA 13 ?_ rfl ?_ ?_; rotate_left
  ·(intro w hSw; go_simp; try (with_reducible rfl))
  try simp only [Act.put, List.setIfInBounds_toArray, List.set_cons_zero, List.set_cons_succ]
  refine stepNext (i := 14) (by kernel_rfl) rfl (by rfl) (fun K hK => ?_)
  go_simp
  refine hK.out _ _ hNx2 ?_
  clear hK K
  try simp only [Act.put]
  try simp only [List.setIfInBounds_toArray, List.set_cons_zero, List.set_cons_succ]
  refine wpAnyH_done (by kernel_rfl) ?_ _
  refine NoPanic.normal ?_
  clear hNx hNx2 hNext c74w f74 st4 b4
  go_wp2_with fail
  go_ret
  refine ⟨⟨rfl, ?_, FR.out⟩, low11⟩
  have := RS.out
  rw [show perfE M bb d = ⟨d, u, bb⟩ from by unfold perfE; rw [← HU.out]; rfl]
  exact this
end Go.Proofs.YtcegjehoejgofaaGreat
