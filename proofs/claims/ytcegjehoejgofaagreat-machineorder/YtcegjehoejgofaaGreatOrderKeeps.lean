/-
Proved: what Keeps of package order returns, for all programs and observations that can be read; it changes nothing that was there. No condition.
-/
import Derived.Test.YtcegjehoejgofaaGreatOrderFns
import Derived.Test.YtcegjehoejgofaaGreatJoined6
namespace Go.Proofs.YtcegjehoejgofaaGreat
open Go.ChangeShapes Go.WideShapes Go.ChangeAt Go.RowKit Go.Joins
theorem keep1_iff {p : List (List Dd)} {l : List Td} {k : Nat} : keep1 p l k = true ↔ onD k (l.map Td.d) <+: p.getD k [] := by
 unfold keep1
 rw [Bool.and_eq_true, decide_eq_true_eq, decide_eq_true_eq, List.prefix_iff_eq_take]
 constructor
 ·exact fun h => h.2
 ·intro h
  refine ⟨?_, h⟩
  have := congrArg List.length h
  rw [List.length_take] at this
  omega
theorem keepB_iff {p : List (List Dd)} {l : List Td} : keepB p l = true ↔ ∀ k, k < 8 → onD k (l.map Td.d) <+: p.getD k [] := by
 unfold keepB
 rw [List.all_eq_true]
 constructor
 ·intro h k hk
  exact keep1_iff.1 (h k (by simpa using hk))
 ·intro h k hk
  exact keep1_iff.2 (h k (by simpa using hk))
theorem onD_here {l : List Td} {j : Nat} {x : Td} {q : Nat} (h : l[j]? = some x) (hq : x.d.nd = (q : Int)) : onD q ((l.take (j + 1)).map Td.d) = onD q ((l.take j).map Td.d) ++ [x.d] := by
 rw [onD_td h, if_pos hq]
theorem onD_there {l : List Td} {j : Nat} {x : Td} {q k : Nat} (h : l[j]? = some x) (hq : x.d.nd = (q : Int)) (hk : k ≠ q) : onD k ((l.take (j + 1)).map Td.d) = onD k ((l.take j).map Td.d) := by
 rw [onD_td h, if_neg (by rw [hq]; omega), List.append_nil]
theorem keep_at {p : List (List Dd)} {l : List Td} {j : Nat} {x : Td} {q : Nat} (hB : keepB p l = true) (h : l[j]? = some x) (hq : x.d.nd = (q : Int)) (h8 : q < 8) : (p.getD q [])[(onD q ((l.take j).map Td.d)).length]? = some x.d := by
 have h1 := keepB_iff.1 hB q h8
 have h2 : onD q ((l.take (j + 1)).map Td.d) <+: onD q (l.map Td.d) := List.IsPrefix.filter _ ((List.take_prefix (j + 1) l).map _)
 rw [onD_here h hq] at h2
 obtain ⟨t, ht⟩ := h2.trans h1
 rw [← ht, List.append_assoc, List.getElem?_append_right (Nat.le_refl _), Nat.sub_self]
 rfl
theorem keep_step {p : List (List Dd)} {l : List Td} {j : Nat} {x : Td} {q : Nat} (hB : keepB p (l.take j) = true) (h : l[j]? = some x) (hq : x.d.nd = (q : Int)) (hx : (p.getD q [])[(onD q ((l.take j).map Td.d)).length]? = some x.d) : keepB p (l.take (j + 1)) = true := by
 rw [keepB_iff] at hB ⊢
 intro k hk
 have h1 := hB k hk
 by_cases e : k = q
 ·subst e
  rw [onD_here h hq]
  rw [List.prefix_iff_eq_take] at h1 ⊢
  rw [List.length_append, List.length_singleton, List.take_add_one, hx, ← h1]
  rfl
 ·rw [onD_there h hq e]
  exact h1
def cntP (n : Nat) (l : List Td) : List Int := (List.range n).map fun (k : Nat) => ((onD k (l.map Td.d)).length : Int)
theorem cntP_length (n : Nat) (l : List Td) : (cntP n l).length = n := by simp [cntP]
theorem cntP_nil (n : Nat) : cntP n [] = List.replicate n 0 := by
 apply List.ext_getElem?
 intro q
 by_cases hq : q < n <;> simp [cntP, hq, onD]
theorem cntP_at {n k : Nat} (l : List Td) (h : k < n) : (cntP n l)[k]? = some ((onD k (l.map Td.d)).length : Int) := by simp [cntP, h]
theorem cntP_step {n q j : Nat} {l : List Td} {x : Td} (h : l[j]? = some x) (hq : x.d.nd = (q : Int)) (hn : q < n) : (cntP n (l.take j)).set q (((onD q ((l.take j).map Td.d)).length + 1 : Nat) : Int) = cntP n (l.take (j + 1)) := by
 apply List.ext_getElem?
 intro k
 by_cases e : q = k
 ·subst e
  rw [List.getElem?_set_self (by rw [cntP_length]; exact hn), cntP_at _ hn, onD_here h hq, List.length_append]
  rfl
 ·rw [List.getElem?_set_ne e]
  by_cases hk : k < n
  ·rw [cntP_at _ hk, cntP_at _ hk, onD_there h hq (fun h => e h.symm)]
  ·rw [List.getElem?_eq_none (by rw [cntP_length]; omega), List.getElem?_eq_none (by rw [cntP_length]; omega)]
set_option maxRecDepth 10000 in
set_option maxHeartbeats 4000000 in
theorem keeps_bad (v u : Value) (p : List (List Dd)) (l : List Td) (w : World) (h : Ps w v p) (hl : elT.R w u l) (hE : keepE p l ≠ 0) :
  Calls Tryz.prog 14 #[v, u] w fun e w' => e = .returned (.tuple #[.bool false, .int .i64 (keepE p l)]) ∧ Below w.heap.size w w' := by
 have CK := Lib.hid fun w h => orderCheck_any u l w h
 have HL := Lib.hid hl
 obtain ⟨A', c', rfl⟩ := h.shape
 clear h hl
 by_cases h0 : toldE 200 l = 0
 ·have h8 : 8 < p.length := by
   unfold keepE at hE
   rw [if_neg (by simpa using h0)] at hE
   split at hE
   ·assumption
   ·exact absurd rfl hE
  rw [show keepE p l = 3 by unfold keepE; rw [if_neg (by simpa using h0), if_pos h8]]
  have h8' : (8 : Int) < p.length := by omega
  rw [h0] at CK
  clear hE h0 h8
  have low := Below.refl w.heap.size w
  go_enter Tryz.func14, Tryz.ntmps14
  go_wp2_with fail
  (with_reducible refine (CK.out _ (HL.out.call low)).mono ?_); rintro e w1 ⟨rfl, hb⟩
  replace low := gCall low hb
  clear hb CK
  go_wp2_with fail
  go_ret2
  exact ⟨rfl, low⟩
 ·rw [show keepE p l = toldE 200 l by unfold keepE; rw [if_pos h0]]
  generalize toldE 200 l = E at *
  have hE2 : (E != 0) = true := by simpa using h0
  clear hE h0
  have low := Below.refl w.heap.size w
  go_enter Tryz.func14, Tryz.ntmps14
  go_wp2_with fail
  (with_reducible refine (CK.out _ (HL.out.call low)).mono ?_); rintro e w1 ⟨rfl, hb⟩
  replace low := gCall low hb
  clear hb CK
  go_wp2_with fail
  go_ret2
  exact ⟨rfl, low⟩
set_option maxRecDepth 10000 in
set_option maxHeartbeats 8000000 in
theorem keeps_good (v u : Value) (p : List (List Dd)) (l : List Td) (w : World) (h : Ps w v p) (hl : elT.R w u l) (hE : toldE 200 l = 0) (h8 : p.length ≤ 8) :
  Calls Tryz.prog 14 #[v, u] w fun e w' => e = .returned (.tuple #[.bool (keepB p l), .int .i64 0]) ∧ Below w.heap.size w w' := by
 have CK := Lib.hid fun w h => orderCheck_any u l w h
 rw [hE] at CK
 have HL := Lib.hid hl
 have HW := Lib.hid h
 have N1 := Lib.hid fun av xs node w h ha hb => next_bad v av p xs node w h ha hb
 have N2 := Lib.hid fun av xs k a l w h ha hl hp hx h0 => next_good v av p xs k a l w h ha hl hp hx h0
 obtain ⟨h200, hrun⟩ : l.length ≤ 200 ∧ runE (l.map Td.d) = 0 := by
  unfold toldE at hE
  by_cases h1 : (200 : Int) < l.length
  ·rw [if_pos h1] at hE; cases hE
  ·rw [if_neg h1] at hE; exact ⟨by omega, hE⟩
 have OK := Lib.hid (show ∀ t ∈ l, deedE t.d = 0 from fun t ht => runE_zero.1 hrun t.d (List.mem_map.2 ⟨t, ht, rfl⟩))
 obtain ⟨A', c', rfl⟩ := h.shape
 obtain ⟨_, A, c, rfl, g1, g2, g3⟩ := hl
 have G3 := Lib.hid g3
 unfold maxLen at g2
 generalize hKB : keepB p l = KB
 have KQ := Lib.hid hKB
 have h8' : (p.length : Int) ≤ 8 := by omega
 clear h hE hrun g3 hKB
 have low := Below.refl w.heap.size w
 go_enter Tryz.func14, Tryz.ntmps14
 go_wp2_with fail
 (with_reducible refine (CK.out _ (HL.out.call low)).mono ?_); rintro e w1 ⟨rfl, hb⟩
 replace low := gCall low hb
 clear hb CK
 obtain ⟨w2, MK, ti, hb2⟩ := make_ints p.length (by omega) w1
 have zz := low.size
 replace low := gCall low hb2
 clear hb2
 rw [← cntP_nil] at ti
 have TI := Lib.hid ti
 clear ti
 go_wp2_with fail
 clear MK
 generalize w1.heap.size = g1 at *
 go_loopw [27] (fun i wr => ∃ j : Nat, j ≤ l.length ∧ i = .int .i64 j ∧ Hid (keepB p (l.take j) = true) ∧ Hid (OwnI wr g1 (.slice (some ⟨g1, 0, none⟩) p.length p.length) (cntP p.length (l.take j))) ∧ Below w.heap.size w wr) (fun i _ => l.length - (intOf i).toNat)
 case atStart => exact ⟨0, Nat.zero_le _, rfl, Lib.hid (keepB_iff.2 fun k _ => List.nil_prefix), TI, low⟩
 case round =>
  clear TI low
  obtain ⟨j, hj, rfl, KP, OW, low⟩ := hrel
  by_cases hlt : j < l.length
  ·obtain ⟨b1, o1, rfl, hb1, hc1⟩ := G3.out (by omega)
   have hd : l[j]? = some l[j] := List.getElem?_eq_getElem _
   generalize l[j] = x at hd
   obtain ⟨c0, c1, c2, c3, c4⟩ := toldAt_of hc1 hb1 low hd
   obtain ⟨hn0, -, -⟩ := deedE_ok (OK.out x (List.mem_of_getElem? hd))
   obtain ⟨q, hq⟩ : ∃ q : Nat, x.d.nd = q := ⟨x.d.nd.toNat, by omega⟩
   have q8 : q < 8 := by omega
   have KA := Lib.hid fun hB => keep_at (p := p) hB hd hq q8
   have KS := Lib.hid fun hX => keep_step KP.out hd hq hX
   have CS := Lib.hid fun hn => cntP_step (n := p.length) hd hq hn
   have few := Nat.le_trans (onD_few q (l.take j)) (show (l.take j).length ≤ 200 by rw [List.length_take]; omega)
   have CL := Lib.hid (cntP_length p.length (l.take j))
   have CA := Lib.hid fun hn => cntP_at (n := p.length) (k := q) (l.take j) hn
   have eqx := fun d w => eqDeed d x.d w
   have EQ := Lib.hid fun d => eqD_iff d x.d
   generalize (onD q ((l.take j).map Td.d)).length = cn at *
   generalize cntP p.length (l.take j) = xs at *
   obtain ⟨⟨dn, dk, da, dv⟩, tv⟩ := x
   simp only at c0 c1 c2 c3 c4 hq hn0 EQ
   subst hq
   have j0 : (0 : Int) ≤ j := by omega
   have j1 : (j : Int) < l.length := by omega
   have lz := low.size
   clear hd hc1 KP
   have db := boxNext low 53 #[.int .i64 (q : Int), .int .i64 dk, .int .i64 da, .int .u64 dv, .int .u64 tv]
   replace low := gAlloc low (.cells #[.int .i64 (q : Int), .int .i64 dk, .int .i64 da, .int .u64 dv, .int .u64 tv] 53)
   try simp only [World.size_alloc] at db
   replace OW := Lib.hid (OW.out.alloc (.cells #[.int .i64 (q : Int), .int .i64 dk, .int .i64 da, .int .u64 dv, .int .u64 tv] 53))
   have SLI := OW.out.sl
   have db_0 := db.at_ 0 rfl
   have db_1 := db.at_ 1 rfl
   have db_2 := db.at_ 2 rfl
   have db_3 := db.at_ 3 rfl
   by_cases hqp : q < p.length
   ·have hp : p[q]? = some p[q] := List.getElem?_eq_getElem _
    have ep : p.getD q [] = p[q] := by simp [List.getD, hp]
    rw [ep] at KA KS
    generalize p[q] = pl at *
    have NG := Lib.hid (N2.out (.slice (some ⟨g1, 0, none⟩) p.length p.length) xs q (cn : Int) pl _ (HW.out.call low) (by have := SLI; rwa [CL.out] at this ⊢) CL.out hp (CA.out hqp) (by omega))
    clear SLI N1 N2 hp ep
    go_wp2_with fail
    clear c0 c1 c2 c3 c4
    (with_reducible refine NG.out.mono ?_); rintro e w3 ⟨hnx, hb3⟩
    clear db_0 db_1 db_2 db_3
    rcases hnx with ⟨e2, rfl⟩ | ⟨j2, d2, e2, hd, rfl⟩
    ·have NO := Lib.hid (show keepB p l = false by
      cases hB : keepB p l with
      | false => rfl
      | true =>
       have := KA.out hB
       have := (List.getElem?_eq_some_iff.1 this).1
       omega)
     clear KA KS CS CA eqx EQ NG e2
     replace db := (db.call hb3).alloc (.cells #[.int .i64 0, .int .i64 0, .int .i64 0, .int .u64 0] 49)
     replace OW := Lib.hid ((OW.out.call hb3).alloc (.cells #[.int .i64 0, .int .i64 0, .int .i64 0, .int .u64 0] 49))
     have xb := Box.new w3 49 #[.int .i64 0, .int .i64 0, .int .i64 0, .int .u64 0]
     replace low := gAlloc (gCall low hb3) (.cells #[.int .i64 0, .int .i64 0, .int .i64 0, .int .u64 0] 49)
     clear hb3
     have db_0 := db.at_ 0 rfl
     have db_1 := db.at_ 1 rfl
     have db_2 := db.at_ 2 rfl
     have db_3 := db.at_ 3 rfl
     have xb_0 := xb.at_ 0 rfl
     have xb_1 := xb.at_ 1 rfl
     have xb_2 := xb.at_ 2 rfl
     have xb_3 := xb.at_ 3 rfl
     obtain rfl : KB = false := by rw [← KQ.out]; exact NO.out
     clear KQ NO OW
     go_wp2_with fail
     go_ret2
     exact ⟨rfl, low⟩
    ·obtain rfl : cn = j2 := by omega
     have HB2 := Lib.hid (EQ.out d2)
     have NO := Lib.hid (show eqD d2 ⟨(q : Int), dk, da, dv⟩ = false → keepB p l = false from fun hne => by
      cases hB : keepB p l with
      | false => rfl
      | true =>
       have := KA.out hB
       rw [hd] at this
       cases this
       rw [HB2.out.2 rfl] at hne
       cases hne)
     have YES := Lib.hid (show eqD d2 ⟨(q : Int), dk, da, dv⟩ = true → keepB p (l.take (j + 1)) = true from fun he => by
      refine KS.out ?_
      rw [hd, HB2.out.1 he])
     replace eqx := eqx d2
     generalize eqD d2 ⟨(q : Int), dk, da, dv⟩ = B2 at *
     obtain ⟨en, ek, ea, ev⟩ := d2
     simp only [Dd.val, Dd.arr] at eqx
     clear KA KS EQ NG e2 HB2 hd
     cases B2
     ·replace NO := Lib.hid (NO.out rfl)
      clear YES CS CA
      replace db := (db.call hb3).alloc (.cells #[.int .i64 en, .int .i64 ek, .int .i64 ea, .int .u64 ev] 49)
      replace OW := Lib.hid ((OW.out.call hb3).alloc (.cells #[.int .i64 en, .int .i64 ek, .int .i64 ea, .int .u64 ev] 49))
      have xb := Box.new w3 49 #[.int .i64 en, .int .i64 ek, .int .i64 ea, .int .u64 ev]
      replace low := gAlloc (gCall low hb3) (.cells #[.int .i64 en, .int .i64 ek, .int .i64 ea, .int .u64 ev] 49)
      clear hb3
      have db_0 := db.at_ 0 rfl
      have db_1 := db.at_ 1 rfl
      have db_2 := db.at_ 2 rfl
      have db_3 := db.at_ 3 rfl
      have xb_0 := xb.at_ 0 rfl
      have xb_1 := xb.at_ 1 rfl
      have xb_2 := xb.at_ 2 rfl
      have xb_3 := xb.at_ 3 rfl
      obtain rfl : KB = false := by rw [← KQ.out]; exact NO.out
      clear KQ NO OW
      go_wp2_with fail
      go_ret2
      exact ⟨rfl, low⟩
     ·replace YES := Lib.hid (YES.out rfl)
      clear NO
      replace db := (db.call hb3).alloc (.cells #[.int .i64 en, .int .i64 ek, .int .i64 ea, .int .u64 ev] 49)
      replace OW := Lib.hid ((OW.out.call hb3).alloc (.cells #[.int .i64 en, .int .i64 ek, .int .i64 ea, .int .u64 ev] 49))
      have xb := Box.new w3 49 #[.int .i64 en, .int .i64 ek, .int .i64 ea, .int .u64 ev]
      replace low := gAlloc (gCall low hb3) (.cells #[.int .i64 en, .int .i64 ek, .int .i64 ea, .int .u64 ev] 49)
      clear hb3
      have db_0 := db.at_ 0 rfl
      have db_1 := db.at_ 1 rfl
      have db_2 := db.at_ 2 rfl
      have db_3 := db.at_ 3 rfl
      have xb_0 := xb.at_ 0 rfl
      have xb_1 := xb.at_ 1 rfl
      have xb_2 := xb.at_ 2 rfl
      have xb_3 := xb.at_ 3 rfl
      have ct := OW.out.at_ (CA.out hqp)
      have ft := OW.out.free q
      have T4 := Lib.hid (OW.out.set q ((cn + 1 : Nat) : Int))
      rw [CS.out hqp] at T4
      have q0 : (0 : Int) ≤ q := by omega
      have q1 : (q : Int) < p.length := by omega
      have L4 := Lib.hid (gSet low (p := ⟨g1, q, none⟩) (by dsimp only; omega) (.int .i64 ((cn + 1 : Nat) : Int)))
      clear CS CA OW low
      go_wp2_with fail
      go_roundw
      case rel => exact ⟨j + 1, by omega, by go_num, YES, T4, L4.out⟩
      case measure => simp [intOf]; omega
   ·have NB := Lib.hid (N1.out (.slice (some ⟨g1, 0, none⟩) p.length p.length) xs (q : Int) _ (HW.out.call low) (by have := SLI; rwa [CL.out] at this ⊢) (.inr (.inl (by omega))))
    have NO := Lib.hid (show keepB p l = false by
     cases hB : keepB p l with
     | false => rfl
     | true =>
      have := KA.out hB
      rw [show p.getD q [] = [] by simp [List.getD, List.getElem?_eq_none (Nat.le_of_not_lt hqp)]] at this
      simp at this)
    clear SLI N1 N2 KA KS CS CA eqx EQ
    have db_0 := db.at_ 0 rfl
    have db_1 := db.at_ 1 rfl
    have db_2 := db.at_ 2 rfl
    have db_3 := db.at_ 3 rfl
    go_wp2_with fail
    clear c0 c1 c2 c3 c4
    (with_reducible refine NB.out.mono ?_); rintro e w3 ⟨hnx, hb3⟩
    clear db_0 db_1 db_2 db_3
    subst hnx
    clear NB
    replace db := (db.call hb3).alloc (.cells #[.int .i64 0, .int .i64 0, .int .i64 0, .int .u64 0] 49)
    replace OW := Lib.hid ((OW.out.call hb3).alloc (.cells #[.int .i64 0, .int .i64 0, .int .i64 0, .int .u64 0] 49))
    have xb := Box.new w3 49 #[.int .i64 0, .int .i64 0, .int .i64 0, .int .u64 0]
    replace low := gAlloc (gCall low hb3) (.cells #[.int .i64 0, .int .i64 0, .int .i64 0, .int .u64 0] 49)
    clear hb3
    have db_0 := db.at_ 0 rfl
    have db_1 := db.at_ 1 rfl
    have db_2 := db.at_ 2 rfl
    have db_3 := db.at_ 3 rfl
    have xb_0 := xb.at_ 0 rfl
    have xb_1 := xb.at_ 1 rfl
    have xb_2 := xb.at_ 2 rfl
    have xb_3 := xb.at_ 3 rfl
    obtain rfl : KB = false := by rw [← KQ.out]; exact NO.out
    clear KQ NO OW
    go_wp2_with fail
    go_ret2
    exact ⟨rfl, low⟩
  ·obtain rfl : j = l.length := by omega
   obtain rfl : KB = true := by
    rw [← KQ.out]
    have := KP.out
    rwa [List.take_length] at this
   go_wp2_with fail
   go_ret2
   exact ⟨rfl, low⟩
theorem keeps_is : orderTells.KeepsIs := fun v u p l w h hl => by
 by_cases hE : keepE p l = 0
 ·have h0 : toldE 200 l = 0 := by
   unfold keepE at hE
   by_cases h : toldE 200 l = 0
   ·exact h
   ·rw [if_pos h] at hE; exact hE
  have h8 : p.length ≤ 8 := by
   unfold keepE at hE
   rw [if_neg (by simpa using h0)] at hE
   rcases Nat.lt_or_ge 8 p.length with h | h
   ·rw [if_pos h] at hE; cases hE
   ·exact h
  rw [hE]
  simpa using keeps_good v u p l w h hl h0 h8
 ·have e : (keepE p l == 0) = false := by simpa using hE
  rw [e, Bool.false_and]
  exact keeps_bad v u p l w h hl hE
end Go.Proofs.YtcegjehoejgofaaGreat
