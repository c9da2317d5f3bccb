/-
Proved: what the texts below say at the head of each. No condition but theirs.
-/
import Derived.Test.YtcegjehoejgofaaGreatJoined4
import Derived.Test.YtcegjehoejgofaaGreatJoined1
import Derived.Test.YtcegjehoejgofaaGreatJoined3
import Derived.Laws.MakeOwn
import Derived.Laws.Tables
import Derived.Test.YtcegjehoejgofaaGreatJoined2
namespace Go.Proofs.YtcegjehoejgofaaGreat
open Go.ChangeShapes Go.WideShapes Go.ChangeAt Go.RowKit Go.Joins
theorem tyWay : Ty 114 zeroA := ⟨by kernel_rfl, ⟨_, Tryz.underlying114, rfl⟩, fun w => by kernel_rfl⟩
theorem way_one (x : Wy) : x.arr.all (·.oneCell') = true := by simp [Value.oneCell']
theorem way_size (x : Wy) : x.arr.size = zeroA.size := rfl
theorem zero_sz : zeroA.size = zeroA.size := rfl
theorem zero_one : zeroA.all (·.oneCell') = true := by simp [Value.oneCell']
theorem results_mid {fn : Func} {T : TypeId} {z : Array Value} (ty : Ty T z) {tmps : Array Value} {i j k g : Nat} {cs : Array Value} {v u : Value} {w : World} (hr : fn.results = #[.tmp i, .cell j T, .tmp k]) (hi : tmps.getD i undef = v) (hj : tmps.getD j undef = .pointer (some ⟨g, 0, none⟩)) (hk : tmps.getD k undef = u) (hb : Box w g T cs) (hs : cs.size = z.size) :
  (results fn tmps).run Tryz.prog w = .ok (.tuple #[v, .agg cs, u]) w := by
 rw [Array.getD_eq_getD_getElem?] at hi hj hk
 simp [results, hr, hi, hj, hk, asAddr, load_whole ty hb.range hs]
abbrev plcA (k s : Int) (al : Bool) (o : Int) : Array Value := #[.int .i64 k, .int .i64 s, .bool al, .int .i64 o]
abbrev plcV (k s : Int) (al : Bool) (o : Int) : Value := .agg (plcA k s al o)
set_option maxHeartbeats 1000000 in
theorem ownCache_take (n s y b : Int) (v : Value) (ss : List St) (k : Nat) (st kd : Int) (al : Bool) (o : Int) (q : L4) (w : World) (h : Cs w v ss) (hs : stE st kd = 0) (ho : ownS st kd al = 0)
  (sa : List St) (z : Wy) (T : Hid (∀ w, Cs w v ss → Calls Tryz.prog 135 #[cfg n s y b, v, .int .i64 k] w (GaveCW w ss z sa))) :
  Calls Tryz.prog 108 #[cfg n s y b, v, .int .i64 kd, plcV k st al o, q.val] w (GaveCW w ss z sa) := by
 obtain ⟨A, c, rfl⟩ : ∃ A c, v = .slice A ss.length c := by obtain ⟨A, c, e, _⟩ := h; exact ⟨A, c, e⟩
 obtain ⟨qa, qq, qc, qd⟩ := q
 obtain ⟨at_, hat⟩ : ∃ a, a = ownS st kd al := ⟨_, rfl⟩
 have O := Lib.hid fun w => own_any st kd al w
 rw [hs, ← hat] at O
 obtain rfl : at_ = 0 := hat.trans ho
 clear hs ho hat
 have low := Below.refl w.heap.size w
 have cb := boxNext low 23 (cfgA n s y b)
 replace low := gAlloc low (.cells (cfgA n s y b) 23)
 replace h := h.alloc (.cells (cfgA n s y b) 23)
 try simp only [World.size_alloc] at cb
 have pb := boxNext low 202 (plcA k st al o)
 replace low := gAlloc low (.cells (plcA k st al o) 202)
 replace h := h.alloc (.cells (plcA k st al o) 202)
 replace cb := cb.alloc (.cells (plcA k st al o) 202)
 try simp only [World.size_alloc] at pb
 have qb := boxNext low 27 (lnA ⟨qa, qq, qc, qd⟩)
 replace low := gAlloc low (.cells (lnA ⟨qa, qq, qc, qd⟩) 27)
 replace h := h.alloc (.cells (lnA ⟨qa, qq, qc, qd⟩) 27)
 replace cb := cb.alloc (.cells (lnA ⟨qa, qq, qc, qd⟩) 27)
 replace pb := pb.alloc (.cells (lnA ⟨qa, qq, qc, qd⟩) 27)
 try simp only [World.size_alloc] at qb
 have ob := boxNext low 114 zeroA
 replace low := gAlloc low (.cells zeroA 114)
 replace h := h.alloc (.cells zeroA 114)
 replace cb := cb.alloc (.cells zeroA 114)
 replace pb := pb.alloc (.cells zeroA 114)
 replace qb := qb.alloc (.cells zeroA 114)
 try simp only [World.size_alloc] at ob
 simp only [zeroA] at ob
 go_enter Tryz.func108, Tryz.ntmps108
 have pb_0 := pb.at_ 0 rfl
 have pb_1 := pb.at_ 1 rfl
 have pb_2 := pb.at_ 2 rfl
 go_wp2_with (with_reducible refine wp_newW (tyWay) ?_)
 (with_reducible refine (O.out _).mono ?_); rintro e w' ⟨rfl, rfl⟩
 have qb_0 := qb.at_ 0 rfl
 have qb_1 := qb.at_ 1 rfl
 have qb_2 := qb.at_ 2 rfl
 have qb_3 := qb.at_ 3 rfl
 have xb := boxNext low 114 #[.int .i64 (0), .int .i64 k, .int .u64 qa, .int .u64 qq, .int .u64 qc, .int .u64 qd]
 replace low := gAlloc low (.cells #[.int .i64 (0), .int .i64 k, .int .u64 qa, .int .u64 qq, .int .u64 qc, .int .u64 qd] 114)
 replace h := h.alloc (.cells #[.int .i64 (0), .int .i64 k, .int .u64 qa, .int .u64 qq, .int .u64 qc, .int .u64 qd] 114)
 replace cb := cb.alloc (.cells #[.int .i64 (0), .int .i64 k, .int .u64 qa, .int .u64 qq, .int .u64 qc, .int .u64 qd] 114)
 replace pb := pb.alloc (.cells #[.int .i64 (0), .int .i64 k, .int .u64 qa, .int .u64 qq, .int .u64 qc, .int .u64 qd] 114)
 replace ob := ob.alloc (.cells #[.int .i64 (0), .int .i64 k, .int .u64 qa, .int .u64 qq, .int .u64 qc, .int .u64 qd] 114)
 try simp only [World.size_alloc] at xb
 have cb_0 := cb.at_ 0 rfl
 have cb_1 := cb.at_ 1 rfl
 have cb_2 := cb.at_ 2 rfl
 have cb_3 := cb.at_ 3 rfl
 go_wp2_with (with_reducible refine wp_newW (tyWay) ?_)
 (with_reducible refine (T.out _ h).mono ?_); rintro e w2 ⟨⟨A2, c2, rfl, cf⟩, hb⟩
 clear pb_0 pb_1 pb_2 qb_0 qb_1 qb_2 qb_3 cb_0 cb_1 cb_2 cb_3
 have zo := ob.lt
 have lz := low.size
 replace ob := ob.call hb
 replace low := gCall low hb
 have CF := Lib.hid cf
 clear hb cf cb pb qb xb
 go_wp2_with ((with_reducible refine wp_storeW (tyWay) (ob) (rfl) (way_size z) (way_one z) ?_ ?_ ?_); rfl; rfl)
 intro w3 ob3 st3
 replace low := st3.low low (by omega)
 have CF3 := Lib.hid ((CF.out.out st3 (.inl zo)).more lz (Nat.le_of_eq st3.size.symm))
 clear st3 CF ob
 go_wp2_with fail
 exact bodyPost_ret (v := .tuple #[.slice A2 ss.length c2, z.val, .int .i64 0]) (results_mid tyWay Tryz.results108 rfl rfl rfl ob3 rfl) rfl ⟨⟨_, _, rfl, CF3.out⟩, low⟩
set_option maxHeartbeats 1000000 in
theorem ownCache_none (n s y b : Int) (v : Value) (ss : List St) (k : Nat) (st kd : Int) (al : Bool) (o : Int) (q : L4) (w : World) (h : Cs w v ss) (hs : stE st kd = 0) (ho : ownS st kd al = 0)
  (T : Hid (∀ w, Cs w v ss → Calls Tryz.prog 135 #[cfg n s y b, v, .int .i64 k] w fun e w' => e = .returned (.tuple #[.slice none 0 0, zeroV, .int .i64 5]) ∧ Below w.heap.size w w')) :
  Calls Tryz.prog 108 #[cfg n s y b, v, .int .i64 kd, plcV k st al o, q.val] w fun e w' => e = .returned (.tuple #[.slice none 0 0, zeroV, .int .i64 5]) ∧ Below w.heap.size w w' := by
 obtain ⟨A, c, rfl⟩ : ∃ A c, v = .slice A ss.length c := by obtain ⟨A, c, e, _⟩ := h; exact ⟨A, c, e⟩
 obtain ⟨qa, qq, qc, qd⟩ := q
 have O := Lib.hid fun w => own_any st kd al w
 rw [hs, ho] at O
 clear hs ho
 have low := Below.refl w.heap.size w
 have cb := boxNext low 23 (cfgA n s y b)
 replace low := gAlloc low (.cells (cfgA n s y b) 23)
 replace h := h.alloc (.cells (cfgA n s y b) 23)
 try simp only [World.size_alloc] at cb
 have pb := boxNext low 202 (plcA k st al o)
 replace low := gAlloc low (.cells (plcA k st al o) 202)
 replace h := h.alloc (.cells (plcA k st al o) 202)
 replace cb := cb.alloc (.cells (plcA k st al o) 202)
 try simp only [World.size_alloc] at pb
 have qb := boxNext low 27 (lnA ⟨qa, qq, qc, qd⟩)
 replace low := gAlloc low (.cells (lnA ⟨qa, qq, qc, qd⟩) 27)
 replace h := h.alloc (.cells (lnA ⟨qa, qq, qc, qd⟩) 27)
 replace cb := cb.alloc (.cells (lnA ⟨qa, qq, qc, qd⟩) 27)
 replace pb := pb.alloc (.cells (lnA ⟨qa, qq, qc, qd⟩) 27)
 try simp only [World.size_alloc] at qb
 have ob := boxNext low 114 zeroA
 replace low := gAlloc low (.cells zeroA 114)
 replace h := h.alloc (.cells zeroA 114)
 replace cb := cb.alloc (.cells zeroA 114)
 replace pb := pb.alloc (.cells zeroA 114)
 replace qb := qb.alloc (.cells zeroA 114)
 try simp only [World.size_alloc] at ob
 simp only [zeroA] at ob
 go_enter Tryz.func108, Tryz.ntmps108
 have pb_0 := pb.at_ 0 rfl
 have pb_1 := pb.at_ 1 rfl
 have pb_2 := pb.at_ 2 rfl
 go_wp2_with (with_reducible refine wp_newW (tyWay) ?_)
 (with_reducible refine (O.out _).mono ?_); rintro e w' ⟨rfl, rfl⟩
 have qb_0 := qb.at_ 0 rfl
 have qb_1 := qb.at_ 1 rfl
 have qb_2 := qb.at_ 2 rfl
 have qb_3 := qb.at_ 3 rfl
 have xb := boxNext low 114 #[.int .i64 (0), .int .i64 k, .int .u64 qa, .int .u64 qq, .int .u64 qc, .int .u64 qd]
 replace low := gAlloc low (.cells #[.int .i64 (0), .int .i64 k, .int .u64 qa, .int .u64 qq, .int .u64 qc, .int .u64 qd] 114)
 replace h := h.alloc (.cells #[.int .i64 (0), .int .i64 k, .int .u64 qa, .int .u64 qq, .int .u64 qc, .int .u64 qd] 114)
 replace cb := cb.alloc (.cells #[.int .i64 (0), .int .i64 k, .int .u64 qa, .int .u64 qq, .int .u64 qc, .int .u64 qd] 114)
 replace pb := pb.alloc (.cells #[.int .i64 (0), .int .i64 k, .int .u64 qa, .int .u64 qq, .int .u64 qc, .int .u64 qd] 114)
 replace ob := ob.alloc (.cells #[.int .i64 (0), .int .i64 k, .int .u64 qa, .int .u64 qq, .int .u64 qc, .int .u64 qd] 114)
 try simp only [World.size_alloc] at xb
 have cb_0 := cb.at_ 0 rfl
 have cb_1 := cb.at_ 1 rfl
 have cb_2 := cb.at_ 2 rfl
 have cb_3 := cb.at_ 3 rfl
 go_wp2_with (with_reducible refine wp_newW (tyWay) ?_)
 (with_reducible refine (T.out _ h).mono ?_); rintro e w2 ⟨rfl, hb⟩
 clear pb_0 pb_1 pb_2 qb_0 qb_1 qb_2 qb_3 cb_0 cb_1 cb_2 cb_3
 replace ob := ob.call hb
 replace low := gCall low hb
 clear hb cb pb qb xb
 go_wp2_with ((with_reducible refine wp_storeW (tyWay) (ob) (rfl) (zero_sz) (zero_one) ?_ ?_ ?_); rfl; rfl)
 intro w3 ob3 st3
 replace low := st3.low low (by omega)
 clear st3 ob
 go_wp2_with fail
 exact bodyPost_ret (v := .tuple #[.slice none 0 0, zeroV, .int .i64 5]) (results_mid tyWay Tryz.results108 rfl rfl rfl ob3 rfl) rfl ⟨rfl, low⟩
set_option maxHeartbeats 1000000 in
theorem ownCache_put (n s y b : Int) (v : Value) (ss : List St) (k : Nat) (kd : Int) (al : Bool) (o : Int) (q : L4) (w : World) (h : Cs w v ss) (hs : stE 0 kd = 0) (a : Int) (ho : ownS 0 kd al = a) (h0 : a ≠ 0)
  (sa : List St) (z : Wy) (T : Hid (∀ w, Cs w v ss → Calls Tryz.prog 136 #[cfg n s y b, v, (⟨a, k, q.a, q.b, q.c, q.d⟩ : Wy).val] w (GaveCW w ss z sa))) :
  Calls Tryz.prog 108 #[cfg n s y b, v, .int .i64 kd, plcV k 0 al o, q.val] w (GaveCW w ss z sa) := by
 obtain ⟨A, c, rfl⟩ : ∃ A c, v = .slice A ss.length c := by obtain ⟨A, c, e, _⟩ := h; exact ⟨A, c, e⟩
 obtain ⟨qa, qq, qc, qd⟩ := q
 obtain ⟨st, hst⟩ : ∃ st : Int, st = 0 := ⟨0, rfl⟩
 have O := Lib.hid fun w => own_any 0 kd al w
 rw [hs, ho] at O
 rw [← hst] at O ⊢
 have s0 : (st == 0) = true := by simp [hst]
 have a0 : (a == 0) = false := by simpa using h0
 clear hs ho h0 hst
 have low := Below.refl w.heap.size w
 have cb := boxNext low 23 (cfgA n s y b)
 replace low := gAlloc low (.cells (cfgA n s y b) 23)
 replace h := h.alloc (.cells (cfgA n s y b) 23)
 try simp only [World.size_alloc] at cb
 have pb := boxNext low 202 (plcA k st al o)
 replace low := gAlloc low (.cells (plcA k st al o) 202)
 replace h := h.alloc (.cells (plcA k st al o) 202)
 replace cb := cb.alloc (.cells (plcA k st al o) 202)
 try simp only [World.size_alloc] at pb
 have qb := boxNext low 27 (lnA ⟨qa, qq, qc, qd⟩)
 replace low := gAlloc low (.cells (lnA ⟨qa, qq, qc, qd⟩) 27)
 replace h := h.alloc (.cells (lnA ⟨qa, qq, qc, qd⟩) 27)
 replace cb := cb.alloc (.cells (lnA ⟨qa, qq, qc, qd⟩) 27)
 replace pb := pb.alloc (.cells (lnA ⟨qa, qq, qc, qd⟩) 27)
 try simp only [World.size_alloc] at qb
 have ob := boxNext low 114 zeroA
 replace low := gAlloc low (.cells zeroA 114)
 replace h := h.alloc (.cells zeroA 114)
 replace cb := cb.alloc (.cells zeroA 114)
 replace pb := pb.alloc (.cells zeroA 114)
 replace qb := qb.alloc (.cells zeroA 114)
 try simp only [World.size_alloc] at ob
 simp only [zeroA] at ob
 go_enter Tryz.func108, Tryz.ntmps108
 have pb_0 := pb.at_ 0 rfl
 have pb_1 := pb.at_ 1 rfl
 have pb_2 := pb.at_ 2 rfl
 go_wp2_with (with_reducible refine wp_newW (tyWay) ?_)
 (with_reducible refine (O.out _).mono ?_); rintro e w' ⟨rfl, rfl⟩
 have qb_0 := qb.at_ 0 rfl
 have qb_1 := qb.at_ 1 rfl
 have qb_2 := qb.at_ 2 rfl
 have qb_3 := qb.at_ 3 rfl
 have xb := boxNext low 114 #[.int .i64 (a), .int .i64 k, .int .u64 qa, .int .u64 qq, .int .u64 qc, .int .u64 qd]
 replace low := gAlloc low (.cells #[.int .i64 (a), .int .i64 k, .int .u64 qa, .int .u64 qq, .int .u64 qc, .int .u64 qd] 114)
 replace h := h.alloc (.cells #[.int .i64 (a), .int .i64 k, .int .u64 qa, .int .u64 qq, .int .u64 qc, .int .u64 qd] 114)
 replace cb := cb.alloc (.cells #[.int .i64 (a), .int .i64 k, .int .u64 qa, .int .u64 qq, .int .u64 qc, .int .u64 qd] 114)
 replace pb := pb.alloc (.cells #[.int .i64 (a), .int .i64 k, .int .u64 qa, .int .u64 qq, .int .u64 qc, .int .u64 qd] 114)
 replace ob := ob.alloc (.cells #[.int .i64 (a), .int .i64 k, .int .u64 qa, .int .u64 qq, .int .u64 qc, .int .u64 qd] 114)
 try simp only [World.size_alloc] at xb
 have cb_0 := cb.at_ 0 rfl
 have cb_1 := cb.at_ 1 rfl
 have cb_2 := cb.at_ 2 rfl
 have cb_3 := cb.at_ 3 rfl
 have xb_0 := xb.at_ 0 rfl
 have xb_1 := xb.at_ 1 rfl
 have xb_2 := xb.at_ 2 rfl
 have xb_3 := xb.at_ 3 rfl
 have xb_4 := xb.at_ 4 rfl
 have xb_5 := xb.at_ 5 rfl
 go_wp2_with (with_reducible refine wp_newW (tyWay) ?_)
 (with_reducible refine (T.out _ h).mono ?_); rintro e w2 ⟨⟨A2, c2, rfl, cf⟩, hb⟩
 clear pb_0 pb_1 pb_2 qb_0 qb_1 qb_2 qb_3 cb_0 cb_1 cb_2 cb_3 xb_0 xb_1 xb_2 xb_3 xb_4 xb_5
 have zo := ob.lt
 have lz := low.size
 replace ob := ob.call hb
 replace low := gCall low hb
 have CF := Lib.hid cf
 clear hb cf cb pb qb xb
 go_wp2_with ((with_reducible refine wp_storeW (tyWay) (ob) (rfl) (way_size z) (way_one z) ?_ ?_ ?_); rfl; rfl)
 intro w3 ob3 st3
 replace low := st3.low low (by omega)
 have CF3 := Lib.hid ((CF.out.out st3 (.inl zo)).more lz (Nat.le_of_eq st3.size.symm))
 clear st3 CF ob
 go_wp2_with fail
 exact bodyPost_ret (v := .tuple #[.slice A2 ss.length c2, z.val, .int .i64 0]) (results_mid tyWay Tryz.results108 rfl rfl rfl ob3 rfl) rfl ⟨⟨_, _, rfl, CF3.out⟩, low⟩
set_option maxHeartbeats 1000000 in
theorem ownCache_set (n s y b : Int) (v : Value) (ss : List St) (k : Nat) (st kd : Int) (al : Bool) (o : Int) (q : L4) (w : World) (h : Cs w v ss) (hs : stE st kd = 0) (a : Int) (ho : ownS st kd al = a) (h0 : a ≠ 0) (hst : st ≠ 0)
  (sa : List St) (T : Hid (∀ w, Cs w v ss → Calls Tryz.prog 137 #[cfg n s y b, v, (⟨a, k, q.a, q.b, q.c, q.d⟩ : Wy).val] w fun e w' => (∃ A c, e = .returned (.tuple #[.slice A ss.length c, .int .i64 0]) ∧ CFr w' w.heap.size w'.heap.size (.slice A ss.length c) sa) ∧ Below w.heap.size w w')) :
  Calls Tryz.prog 108 #[cfg n s y b, v, .int .i64 kd, plcV k st al o, q.val] w (GaveCW w ss wy0 sa) := by
 obtain ⟨A, c, rfl⟩ : ∃ A c, v = .slice A ss.length c := by obtain ⟨A, c, e, _⟩ := h; exact ⟨A, c, e⟩
 obtain ⟨qa, qq, qc, qd⟩ := q
 have O := Lib.hid fun w => own_any st kd al w
 rw [hs, ho] at O
 have s0 : (st == 0) = false := by simpa using hst
 have a0 : (a == 0) = false := by simpa using h0
 clear hs ho h0 hst
 have low := Below.refl w.heap.size w
 have cb := boxNext low 23 (cfgA n s y b)
 replace low := gAlloc low (.cells (cfgA n s y b) 23)
 replace h := h.alloc (.cells (cfgA n s y b) 23)
 try simp only [World.size_alloc] at cb
 have pb := boxNext low 202 (plcA k st al o)
 replace low := gAlloc low (.cells (plcA k st al o) 202)
 replace h := h.alloc (.cells (plcA k st al o) 202)
 replace cb := cb.alloc (.cells (plcA k st al o) 202)
 try simp only [World.size_alloc] at pb
 have qb := boxNext low 27 (lnA ⟨qa, qq, qc, qd⟩)
 replace low := gAlloc low (.cells (lnA ⟨qa, qq, qc, qd⟩) 27)
 replace h := h.alloc (.cells (lnA ⟨qa, qq, qc, qd⟩) 27)
 replace cb := cb.alloc (.cells (lnA ⟨qa, qq, qc, qd⟩) 27)
 replace pb := pb.alloc (.cells (lnA ⟨qa, qq, qc, qd⟩) 27)
 try simp only [World.size_alloc] at qb
 have ob := boxNext low 114 zeroA
 replace low := gAlloc low (.cells zeroA 114)
 replace h := h.alloc (.cells zeroA 114)
 replace cb := cb.alloc (.cells zeroA 114)
 replace pb := pb.alloc (.cells zeroA 114)
 replace qb := qb.alloc (.cells zeroA 114)
 try simp only [World.size_alloc] at ob
 simp only [zeroA] at ob
 go_enter Tryz.func108, Tryz.ntmps108
 have pb_0 := pb.at_ 0 rfl
 have pb_1 := pb.at_ 1 rfl
 have pb_2 := pb.at_ 2 rfl
 go_wp2_with (with_reducible refine wp_newW (tyWay) ?_)
 (with_reducible refine (O.out _).mono ?_); rintro e w' ⟨rfl, rfl⟩
 have qb_0 := qb.at_ 0 rfl
 have qb_1 := qb.at_ 1 rfl
 have qb_2 := qb.at_ 2 rfl
 have qb_3 := qb.at_ 3 rfl
 have xb := boxNext low 114 #[.int .i64 (a), .int .i64 k, .int .u64 qa, .int .u64 qq, .int .u64 qc, .int .u64 qd]
 replace low := gAlloc low (.cells #[.int .i64 (a), .int .i64 k, .int .u64 qa, .int .u64 qq, .int .u64 qc, .int .u64 qd] 114)
 replace h := h.alloc (.cells #[.int .i64 (a), .int .i64 k, .int .u64 qa, .int .u64 qq, .int .u64 qc, .int .u64 qd] 114)
 replace cb := cb.alloc (.cells #[.int .i64 (a), .int .i64 k, .int .u64 qa, .int .u64 qq, .int .u64 qc, .int .u64 qd] 114)
 replace pb := pb.alloc (.cells #[.int .i64 (a), .int .i64 k, .int .u64 qa, .int .u64 qq, .int .u64 qc, .int .u64 qd] 114)
 replace ob := ob.alloc (.cells #[.int .i64 (a), .int .i64 k, .int .u64 qa, .int .u64 qq, .int .u64 qc, .int .u64 qd] 114)
 try simp only [World.size_alloc] at xb
 have cb_0 := cb.at_ 0 rfl
 have cb_1 := cb.at_ 1 rfl
 have cb_2 := cb.at_ 2 rfl
 have cb_3 := cb.at_ 3 rfl
 have xb_0 := xb.at_ 0 rfl
 have xb_1 := xb.at_ 1 rfl
 have xb_2 := xb.at_ 2 rfl
 have xb_3 := xb.at_ 3 rfl
 have xb_4 := xb.at_ 4 rfl
 have xb_5 := xb.at_ 5 rfl
 go_wp2_with (with_reducible refine wp_newW (tyWay) ?_)
 (with_reducible refine (T.out _ h).mono ?_); rintro e w2 ⟨⟨A2, c2, rfl, cf⟩, hb⟩
 clear pb_0 pb_1 pb_2 qb_0 qb_1 qb_2 qb_3 cb_0 cb_1 cb_2 cb_3 xb_0 xb_1 xb_2 xb_3 xb_4 xb_5
 have zo := ob.lt
 have lz := low.size
 replace ob := ob.call hb
 replace low := gCall low hb
 have CF := Lib.hid cf
 clear hb cf cb pb qb xb
 go_wp2_with (first | (with_reducible refine wp_zeroW (tyWay) ?_) | ((with_reducible refine wp_storeW (tyWay) (ob) (rfl) (zero_sz) (zero_one) ?_ ?_ ?_); rfl; rfl))
 intro w3 ob3 st3
 replace low := st3.low low (by omega)
 have CF3 := Lib.hid ((CF.out.out st3 (.inl zo)).more lz (Nat.le_of_eq st3.size.symm))
 clear st3 CF ob
 go_wp2_with fail
 exact bodyPost_ret (v := .tuple #[.slice A2 ss.length c2, wy0.val, .int .i64 0]) (results_mid tyWay Tryz.results108 rfl rfl rfl ob3 rfl) rfl ⟨⟨_, _, rfl, CF3.out⟩, low⟩
section
variable {n s y b : Int} {ss : List St} {k r j : Nat} {t : St} {z : Wy} {al : Bool} {q : L4} {p p' p'' : Bool}
theorem own_take (he : cacheE n s y b ss = 0) (hk : k < 16) (ht : ss[r]? = some t) (hj : t.l[j]? = some z) (hz : hasW k z = true) : OwnIs n s y b ss k 4 al q (updC ss r t j wy0 t.a t.b t.c) z := by
 have hg := good_upd (x := wy0) (p := t.a) (q := t.b) (p' := t.c) he ht hj (by decide) (fun h => absurd rfl h) (rowE_ok ((goodC_iff.1 he).2.2 r t ht).1).1
 have hf : fnd ss k = some z := (fnd_iff he hk).2 ⟨hz, r, j, t, ht, hj⟩
 refine ⟨hg, ?_, fun i hi hne => ?_, fun _ => ⟨k, hk, (hasW_iff.1 hz).2, hf⟩, fun _ => hf, fun h => absurd rfl h, fun h => absurd rfl h⟩
 ·rw [fnd_upd he hg ht hj hk, if_neg (by rw [hasW_zero]; decide), if_pos hz, if_pos rfl]
 ·rw [fnd_upd he hg ht hj hi, if_neg (by rw [hasW_zero]; decide)]
theorem own_new {kd : Int} (he : cacheE n s y b ss = 0) (hk : k < 16) (ht : ss[r]? = some t) (hj : t.l[j]? = some z) (hr : (k : Int) % s = r) (_hkd : kd ≠ 4) (ho : 1 ≤ ownS (stO (fnd ss k)) kd al ∧ ownS (stO (fnd ss k)) kd al ≤ 4)
  (hno : ∀ (i : Nat) u, i ≠ j → t.l[i]? = some u → hasW k u = false) (htr : treeE p p' p'' y = 0) :
  cacheE n s y b (updC ss r t j ⟨ownS (stO (fnd ss k)) kd al, k, q.a, q.b, q.c, q.d⟩ p p' p'') = 0 ∧ ∀ i, i < 16 → fnd (updC ss r t j ⟨ownS (stO (fnd ss k)) kd al, k, q.a, q.b, q.c, q.d⟩ p p' p'') i = if i = k then some ⟨ownS (stO (fnd ss k)) kd al, k, q.a, q.b, q.c, q.d⟩ else if hasW i z = true then none else fnd ss i := by
 have hwe : wayE ⟨ownS (stO (fnd ss k)) kd al, k, q.a, q.b, q.c, q.d⟩ = 0 := (wayE_of (by simp only [hlB, Bool.and_eq_true]; exact ⟨decide_eq_true ho, lnB_iff.2 (by omega)⟩)).1
 have hg : cacheE n s y b (updC ss r t j ⟨ownS (stO (fnd ss k)) kd al, k, q.a, q.b, q.c, q.d⟩ p p' p'') = 0 := good_upd he ht hj hwe (fun _ => ⟨hr, hno⟩) htr
 refine ⟨hg, fun i hi => ?_⟩
 rw [fnd_upd he hg ht hj hi]
 by_cases e : i = k
 ·subst e
  have hh : hasW i ⟨ownS (stO (fnd ss i)) kd al, i, q.a, q.b, q.c, q.d⟩ = true := hasW_iff.2 ⟨by show ownS (stO (fnd ss i)) kd al ≠ 0; omega, rfl⟩
  rw [if_pos hh, if_pos rfl]
 ·have hh : ¬ hasW i ⟨ownS (stO (fnd ss k)) kd al, k, q.a, q.b, q.c, q.d⟩ = true := fun h => e (by have h2 : (k : Int) = i := (hasW_iff.1 h).2; omega)
  rw [if_neg hh, if_neg e]
end
theorem ownS_range {s k : Int} (h : 0 ≤ s ∧ s ≤ 4) (hk : 1 ≤ k ∧ k ≤ 4) (a : Bool) : stE s k = 0 ∧ (k = 4 → ownS s k a = 0) ∧ (k ≠ 4 → 1 ≤ ownS s k a ∧ ownS s k a ≤ 4) := by
 obtain e | e | e | e | e : s = 0 ∨ s = 1 ∨ s = 2 ∨ s = 3 ∨ s = 4 := by omega
 all_goals
  obtain f | f | f | f : k = 1 ∨ k = 2 ∨ k = 3 ∨ k = 4 := by omega
  all_goals rw [e, f]; cases a <;> decide
theorem ownCache_is (n s y b : Int) (ss : List St) (k : Nat) (kd : Int) (al : Bool) (o : Int) (q : L4) (he : cacheE n s y b ss = 0) (hk : k < 16) (h1 : 1 ≤ kd ∧ kd ≤ 4) :
  (kd = 4 ∧ fnd ss k = none ∧ ∀ v w, Cs w v ss → Calls Tryz.prog 108 #[cfg n s y b, v, .int .i64 kd, plcV k (stO (fnd ss k)) al o, q.val] w fun e w' => e = .returned (.tuple #[.slice none 0 0, zeroV, .int .i64 5]) ∧ Below w.heap.size w w') ∨
  (¬ (kd = 4 ∧ fnd ss k = none) ∧ ∃ sa out, OwnIs n s y b ss k kd al q sa out ∧ ∀ v w, Cs w v ss → Calls Tryz.prog 108 #[cfg n s y b, v, .int .i64 kd, plcV k (stO (fnd ss k)) al o, q.val] w (GaveCW w ss out sa)) := by
 obtain ⟨z, p, E, hf, _⟩ := cacheFind_all n s y b ss k
 obtain ⟨rfl, hz0, hfn, _⟩ := fnd_find he hk hf
 have good := goodC_iff.1 he
 obtain ⟨r, t, hr, ht⟩ := good.set_ k
 have hl : lineE n s y b ss k = 0 := by rw [lineE_zero he, if_neg (by rw [lnB_iff.2 (by omega)]; decide)]
 obtain ⟨_, hx⟩ := hf.ok hl hr ht
 have row := (good.2.2 r t ht).1
 obtain ⟨t1, t2, t3⟩ := rowE_ok row
 have gw := (goodW_iff t.l).1 t3
 have hst : 0 ≤ stO (fnd ss k) ∧ stO (fnd ss k) ≤ 4 := by
  cases e : fnd ss k with
  | none => exact ⟨by decide, by decide⟩
  | some x => have := (fnd_ok he hk e).2.2; exact ⟨by show 0 ≤ x.st; omega, by show x.st ≤ 4; omega⟩
 obtain ⟨r1, r2, r3⟩ := ownS_range hst h1 al
 have hlx : ∀ a : Int, 1 ≤ a ∧ a ≤ 4 → hlB ⟨a, k, q.a, q.b, q.c, q.d⟩ = true := fun a ha => by simp only [hlB, Bool.and_eq_true]; exact ⟨decide_eq_true ha, lnB_iff.2 (by omega)⟩
 have hwc : ∀ a : Int, 1 ≤ a ∧ a ≤ 4 → wayCE n s y b ss ⟨a, k, q.a, q.b, q.c, q.d⟩ = 0 := fun a ha => by
  unfold wayCE
  rw [if_neg (by simp [he]), if_neg (by rw [hlx a ha]; decide)]
 rcases hx with ⟨hi, rfl, rfl⟩ | ⟨j, hj, hzj, rfl⟩
 ·-- not there
  have hfn0 : fnd ss k = none := by simpa using hfn
  by_cases h4 : kd = 4
  ·left
   refine ⟨h4, hfn0, fun v w h => ownCache_none n s y b v ss k _ kd al o q w h r1 (r2 h4) (Lib.hid fun w hw => ?_)⟩
   have ht5 : takeE t.l t.a t.b t.c y k = 5 := by
    unfold takeE
    rw [if_neg (by simp [row]), if_pos hi]
   have := cacheTake_err n s y b v ss k r t w hw hl hr ht (by rw [ht5]; decide)
   rwa [ht5] at this
  ·right
   have ha := r3 h4
   refine ⟨fun h => h4 h.1, ?_⟩
   obtain ⟨j, old, hj, hold⟩ := room_in row
   have hno : ∀ u ∈ t.l, hasW k u = false := idxP_neg.1 (Int.not_le.2 hi)
   have tk := touch_keeps t1 (show (0 : Int) ≤ j by omega) (show (j : Int) < y by have := set_lt hold; omega)
   obtain ⟨k1, k2⟩ := own_new (q := q) (kd := kd) (al := al) he hk ht hold hr h4 ha (fun i u _ hu => hno u (List.mem_of_getElem? hu)) tk
   have ho0 := hno old (List.mem_of_getElem? hold)
   refine ⟨_, old, ⟨k1, ?_, fun i hi hne => ?_, fun hs => ?_, fun e => absurd e h4, fun _ => ho0, fun _ e => absurd hfn0 e⟩, fun v w h => ?_⟩
   ·rw [k2 k hk, if_pos rfl, if_neg h4]
   ·rw [k2 i hi, if_neg hne]
   ·have hw := gw.1 j old hold
    have hll := good_line hw
    refine ⟨old.ln.toNat, by omega, by omega, (fnd_iff he (by omega)).2 ⟨hasW_iff.2 ⟨hs, by omega⟩, r, j, t, ht, hold⟩⟩
   ·have hs0 : stO (fnd ss k) = 0 := by rw [hfn0]; rfl
    rw [hs0] at r1 ha ⊢
    exact ownCache_put n s y b v ss k kd al o q w h r1 _ rfl (by omega) _ old (Lib.hid fun w hw => cachePut_ok n s y b v ss ⟨ownS 0 kd al, k, q.a, q.b, q.c, q.d⟩ r t j old w hw (hwc _ ha) hr ht (by
     unfold putE
     rw [if_neg (by simp [row]), if_neg (by rw [hlx _ ha]; decide), if_neg (by dsimp only; omega)]) hj hold)
 ·-- there
  rw [if_pos rfl] at hfn
  obtain ⟨f1, f2, f3⟩ := fnd_ok he hk hfn
  have hz : hasW k z = true := hasW_iff.2 ⟨f1, f2⟩
  have hs0 : stO (fnd ss k) = z.st := by rw [hfn]; rfl
  right
  refine ⟨fun h => (by rw [hfn] at h; cases h.2), ?_⟩
  by_cases h4 : kd = 4
  ·subst h4
   refine ⟨_, z, own_take he hk ht hzj hz, fun v w h => ownCache_take n s y b v ss k _ 4 al o q w h r1 (r2 rfl) _ z (Lib.hid fun w hw => cacheTake_ok n s y b v ss k r t j z w hw hl hr ht ?_ hj hzj)⟩
   unfold takeE
   rw [if_neg (by simp [row]), if_neg (by omega)]
  ·have ha := r3 h4
   have tk := touch_keeps t1 (show (0 : Int) ≤ j by omega) (show (j : Int) < y by have := set_lt hzj; omega)
   obtain ⟨k1, k2⟩ := own_new (q := q) (kd := kd) (al := al) he hk ht hzj hr h4 ha (fun i u hi hu => gw.other hzj hz hu hi) tk
   refine ⟨_, wy0, ⟨k1, ?_, fun i hi hne => ?_, fun hs => absurd rfl hs, fun e => absurd e h4, fun _ => rfl, fun _ _ => rfl⟩, fun v w h => ?_⟩
   ·rw [k2 k hk, if_pos rfl, if_neg h4]
   ·have hno : hasW i z = false := hasW_no.2 fun _ e => by omega
    rw [k2 i hi, if_neg hne, if_neg (by rw [hno]; decide), if_neg (by rw [hasW_zero]; decide)]
   ·exact ownCache_set n s y b v ss k _ kd al o q w h r1 _ rfl (by omega) (by rw [hs0]; exact f1) _ (Lib.hid fun w hw => cacheSet_ok n s y b v ss ⟨ownS (stO (fnd ss k)) kd al, k, q.a, q.b, q.c, q.d⟩ r t j w hw (hwc _ ha) hr ht (by
     unfold setE
     rw [if_neg (by simp [row]), if_neg (by rw [hlx _ ha]; decide), if_neg (by dsimp only; omega)]) hj)
end Go.Proofs.YtcegjehoejgofaaGreat
namespace Go.Proofs.YtcegjehoejgofaaGreat
open Go.ChangeShapes Go.WideShapes Go.ChangeAt Go.RowKit Go.Joins
theorem small_is (w : World) : Calls Tryz.prog 18 #[] w fun e w' => e = .returned (cfg 2 1 1 1) ∧ Below w.heap.size w w' := by
 have low := Below.refl w.heap.size w
 go_enter Tryz.func18, Tryz.ntmps18
 go_wp2_with fail
 refine bodyPost_ret (v := cfg 2 1 1 1) (by simp [results, Tryz.results18, go_sem]) rfl ⟨rfl, ?_⟩
 exact gAlloc low _
end Go.Proofs.YtcegjehoejgofaaGreat
namespace Go.Proofs.YtcegjehoejgofaaGreat
open Go.ChangeShapes Go.WideShapes Go.ChangeAt Go.RowKit Go.Joins
end Go.Proofs.YtcegjehoejgofaaGreat
namespace Go.Proofs.YtcegjehoejgofaaGreat
open Go.ChangeShapes Go.WideShapes Go.ChangeAt Go.RowKit Go.Joins
abbrev nilW : Array Value := wldA (.slice none 0 0) zeroL
theorem info_cache : (Tryz.prog.info? 160).map (fun i => (i.zero, i.size, i.bytes)) = some (some (.slice none 0 0), 1, 24) := by kernel_rfl
def nilsA (n : Nat) : Array Value := (List.replicate n (Value.slice none 0 0)).toArray
theorem make_caches (n : Nat) (hn : n ≤ 8) (w : World) : (Instr.makeSlice 24 (.int .i64 n) (.int .i64 n)).run Tryz.prog w = .ok (.slice (some ⟨w.heap.size, 0, none⟩) n n) (w.alloc (.cells (nilsA n) 160)) := by
 obtain ⟨i0, hi, hz0, hz1, hz2⟩ := info_parts info_cache
 have := run_make w 24 160 i0 (.slice none 0 0) Tryz.underlying24 hi hz0 .i64 .i64 n n (by omega) (Int.le_refl _) (by rw [hz2]; omega) (by omega)
 rw [this, hz1]
 have e : madeCells (Value.slice none 0 0).cells n = nilsA n := by
  unfold nilsA
  refine Array.ext (by rw [size_madeCells, List.size_toArray, List.length_replicate]) fun i h1 h2 => ?_
  simp [madeCells, Value.cells, Nat.mod_one]
 simp [e]
theorem build_world (g n : Nat) (w : World) : (Instr.build 31 #[(0, .slice (some ⟨g, 0, none⟩) n n), (1, memV zeroL)]).run Tryz.prog w = .ok (wldV (.slice (some ⟨g, 0, none⟩) n n) zeroL) w := by kernel_rfl
theorem exec_buildW {ρ : Operand → Value} {dst : Option Tmp} {t : TypeId} {pos : String} {after : Array Edge} {gd : Option (Nat × Bool)} {x y : Operand} {g n : Nat} {w : World} (hx : ρ x = .slice (some ⟨g, 0, none⟩) n n) (hy : ρ y = memV zeroL) :
  (execOp ρ ⟨dst, .build 31 #[(0, x), (1, y)], t, pos, after, gd⟩).run Tryz.prog w = .ok (.value (wldV (.slice (some ⟨g, 0, none⟩) n n) zeroL)) w := by
 unfold execOp
 simp only [List.map_toArray, List.map_cons, List.map_nil, hx, hy, Sem.run_bind, build_world, Result.andThen_ok, Sem.run_pure]
theorem op_newW {T : TypeId} {z : Array Value} (ty : Ty T z) {dst : Option Tmp} {t : TypeId} {pos : String} {after : Array Edge} {gd : Option (Nat × Bool)} {a : Act} {w : World} {K : Act → World → Prop} {Q : Exit → Act → World → Prop}
  (h : K (a.put dst (.pointer (some ⟨w.heap.size, 0, none⟩))) (w.alloc (.cells z T))) : Oper.wp Tryz.prog ⟨dst, .alloc T, t, pos, after, gd⟩ a w K Q := by
 unfold Oper.wp execOp
 simp only [Instr.alloc, Sem.run_bind, (zero_of_info ty.info).1, newVar, newRow, run_newObj_alloc, Sem.run_pure, Result.andThen_ok]
 exact h
structure Two (w0 : World) (ta : TypeId) (ca : Array Value) (tb : TypeId) (cb : Array Value) (w : World) (pa pb : Option Nat) : Prop where
 low : Below w0.heap.size w0 w
 fa : ∀ g, pa = some g → w0.heap.size ≤ g ∧ Box w g ta ca
 fb : ∀ g, pb = some g → w0.heap.size ≤ g ∧ Box w g tb cb
 ne : ∀ g g', pa = some g → pb = some g' → g ≠ g'
section
variable {w0 w w' : World} {ta tb : TypeId} {ca cb : Array Value} {pa pb : Option Nat}
theorem Two.start (w : World) (ta : TypeId) (ca : Array Value) (tb : TypeId) (cb : Array Value) : Two w ta ca tb cb w none none :=
 ⟨Below.refl _ _, fun _ h => (by cases h), fun _ h => (by cases h), fun _ _ h => (by cases h)⟩
theorem Two.allocA (h : Two w0 ta ca tb cb w none pb) : Two w0 ta ca tb cb (w.alloc (.cells ca ta)) (some w.heap.size) pb := by
 have hs := h.low.size
 refine ⟨gAlloc h.low _, fun g e => ?_, fun g e => ?_, fun g g' e e' => ?_⟩
 ·cases e; exact ⟨hs, Box.new w ta ca⟩
 ·obtain ⟨h1, h2⟩ := h.fb g e; exact ⟨h1, h2.alloc _⟩
 ·cases e; have := (h.fb g' e').2.lt; omega
theorem Two.allocB (h : Two w0 ta ca tb cb w pa none) : Two w0 ta ca tb cb (w.alloc (.cells cb tb)) pa (some w.heap.size) := by
 have hs := h.low.size
 refine ⟨gAlloc h.low _, fun g e => ?_, fun g e => ?_, fun g g' e e' => ?_⟩
 ·obtain ⟨h1, h2⟩ := h.fa g e; exact ⟨h1, h2.alloc _⟩
 ·cases e; exact ⟨hs, Box.new w tb cb⟩
 ·cases e'; have := (h.fa g e).2.lt; omega
theorem Two.call (h : Two w0 ta ca tb cb w pa pb) (hb : Below w.heap.size w w') : Two w0 ta ca tb cb w' pa pb := by
 refine ⟨gCall h.low hb, fun g e => ?_, fun g e => ?_, h.ne⟩
 ·obtain ⟨h1, h2⟩ := h.fa g e; exact ⟨h1, h2.call hb⟩
 ·obtain ⟨h1, h2⟩ := h.fb g e; exact ⟨h1, h2.call hb⟩
end
def Made (w : World) (ga p q : Nat) (us : List Value) (j : Nat) : Prop := ∃ A c, us[j]? = some (.slice A p c) ∧ ∃ B C, ga < B ∧ CFr w B C (.slice A p c) (emptyC p q)
theorem Made.call {w w' : World} {ga p q : Nat} {us : List Value} {j : Nat} (h : Made w ga p q us j) (hb : Below w.heap.size w w') : Made w' ga p q us j := by
 obtain ⟨A, c, h1, B, C, h2, h3⟩ := h
 exact ⟨A, c, h1, B, C, h2, h3.call hb⟩
theorem Made.next {w w' : World} {ga p q : Nat} {us : List Value} {k : Nat} (h : ∀ j, j < k → Made w ga p q us j) (hk : k < us.length) {A : Option Addr} {c B C : Nat} (hB : ga < B) (cf : CFr w B C (.slice A p c) (emptyC p q)) (st : Stored w ga w') : ∀ j, j < k + 1 → Made w' ga p q (us.set k (.slice A p c)) j := by
 intro j hj
 by_cases e : j = k
 ·subst e
  exact ⟨A, c, List.getElem?_set_self hk, B, C, hB, cf.out st (.inl hB)⟩
 ·obtain ⟨A', c', h1, B', C', h2, h3⟩ := h j (by omega)
  exact ⟨A', c', by rw [List.getElem?_set_ne (fun h => e h.symm)]; exact h1, B', C', h2, h3.out st (.inl h2)⟩
theorem shareTwo {M Φ : Nat → Nat → World → Prop} {G : Prop} (tree : (∀ ga gb w, M ga gb w → Φ ga gb w) → G) (last : ∀ ga gb w, M ga gb w → Φ ga gb w) : G := tree last
end Go.Proofs.YtcegjehoejgofaaGreat
namespace Go.Proofs.YtcegjehoejgofaaGreat
open Go.ChangeShapes Go.WideShapes Go.ChangeAt Go.RowKit Go.Joins
abbrev doneA (u : Int) (hit : Bool) (fr out : Int) (wr : Bool) : Array Value := #[.int .u64 u, .bool hit, .int .i64 fr, .int .i64 out, .bool wr]
abbrev doneV (u : Int) (hit : Bool) (fr out : Int) (wr : Bool) : Value := .agg (doneA u hit fr out wr)
theorem tyDone : Ty 180 (doneA 0 false 0 0 false) := ⟨by kernel_rfl, ⟨_, Tryz.underlying180, rfl⟩, fun w => by kernel_rfl⟩
theorem done_one (u : Int) (hit : Bool) (fr out : Int) (wr : Bool) : (doneA u hit fr out wr).all (·.oneCell') = true := by simp [Value.oneCell']
theorem done_size (u : Int) (hit : Bool) (fr out : Int) (wr : Bool) : (doneA u hit fr out wr).size = (doneA 0 false 0 0 false).size := rfl
theorem run_storeInt {w : World} {g : Nat} {T ty : TypeId} {cs : Array Value} {kk : IntKind} (z : (Tryz.prog.info? ty).map (·.size) = some 1) (h : Box w g T cs) (i : Nat) (hi : i < cs.size) (v : Int) :
  (storeVar ty ⟨g, i, none⟩ (.int kk v)).run Tryz.prog w = .ok () (w.setCell ⟨g, i, none⟩ (.int kk v)) := by
 have c := h.cell i
 rw [Array.getElem?_eq_getElem hi] at c
 have f := h.frozen i
 have := run_storeCells_cells (P := Tryz.prog) g i [.int kk v] 0 w (fun j hj => by obtain rfl : j = 0 := (by simpa using hj); simp [c]) (fun j hj => by obtain rfl : j = 0 := (by simpa using hj); simp [f]) (fun u hu => by simp at hu; subst hu; rfl)
 cases hq : Tryz.prog.info? ty with
 | none => rw [hq] at z; cases z
 | some y =>
  have hs : y.size = 1 := by rw [hq] at z; simpa using z
  simp only [Nat.add_zero] at this
  simp [storeVar, sizeOf, typeInfo, hq, Value.cells, hs, this, World.setCells]
theorem wp_storeI {ops : Array Oper} {rest : List Oper} {dst : Option Tmp} {t : TypeId} {pos : String} {after : Array Edge} {a : Act} {w : World} {Q : Exit → Act → World → Prop} {ty : TypeId} (z : (Tryz.prog.info? ty).map (·.size) = some 1)
  {x y : Operand} {g : Nat} {T : TypeId} {cs : Array Value} {kk : IntKind} (hb : Box w g T cs) (i : Nat) (hi : i < cs.size) (v : Int) (hx : a.eval x = .pointer (some ⟨g, i, none⟩)) (hy : a.eval y = .int kk v)
  (h : ∀ w', Box w' g T (cs.setIfInBounds i (.int kk v)) → Stored w g w' → wpList Tryz.prog ops Q rest (a.put dst undef) w') :
  wpList Tryz.prog ops Q (⟨dst, .store ty x y, t, pos, after, none⟩ :: rest) a w := by
 refine wpList_plain rfl fun K hK => ?_
 unfold Oper.wp execOp
 simp only [hx, hy, Instr.storeAt, Instr.sureAddr, Sem.run_bind, Sem.run_pure, Result.andThen_ok, run_storeInt z hb i hi v]
 exact hK _ _ (h _ (hb.set i _) (Stored.cell1 w ⟨g, i, none⟩ _))
theorem size_int : (Tryz.prog.info? 3).map (·.size) = some 1 := by kernel_rfl
theorem shareAll {Φ G : Prop} (tree : (True → Φ) → G) (last : Φ) : G := tree fun _ => last
theorem results_one {fn : Func} {T : TypeId} {z : Array Value} (ty : Ty T z) {tmps : Array Value} {i g : Nat} {cs : Array Value} {w : World} (hr : fn.results = #[.cell i T]) (hi : tmps.getD i undef = .pointer (some ⟨g, 0, none⟩)) (hb : Box w g T cs) (hs : cs.size = z.size) :
  (results fn tmps).run Tryz.prog w = .ok (.agg cs) w := by
 rw [Array.getD_eq_getD_getElem?] at hi
 simp [results, hr, hi, asAddr, load_whole ty hb.range hs]
set_option maxRecDepth 10000 in
set_option maxHeartbeats 2000000 in
theorem report_any (k st : Int) (al : Bool) (o kd u : Int) (x : Wy) (w : World) (h1 : 1 ≤ kd) (h2 : kd ≤ 4) :
  Calls Tryz.prog 111 #[plcV k st al o, .int .i64 kd, .int .u64 u, x.val] w fun e w' =>
   e = .returned (doneV u (locB st kd) (if st = 0 then o else -1) (if x.st ≠ 0 then x.ln else -1) (owB x.st)) ∧ Below w.heap.size w w' := by
 have L := Lib.hid fun w => isLocal_any st kd w h1 h2
 have O := Lib.hid fun w => owns_any x.st w
 generalize hP : (if st = 0 then o else -1) = P
 generalize hR : (if x.st ≠ 0 then x.ln else -1) = R
 have HP := Lib.hid hP
 have HR := Lib.hid hR
 obtain ⟨sx, lx, ax, bx, cx, dx⟩ := x
 simp only at *
 generalize locB st kd = lb at L ⊢
 generalize owB sx = ow at O ⊢
 clear h1 h2 hP hR
 have low := Below.refl w.heap.size w
 have pb := boxNext low 202 (plcA k st al o)
 replace low := gAlloc low (.cells (plcA k st al o) 202)
 try simp only [World.size_alloc] at pb
 have xb := boxNext low 114 #[.int .i64 sx, .int .i64 lx, .int .u64 ax, .int .u64 bx, .int .u64 cx, .int .u64 dx]
 replace low := gAlloc low (.cells #[.int .i64 sx, .int .i64 lx, .int .u64 ax, .int .u64 bx, .int .u64 cx, .int .u64 dx] 114)
 replace pb := pb.alloc (.cells #[.int .i64 sx, .int .i64 lx, .int .u64 ax, .int .u64 bx, .int .u64 cx, .int .u64 dx] 114)
 try simp only [World.size_alloc] at xb
 have ob := boxNext low 180 (doneA 0 false 0 0 false)
 replace low := gAlloc low (.cells (doneA 0 false 0 0 false) 180)
 replace pb := pb.alloc (.cells (doneA 0 false 0 0 false) 180)
 replace xb := xb.alloc (.cells (doneA 0 false 0 0 false) 180)
 try simp only [World.size_alloc] at ob
 have p1 := pb.at_ 1 rfl
 have x0 := xb.at_ 0 rfl
 go_enter Tryz.func111, Tryz.ntmps111
 go_wp2_with (with_reducible refine wp_newW (tyDone) ?_)
 refine wp_region_noPanic ?_
 refine wp_region_held_drew (S := fun w' => w'.cell? ⟨w.heap.size, 1, none⟩ = some (.int .i64 st) ∧ w'.cell? ⟨w.heap.size + 1, 0, none⟩ = some (.int .i64 sx)) (by kernel_rfl) ⟨drewC p1, drewC x0⟩ (fun hHeld => ?_)
 clear p1 x0
 refine takeA 0 ?_ rfl ?_ ?_; rotate_left
 ·(intro w hSw; go_simp; try (with_reducible rfl))
 try simp only [Act.put, List.setIfInBounds_toArray, List.set_cons_zero, List.set_cons_succ]
 refine takeA 1 ?_ rfl ?_ ?_; rotate_left
 ·(intro w hSw; go_simp; try (with_reducible rfl))
 try simp only [Act.put, List.setIfInBounds_toArray, List.set_cons_zero, List.set_cons_succ]
 refine takeA 2 ?_ rfl ?_ ?_; rotate_left
 ·(intro w hSw; go_simp; try (with_reducible rfl))
 try simp only [Act.put, List.setIfInBounds_toArray, List.set_cons_zero, List.set_cons_succ]
 refine takeA 3 ?_ rfl ?_ ?_; rotate_left
 ·(intro w hSw; go_simp; try (with_reducible rfl))
 try simp only [Act.put, List.setIfInBounds_toArray, List.set_cons_zero, List.set_cons_succ]
 refine takeA 5 ?_ rfl ?_ ?_; rotate_left
 ·(intro w hSw; go_simp; try (with_reducible rfl))
 try simp only [Act.put, List.setIfInBounds_toArray, List.set_cons_zero, List.set_cons_succ]
 refine takeA 6 ?_ rfl ?_ ?_; rotate_left
 ·(intro w hSw; go_simp; try (with_reducible rfl))
 try simp only [Act.put, List.setIfInBounds_toArray, List.set_cons_zero, List.set_cons_succ]
 replace pb := pb.drew
 replace xb := xb.drew
 replace ob := ob.drew
 replace low := low.drew
 have zo := ob.lt
 simp only [plcA, doneA] at pb ob zo
 generalize hW : World.drew _ = wN at *
 clear hW
 have hNew := (And.intro (allocC (.cells (doneA 0 false 0 0 false) 180) hHeld.1) (allocC (.cells (doneA 0 false 0 0 false) 180) hHeld.2))
 apply shareAll
 ·intro hE
  refine stepTwo (i1 := 4) (i2 := 9) (by kernel_rfl) rfl rfl (by rfl) (by rfl) (fun K hK => ?_) (fun K hK => ?_)
  ·go_simp
   (with_reducible refine (L.out _).mono ?_); rintro e w' ⟨rfl, rfl⟩
   refine hK.out _ _ (by assumption) ?_
   clear hK K
   try simp only [Act.put]
   try simp only [List.setIfInBounds_toArray, List.set_cons_zero, List.set_cons_succ]
   refine stepTwo (i1 := 7) (i2 := 9) (by kernel_rfl) rfl rfl (by rfl) (by rfl) (fun K hK => ?_) (fun K hK => ?_)
   ·go_simp
    (with_reducible refine (O.out _).mono ?_); rintro e w' ⟨rfl, rfl⟩
    refine hK.out _ _ (by assumption) ?_
    clear hK K
    try simp only [Act.put]
    try simp only [List.setIfInBounds_toArray, List.set_cons_zero, List.set_cons_succ]
    refine takeA 8 ?_ rfl ?_ ?_; rotate_left
    ·(intro w hSw; go_simp; try (with_reducible rfl))
    try simp only [Act.put, List.setIfInBounds_toArray, List.set_cons_zero, List.set_cons_succ]
    refine stepNext (i := 9) (by kernel_rfl) rfl (by rfl) (fun K hK => ?_)
    refine op_newW tyDone ?_
    refine hK.out _ _ hNew ?_
    clear hK K
    try simp only [Act.put]
    try simp only [List.setIfInBounds_toArray, List.set_cons_zero, List.set_cons_succ]
    refine relist (l2 := #[true, true, true, true, true, true, true, true, true, true, false]) (by kernel_rfl) ?_
    exact hE trivial
   ·refine op_newW tyDone ?_
    refine hK.out _ _ hNew ?_
    clear hK K
    try simp only [Act.put]
    try simp only [List.setIfInBounds_toArray, List.set_cons_zero, List.set_cons_succ]
    refine stepNext (i := 7) (by kernel_rfl) rfl (by rfl) (fun K hK => ?_)
    go_simp
    (with_reducible refine (O.out _).mono ?_); rintro e w' ⟨rfl, rfl⟩
    refine hK.out _ _ (by assumption) ?_
    clear hK K
    try simp only [Act.put]
    try simp only [List.setIfInBounds_toArray, List.set_cons_zero, List.set_cons_succ]
    refine takeA 8 ?_ rfl ?_ ?_; rotate_left
    ·(intro w hSw; go_simp; try (with_reducible rfl))
    try simp only [Act.put, List.setIfInBounds_toArray, List.set_cons_zero, List.set_cons_succ]
    refine relist (l2 := #[true, true, true, true, true, true, true, true, true, true, false]) (by kernel_rfl) ?_
    exact hE trivial
  ·refine op_newW tyDone ?_
   refine hK.out _ _ hNew ?_
   clear hK K
   try simp only [Act.put]
   try simp only [List.setIfInBounds_toArray, List.set_cons_zero, List.set_cons_succ]
   refine stepNext (i := 4) (by kernel_rfl) rfl (by rfl) (fun K hK => ?_)
   go_simp
   (with_reducible refine (L.out _).mono ?_); rintro e w' ⟨rfl, rfl⟩
   refine hK.out _ _ (by assumption) ?_
   clear hK K
   try simp only [Act.put]
   try simp only [List.setIfInBounds_toArray, List.set_cons_zero, List.set_cons_succ]
   refine stepNext (i := 7) (by kernel_rfl) rfl (by rfl) (fun K hK => ?_)
   go_simp
   (with_reducible refine (O.out _).mono ?_); rintro e w' ⟨rfl, rfl⟩
   refine hK.out _ _ (by assumption) ?_
   clear hK K
   try simp only [Act.put]
   try simp only [List.setIfInBounds_toArray, List.set_cons_zero, List.set_cons_succ]
   refine takeA 8 ?_ rfl ?_ ?_; rotate_left
   ·(intro w hSw; go_simp; try (with_reducible rfl))
   try simp only [Act.put, List.setIfInBounds_toArray, List.set_cons_zero, List.set_cons_succ]
   refine relist (l2 := #[true, true, true, true, true, true, true, true, true, true, false]) (by kernel_rfl) ?_
   exact hE trivial
 have yb := Box.new wN 180 (doneA 0 false 0 0 false)
 replace pb := pb.alloc (.cells (doneA 0 false 0 0 false) 180)
 replace xb := xb.alloc (.cells (doneA 0 false 0 0 false) 180)
 replace ob := ob.alloc (.cells (doneA 0 false 0 0 false) 180)
 replace low := gAlloc low (.cells (doneA 0 false 0 0 false) 180)
 refine stepNext (i := 10) (by kernel_rfl) rfl (by rfl) (fun K hK => ?_)
 refine wp_store_box 180 (.tmp 9) (.tmp 18) rfl _ _ rfl rfl yb (tyDone.size.trans rfl) rfl (done_one u lb (-1) (-1) ow) ?_
 intro w2 yb2 st2
 replace pb := st2.box pb (by omega)
 replace xb := st2.box xb (by omega)
 replace ob := st2.box ob (by omega)
 replace low := st2.low low (by omega)
 have hAll := (And.intro (pb.at_ 1 rfl) (xb.at_ 0 rfl))
 refine hK.out _ _ hAll ?_
 clear hK K st2 yb hAll hHeld hNew
 try simp only [Act.put]
 try simp only [List.setIfInBounds_toArray, List.set_cons_zero, List.set_cons_succ]
 refine wpAnyH_done (by kernel_rfl) ?_ _
 refine NoPanic.normal ?_
 have zy := yb2.lt
 generalize hgy : wN.heap.size = gy at *
 have HGY := Lib.hid hgy
 have ny : w.heap.size + 1 + 1 ≠ gy := by omega
 have nl : w.heap.size ≤ gy := by omega
 clear hgy
 have pb_0 := pb.at_ 0 rfl
 have pb_1 := pb.at_ 1 rfl
 have pb_3 := pb.at_ 3 rfl
 have xb_0 := xb.at_ 0 rfl
 have xb_1 := xb.at_ 1 rfl
 by_cases hs : st = 0
 ·obtain rfl : o = P := by have := HP.out; rwa [if_pos hs] at this
  have hs0 : (st == 0) = true := by simp [hs]
  clear hs
  have i2 : 2 < (doneA u lb (-1) (-1) ow).size := show 2 < 5 by omega
  go_wp2_with ((with_reducible refine wp_storeI (kk := .i64) size_int yb2 2 i2 o ?_ ?_ ?_); rfl; rfl)
  intro w5 yb5 st5
  replace ob := st5.box ob (by omega)
  replace xb := st5.box xb (by omega)
  replace low := st5.low low (by omega)
  have yb2 : Box w5 gy 180 (doneA u lb o (-1) ow) := yb5
  clear st5 yb5
  clear pb_0 pb_1 pb_3 xb_0 xb_1
  have xb_0 := xb.at_ 0 rfl
  have xb_1 := xb.at_ 1 rfl
  by_cases hq : sx ≠ 0
  ·obtain rfl : lx = R := by have := HR.out; rwa [if_pos hq] at this
   have hq0 : (sx != 0) = true := by simpa using hq
   clear hq
   have i3 : 3 < (doneA u lb (o) (-1) ow).size := show 3 < 5 by omega
   go_wp2_with ((with_reducible refine wp_storeI (kk := .i64) size_int yb2 3 i3 lx ?_ ?_ ?_); rfl; rfl)
   intro w7 yb7 st7
   replace ob := st7.box ob (by omega)
   replace low := st7.low low (by omega)
   have yb2 : Box w7 gy 180 (doneA u lb (o) lx ow) := yb7
   clear st7 yb7
   have yr := yb2.range
   have sz : (doneA u lb (o) (lx) ow).size = (doneA 0 false 0 0 false).size := done_size u lb (o) (lx) ow
   have one := done_one u lb (o) (lx) ow
   go_wp2_with (first | ((with_reducible refine wp_loadW (tyDone) (yr) (sz) ?_ ?_ ?_); rfl; rfl) | ((with_reducible refine wp_storeW (tyDone) (ob) (rfl) (sz) (one) ?_ ?_ ?_); rfl; rfl))
   intro w6 ob6 st6
   replace low := st6.low low (by omega)
   clear st6 ob
   go_wp2_with fail
   exact bodyPost_ret (v := doneV u lb (o) (lx) ow) (results_one tyDone Tryz.results111 rfl ob6 rfl) rfl ⟨rfl, low⟩
  ·obtain rfl : -1 = R := by have := HR.out; rwa [if_neg hq] at this
   have hq0 : (sx != 0) = false := by simpa using hq
   clear hq
   have yr := yb2.range
   have sz : (doneA u lb (o) (-1) ow).size = (doneA 0 false 0 0 false).size := done_size u lb (o) (-1) ow
   have one := done_one u lb (o) (-1) ow
   go_wp2_with (first | ((with_reducible refine wp_loadW (tyDone) (yr) (sz) ?_ ?_ ?_); rfl; rfl) | ((with_reducible refine wp_storeW (tyDone) (ob) (rfl) (sz) (one) ?_ ?_ ?_); rfl; rfl))
   intro w6 ob6 st6
   replace low := st6.low low (by omega)
   clear st6 ob
   go_wp2_with fail
   exact bodyPost_ret (v := doneV u lb (o) (-1) ow) (results_one tyDone Tryz.results111 rfl ob6 rfl) rfl ⟨rfl, low⟩
 ·obtain rfl : -1 = P := by have := HP.out; rwa [if_neg hs] at this
  have hs0 : (st == 0) = false := by simpa using hs
  clear hs
  by_cases hq : sx ≠ 0
  ·obtain rfl : lx = R := by have := HR.out; rwa [if_pos hq] at this
   have hq0 : (sx != 0) = true := by simpa using hq
   clear hq
   have i3 : 3 < (doneA u lb (-1) (-1) ow).size := show 3 < 5 by omega
   go_wp2_with ((with_reducible refine wp_storeI (kk := .i64) size_int yb2 3 i3 lx ?_ ?_ ?_); rfl; rfl)
   intro w7 yb7 st7
   replace ob := st7.box ob (by omega)
   replace low := st7.low low (by omega)
   have yb2 : Box w7 gy 180 (doneA u lb (-1) lx ow) := yb7
   clear st7 yb7
   have yr := yb2.range
   have sz : (doneA u lb (-1) (lx) ow).size = (doneA 0 false 0 0 false).size := done_size u lb (-1) (lx) ow
   have one := done_one u lb (-1) (lx) ow
   go_wp2_with (first | ((with_reducible refine wp_loadW (tyDone) (yr) (sz) ?_ ?_ ?_); rfl; rfl) | ((with_reducible refine wp_storeW (tyDone) (ob) (rfl) (sz) (one) ?_ ?_ ?_); rfl; rfl))
   intro w6 ob6 st6
   replace low := st6.low low (by omega)
   clear st6 ob
   go_wp2_with fail
   exact bodyPost_ret (v := doneV u lb (-1) (lx) ow) (results_one tyDone Tryz.results111 rfl ob6 rfl) rfl ⟨rfl, low⟩
  ·obtain rfl : -1 = R := by have := HR.out; rwa [if_neg hq] at this
   have hq0 : (sx != 0) = false := by simpa using hq
   clear hq
   have yr := yb2.range
   have sz : (doneA u lb (-1) (-1) ow).size = (doneA 0 false 0 0 false).size := done_size u lb (-1) (-1) ow
   have one := done_one u lb (-1) (-1) ow
   go_wp2_with (first | ((with_reducible refine wp_loadW (tyDone) (yr) (sz) ?_ ?_ ?_); rfl; rfl) | ((with_reducible refine wp_storeW (tyDone) (ob) (rfl) (sz) (one) ?_ ?_ ?_); rfl; rfl))
   intro w6 ob6 st6
   replace low := st6.low low (by omega)
   clear st6 ob
   go_wp2_with fail
   exact bodyPost_ret (v := doneV u lb (-1) (-1) ow) (results_one tyDone Tryz.results111 rfl ob6 rfl) rfl ⟨rfl, low⟩
end Go.Proofs.YtcegjehoejgofaaGreat
namespace Go.Proofs.YtcegjehoejgofaaGreat
open Go.ChangeShapes Go.WideShapes Go.ChangeAt Go.RowKit Go.Joins
def runE : List Dd → Int
 | [] => 0
 | d :: r => if deedE d = 0 then runE r else deedE d
def runM (l : List Int) (r : List Dd) : List Int := r.foldl doM l
def runV (l : List Int) : List Dd → List Int
 | [] => []
 | d :: r => doV l d :: runV (doM l d) r
theorem runE_append (a b : List Dd) : runE (a ++ b) = if runE a = 0 then runE b else runE a := by
 induction a with
 | nil => simp [runE]
 | cons d r ih =>
  simp only [List.cons_append, runE]
  by_cases h : deedE d = 0
  ·simp only [if_pos h, ih]
  ·simp only [if_neg h]
theorem runM_append (l : List Int) (a b : List Dd) : runM l (a ++ b) = runM (runM l a) b := List.foldl_append
theorem runV_append (l : List Int) (a b : List Dd) : runV l (a ++ b) = runV l a ++ runV (runM l a) b := by
 induction a generalizing l with
 | nil => rfl
 | cons d r ih => simp only [List.cons_append, runV, ih]; rfl
end Go.Proofs.YtcegjehoejgofaaGreat
namespace Go.Proofs.YtcegjehoejgofaaGreat
open Go.ChangeShapes Go.WideShapes Go.ChangeAt Go.RowKit Go.Joins
def othB (xs : List Int) (i : Int) : Bool := xs.any fun x => x != i
theorem indexOther (v : Value) (xs : List Int) (g : Nat) (i : Int) (w : World) (h : Sl w w.heap.size 1 v xs.length (xs.map (Value.int .i64))) (hc : w.cell? ⟨g, 0, none⟩ = some (.int .i64 i)) :
  Calls Tryz.prog 95 #[v, .func (.func 132) #[] #[.pointer (some ⟨g, 0, none⟩)]] w fun e w' => (∃ r : Int, e = .returned (.int .i64 r) ∧ decide (0 ≤ r) = othB xs i) ∧ w = w' := by
 obtain ⟨hl, A, c, rfl, h1, h2, h3⟩ := h
 have H3 := Lib.hid h3
 unfold maxLen at h2
 clear hl h3
 generalize hB : othB xs i = B
 have HB := Lib.hid hB
 clear hB
 go_enter Tryz.func95, Tryz.ntmps95
 go_wp2
 go_loop [8] (fun a => ∃ k : Nat, (k ≤ xs.length ∧ Hid (∀ (j : Nat) x, j < k → xs[j]? = some x → x = i)) ∧ a = .int .i64 k) (fun a => xs.length - (intOf a).toNat)
 case atStart => exact ⟨0, ⟨Nat.zero_le _, Lib.hid fun j x hj => absurd hj (by omega)⟩, rfl⟩
 case round =>
  obtain ⟨k, ⟨hk, Z⟩, rfl⟩ := hrel
  by_cases hlt : k < xs.length
  ·obtain ⟨bb, o, rfl, hb, hcell⟩ := H3.out (by omega)
   have hx : xs[k]? = some xs[k] := List.getElem?_eq_getElem _
   generalize xs[k] = x at hx
   have g0 := hcell k (.int .i64 x) (by rw [List.getElem?_map, hx]; rfl)
   have HX := Lib.hid hx
   clear hx hcell
   have k0 : (0 : Int) ≤ k := by omega
   have k1 : (k : Int) < xs.length := by omega
   by_cases h0 : x = i
   ·have e0 : (x != i) = false := by simp [h0]
    have H0 := Lib.hid h0
    clear h0
    go_wp2
    go_round
    case rel => exact ⟨k + 1, ⟨by omega, Lib.hid fun j y hj hy => by
     by_cases e : j < k
     ·exact Z.out j y e hy
     ·obtain rfl : j = k := by omega
      rw [HX.out] at hy
      cases hy
      exact H0.out⟩, by go_num⟩
    case measure => simp [intOf]; omega
   ·have e0 : (x != i) = true := by simpa using h0
    have H0 := Lib.hid h0
    clear h0
    go_wp2
    go_ret
    refine ⟨⟨k, rfl, ?_⟩, rfl⟩
    have : othB xs i = true := List.any_eq_true.2 ⟨x, List.mem_of_getElem? HX.out, by simpa using H0.out⟩
    rw [← HB.out, this]
    exact decide_eq_true (by omega)
  ·obtain rfl : k = xs.length := by omega
   clear hlt
   go_wp2
   go_ret
   refine ⟨⟨-1, rfl, ?_⟩, rfl⟩
   have : othB xs i = false := by
    unfold othB
    rw [List.any_eq_false]
    intro x hx
    obtain ⟨j, hj, e⟩ := List.getElem_of_mem hx
    have := Z.out j x hj (by rw [List.getElem?_eq_getElem hj, e])
    simp [this]
   rw [← HB.out, this]
   rfl
theorem containsOther (v : Value) (xs : List Int) (g : Nat) (i : Int) (w : World) (h : Sl w w.heap.size 1 v xs.length (xs.map (Value.int .i64))) (hc : w.cell? ⟨g, 0, none⟩ = some (.int .i64 i)) :
  Calls Tryz.prog 72 #[v, .func (.func 132) #[] #[.pointer (some ⟨g, 0, none⟩)]] w fun e w' => e = .returned (.bool (othB xs i)) ∧ w = w' := by
 have C := Lib.hid (indexOther v xs g i w h hc)
 obtain ⟨A, c, rfl⟩ : ∃ A c, v = .slice A xs.length c := by obtain ⟨_, A, c, e, _⟩ := h; exact ⟨A, c, e⟩
 generalize othB xs i = B at C ⊢
 clear h hc
 go_enter Tryz.func72, Tryz.ntmps72
 go_wp2_with fail
 (with_reducible refine (C.out).mono ?_); rintro e w' ⟨⟨r, rfl, hr⟩, rfl⟩
 cases B
 ·go_wp2_with fail
  go_ret
  exact ⟨rfl, rfl⟩
 ·go_wp2_with fail
  go_ret
  exact ⟨rfl, rfl⟩
def findE (n s y b : Int) (css : List (List St)) (m : List Int) (d : Dd) : Int :=
 if cohE n s y b css m ≠ 0 then cohE n s y b css m else if deedE d ≠ 0 then deedE d else if n ≤ d.nd then 4 else 0
theorem findE_ok {n s y b : Int} {css : List (List St)} {m : List Int} {d : Dd} (h : findE n s y b css m d = 0) : cohE n s y b css m = 0 ∧ deedE d = 0 ∧ d.nd < n := by
 unfold findE at h
 by_cases h1 : cohE n s y b css m ≠ 0
 ·rw [if_pos h1] at h; exact absurd h h1
 ·rw [if_neg h1] at h
  by_cases h2 : deedE d ≠ 0
  ·rw [if_pos h2] at h; exact absurd h h2
  ·rw [if_neg h2] at h
   by_cases h3 : n ≤ d.nd
   ·rw [if_pos h3] at h; omega
   ·exact ⟨by simpa using h1, by simpa using h2, by omega⟩
theorem tyPlace : Ty 202 (plcA 0 0 false 0) := ⟨by kernel_rfl, ⟨_, Tryz.underlying202, rfl⟩, fun w => by kernel_rfl⟩
theorem plc_one (k s : Int) (al : Bool) (o : Int) : (plcA k s al o).all (·.oneCell') = true := by simp [Value.oneCell']
end Go.Proofs.YtcegjehoejgofaaGreat
namespace Go.Proofs.YtcegjehoejgofaaGreat
open Go.ChangeShapes Go.WideShapes Go.ChangeAt Go.RowKit Go.Joins
structure NewV (w0 : World) (g : Nat) (w : World) (t : TypeId) (cs : Array Value) : Prop where
 low : Below w0.heap.size w0 w
 new : w0.heap.size ≤ g
 box : Box w g t cs
theorem shareV {M Φ : Nat → World → Prop} {G : Prop} (tree : (∀ g w, M g w → Φ g w) → G) (last : ∀ g w, M g w → Φ g w) : G := tree last
set_option maxRecDepth 10000 in
set_option maxHeartbeats 4000000 in
theorem find_ok (n s y b : Int) (v : Value) (m : List Int) (css : List (List St)) (d : Dd) (i0 L r : Nat) (w : World) (h : Ks w v css) (hm : m.length = 64) (he : findE n s y b css m d = 0) (hi : d.nd = i0) (hi0 : i0 < css.length) (hL : L < 16) (hr : r < 4) (ha : d.ad = ((L * 4 + r : Nat) : Int)) :
  Calls Tryz.prog 106 #[cfg n s y b, wldV v m, d.val] w fun e w' =>
   e = .returned (.tuple #[plcV L (stO (fnd (css.getD i0 []) L)) (!othB (nodesL (onL L (copN css css.length))) i0) (ownN (onL L (copN css css.length))), .int .i64 0]) ∧ Below w.heap.size w w' := by
 obtain ⟨he1, he2, he3⟩ := findE_ok he
 have F := Lib.hid fun w hw => agreeCheck_any n s y b v m css w hw hm
 rw [he1] at F
 have R := Lib.hid fun w => atomicRight_any d w
 rw [he2] at R
 obtain ⟨⟨g1, g2, g3⟩, g4⟩ := cohE_iff.1 he1
 have h128 : (onL L (copN css css.length)).length ≤ 128 := by
  have h1 := copN_length g3 (Nat.le_refl css.length)
  have h2 : (onL L (copN css css.length)).length ≤ (copN css css.length).length := List.length_filter_le _ _
  have := cfgB_iff.1 g1
  omega
 have HO := Lib.hid fun w hw => holders_ok n s y b v m css L w hw hm he1 hL h128
 have hx : css[i0]? = some css[i0] := List.getElem?_eq_getElem _
 have hxd : css.getD i0 [] = css[i0] := by simp [List.getD, hx]
 have hss := g3 _ (List.mem_of_getElem? hx)
 rw [hxd]
 generalize css[i0] = ss at hx hxd hss
 obtain ⟨z, p, E, hf, FI⟩ := cacheFind_all n s y b ss L
 obtain ⟨rfl, hz0, hfn, _⟩ := fnd_find hss hL hf
 have hzs : stO (fnd ss L) = z.st := by
  rw [hfn]
  cases p
  ·rw [hz0 rfl]; rfl
  ·rfl
 rw [hzs]
 have AL := Lib.hid fun w => addrLine_at L r w hL hr
 generalize nodesL (onL L (copN css css.length)) = xs at HO ⊢
 generalize ownN (onL L (copN css css.length)) = O at HO ⊢
 generalize cohL n s y b css m = CL at F
 obtain ⟨dn, dk, da, dv⟩ := d
 simp only at hi ha he3 R ⊢
 subst hi
 have FI := Lib.hid FI
 generalize hB : othB xs i0 = B
 have HB := Lib.hid hB
 clear hB
 generalize hda : ((L * 4 + r : Nat) : Int) = D at ha AL
 subst ha
 clear hda he he1 he2 g1 g2 g3 g4 h128 hf hz0 hfn hzs hss hxd
 have H0 := Lib.hid h
 obtain ⟨A, cp, rfl, k1, k2, k3⟩ := id h
 obtain ⟨bb, o, rfl, hbb, hc⟩ := k3 (by omega)
 obtain ⟨A', c', ce, cs⟩ := hc i0 ss hx
 have CE := Lib.hid ce
 have CS := Lib.hid cs
 unfold maxLen at k2
 clear hc k3 hx ce cs
 have d0 : decide (n ≤ (i0 : Int)) = false := decide_eq_false (by omega)
 clear he3
 have low := Below.refl w.heap.size w
 have cb := boxNext low 23 (cfgA n s y b)
 replace low := gAlloc low (.cells (cfgA n s y b) 23)
 replace h := h.alloc (.cells (cfgA n s y b) 23)
 try simp only [World.size_alloc] at cb
 have wb := boxNext low 31 (wldA (.slice (some ⟨bb, o, none⟩) css.length cp) m)
 replace low := gAlloc low (.cells (wldA (.slice (some ⟨bb, o, none⟩) css.length cp) m) 31)
 replace cb := cb.alloc (.cells (wldA (.slice (some ⟨bb, o, none⟩) css.length cp) m) 31)
 replace h := h.alloc (.cells (wldA (.slice (some ⟨bb, o, none⟩) css.length cp) m) 31)
 try simp only [World.size_alloc] at wb
 have db := boxNext low 49 #[.int .i64 (i0), .int .i64 dk, .int .i64 da, .int .u64 dv]
 replace low := gAlloc low (.cells #[.int .i64 (i0), .int .i64 dk, .int .i64 da, .int .u64 dv] 49)
 replace cb := cb.alloc (.cells #[.int .i64 (i0), .int .i64 dk, .int .i64 da, .int .u64 dv] 49)
 replace wb := wb.alloc (.cells #[.int .i64 (i0), .int .i64 dk, .int .i64 da, .int .u64 dv] 49)
 replace h := h.alloc (.cells #[.int .i64 (i0), .int .i64 dk, .int .i64 da, .int .u64 dv] 49)
 try simp only [World.size_alloc] at db
 have ob := boxNext low 202 (plcA 0 0 false 0)
 replace low := gAlloc low (.cells (plcA 0 0 false 0) 202)
 replace cb := cb.alloc (.cells (plcA 0 0 false 0) 202)
 replace wb := wb.alloc (.cells (plcA 0 0 false 0) 202)
 replace db := db.alloc (.cells (plcA 0 0 false 0) 202)
 replace h := h.alloc (.cells (plcA 0 0 false 0) 202)
 try simp only [World.size_alloc] at ob
 have wr := wb.range
 go_enter Tryz.func106, Tryz.ntmps106
 go_wp2_with (first | (with_reducible refine wp_newW (tyPlace) ?_) | ((with_reducible refine wp_loadW (tyWorld) (wr) (wld_size hm) ?_ ?_ ?_); rfl; rfl))
 (with_reducible refine (F.out _ h).mono ?_); rintro e w1 ⟨rfl, hb⟩
 replace ob := ob.call hb
 replace db := db.call hb
 replace cb := cb.call hb
 replace wb := wb.call hb
 replace h := h.call hb
 replace low := gCall low hb
 clear hb wr F
 have db_0 := db.at_ 0 rfl
 have db_1 := db.at_ 1 rfl
 have db_2 := db.at_ 2 rfl
 have db_3 := db.at_ 3 rfl
 go_wp2_with fail
 (with_reducible refine (R.out _).mono ?_); rintro e w2 ⟨rfl, hb⟩
 clear db_0 db_1 db_2 db_3
 replace ob := ob.call hb
 replace db := db.call hb
 replace cb := cb.call hb
 replace wb := wb.call hb
 replace h := h.call hb
 replace low := gCall low hb
 clear hb R
 have db_0 := db.at_ 0 rfl
 have db_2 := db.at_ 2 rfl
 have cb_0 := cb.at_ 0 rfl
 go_wp2_with fail
 (with_reducible refine (AL.out _).mono ?_); rintro e w3 ⟨rfl, rfl⟩
 clear db_0 db_2 cb_0
 clear AL
 have c0 := cb.at_ 0 rfl
 have c1 := cb.at_ 1 rfl
 have c2 := cb.at_ 2 rfl
 have c3 := cb.at_ 3 rfl
 have b0 := wb.at_ 0 (wldA_zero _ _)
 have e0 := db.at_ 0 rfl
 have ce := (low.cell (p := ⟨bb, o + i0, none⟩) hbb).trans CE.out
 have i1 : (i0 : Int) < css.length := by omega
 have i2 : (0 : Int) ≤ i0 := by omega
 go_wp2_with fail
 refine wp_region_noPanic ?_
 refine wp_region_held_drew (S := fun w' => w'.cell? ⟨w.heap.size, 0, none⟩ = some (.int .i64 n) ∧ w'.cell? ⟨w.heap.size, 1, none⟩ = some (.int .i64 s) ∧ w'.cell? ⟨w.heap.size, 2, none⟩ = some (.int .i64 y) ∧ w'.cell? ⟨w.heap.size, 3, none⟩ = some (.int .i64 b) ∧ w'.cell? ⟨w.heap.size + 1, 0, none⟩ = some (.slice (some ⟨bb, o, none⟩) css.length cp) ∧ w'.cell? ⟨w.heap.size + 1 + 1, 0, none⟩ = some (.int .i64 i0) ∧ w'.cell? ⟨bb, o + i0, none⟩ = some (.slice A' ss.length c')) (by kernel_rfl) ⟨drewC c0, drewC c1, drewC c2, drewC c3, drewC b0, drewC e0, drewC ce⟩ (fun hHeld => ?_)
 clear c0 c1 c2 c3 b0 e0 ce
 replace ob := ob.drew
 replace db := db.drew
 replace cb := cb.drew
 replace wb := wb.drew
 replace h := h.drew
 replace low := low.drew
 refine takeA 0 ?_ rfl ?_ ?_; rotate_left
 ·(intro w hSw; go_simp; try (with_reducible rfl))
 try simp only [Act.put, List.setIfInBounds_toArray, List.set_cons_zero, List.set_cons_succ]
 refine takeA 1 ?_ rfl ?_ ?_; rotate_left
 ·(intro w hSw; go_simp; try (with_reducible rfl))
 try simp only [Act.put, List.setIfInBounds_toArray, List.set_cons_zero, List.set_cons_succ]
 refine takeA 2 ?_ rfl ?_ ?_; rotate_left
 ·(intro w hSw; go_simp; try (with_reducible rfl))
 try simp only [Act.put, List.setIfInBounds_toArray, List.set_cons_zero, List.set_cons_succ]
 refine takeA 3 ?_ rfl ?_ ?_; rotate_left
 ·(intro w hSw; go_simp; try (with_reducible rfl))
 try simp only [Act.put, List.setIfInBounds_toArray, List.set_cons_zero, List.set_cons_succ]
 refine takeA 4 ?_ rfl ?_ ?_; rotate_left
 ·(intro w hSw; go_simp; try (with_reducible rfl))
 try simp only [Act.put, List.setIfInBounds_toArray, List.set_cons_zero, List.set_cons_succ]
 refine takeA 5 ?_ rfl ?_ ?_; rotate_left
 ·(intro w hSw; go_simp; try (with_reducible rfl))
 try simp only [Act.put, List.setIfInBounds_toArray, List.set_cons_zero, List.set_cons_succ]
 refine takeA 6 ?_ rfl ?_ ?_; rotate_left
 ·(intro w hSw; go_simp; try (with_reducible rfl))
 try simp only [Act.put, List.setIfInBounds_toArray, List.set_cons_zero, List.set_cons_succ]
 refine takeA 7 ?_ rfl ?_ ?_; rotate_left
 ·(intro w hSw; go_simp; try (with_reducible rfl))
 try simp only [Act.put, List.setIfInBounds_toArray, List.set_cons_zero, List.set_cons_succ]
 generalize w2.drew = wN at *
 have cs := CS.out.call low
 have near := Below.refl wN.heap.size wN
 apply shareV (M := fun g wz => NewV wN g wz 114 zeroA)
 ·intro hE
  refine stepTwo (i1 := 8) (i2 := 13) (by kernel_rfl) rfl rfl (by rfl) (by rfl) (fun K hK => ?_) (fun K hK => ?_)
  ·go_simp
   (with_reducible refine (FI.out _ _ cs).mono ?_); rintro e wy ⟨rfl, hb⟩
   replace near := gCall near hb
   have hNow := (And.intro (callC near hHeld.1) (And.intro (callC near hHeld.2.1) (And.intro (callC near hHeld.2.2.1) (And.intro (callC near hHeld.2.2.2.1) (And.intro (callC near hHeld.2.2.2.2.1) (And.intro (callC near hHeld.2.2.2.2.2.1) (callC near hHeld.2.2.2.2.2.2)))))))
   refine hK.out _ _ hNow ?_
   clear hK K
   try simp only [Act.put]
   try simp only [List.setIfInBounds_toArray, List.set_cons_zero, List.set_cons_succ]
   clear hNow
   have hNow := (And.intro (callC near hHeld.1) (And.intro (callC near hHeld.2.1) (And.intro (callC near hHeld.2.2.1) (And.intro (callC near hHeld.2.2.2.1) (And.intro (callC near hHeld.2.2.2.2.1) (And.intro (callC near hHeld.2.2.2.2.2.1) (callC near hHeld.2.2.2.2.2.2)))))))
   refine takeA 9 ?_ rfl ?_ ?_; rotate_left
   ·(intro w hSw; go_simp; try (with_reducible rfl))
   try simp only [Act.put, List.setIfInBounds_toArray, List.set_cons_zero, List.set_cons_succ]
   refine takeA 10 ?_ rfl ?_ ?_; rotate_left
   ·(intro w hSw; go_simp; try (with_reducible rfl))
   try simp only [Act.put, List.setIfInBounds_toArray, List.set_cons_zero, List.set_cons_succ]
   refine takeA 11 ?_ rfl ?_ ?_; rotate_left
   ·(intro w hSw; go_simp; try (with_reducible rfl))
   try simp only [Act.put, List.setIfInBounds_toArray, List.set_cons_zero, List.set_cons_succ]
   refine takeA 12 ?_ rfl ?_ ?_; rotate_left
   ·(intro w hSw; go_simp; try (with_reducible rfl))
   try simp only [Act.put, List.setIfInBounds_toArray, List.set_cons_zero, List.set_cons_succ]
   refine stepNext (i := 13) (by kernel_rfl) rfl (by rfl) (fun K hK => ?_)
   refine op_newW tyWay ?_
   have sz := near.size
   have box := Box.new wy 114 zeroA
   replace near := gAlloc near (.cells zeroA 114)
   clear hNow
   have hNow := (And.intro (callC near hHeld.1) (And.intro (callC near hHeld.2.1) (And.intro (callC near hHeld.2.2.1) (And.intro (callC near hHeld.2.2.2.1) (And.intro (callC near hHeld.2.2.2.2.1) (And.intro (callC near hHeld.2.2.2.2.2.1) (callC near hHeld.2.2.2.2.2.2)))))))
   refine hK.out _ _ hNow ?_
   clear hK K
   try simp only [Act.put]
   try simp only [List.setIfInBounds_toArray, List.set_cons_zero, List.set_cons_succ]
   generalize wy.alloc (.cells zeroA 114) = wz at *
   generalize wy.heap.size = ga at *
   refine relist (l2 := #[true, true, true, true, true, true, true, true, true, true, true, true, true, true, false, false, false]) (by kernel_rfl) ?_
   exact hE _ _ ⟨near, sz, box⟩
  ·refine op_newW tyWay ?_
   have box := Box.new wN 114 zeroA
   replace near := gAlloc near (.cells zeroA 114)
   have hNow := (And.intro (callC near hHeld.1) (And.intro (callC near hHeld.2.1) (And.intro (callC near hHeld.2.2.1) (And.intro (callC near hHeld.2.2.2.1) (And.intro (callC near hHeld.2.2.2.2.1) (And.intro (callC near hHeld.2.2.2.2.2.1) (callC near hHeld.2.2.2.2.2.2)))))))
   refine hK.out _ _ hNow ?_
   clear hK K
   try simp only [Act.put]
   try simp only [List.setIfInBounds_toArray, List.set_cons_zero, List.set_cons_succ]
   clear hNow
   have cs2 := cs.call near
   generalize wN.alloc (.cells zeroA 114) = wx at *
   generalize hga : wN.heap.size = ga at box ⊢
   have HGA := Lib.hid hga
   clear hga
   refine stepNext (i := 8) (by kernel_rfl) rfl (by rfl) (fun K hK => ?_)
   go_simp
   (with_reducible refine (FI.out _ _ cs2).mono ?_); rintro e wy ⟨rfl, hb⟩
   replace near := gCall near hb
   replace box := box.call hb
   have hNow := (And.intro (callC near hHeld.1) (And.intro (callC near hHeld.2.1) (And.intro (callC near hHeld.2.2.1) (And.intro (callC near hHeld.2.2.2.1) (And.intro (callC near hHeld.2.2.2.2.1) (And.intro (callC near hHeld.2.2.2.2.2.1) (callC near hHeld.2.2.2.2.2.2)))))))
   refine hK.out _ _ hNow ?_
   clear hK K
   try simp only [Act.put]
   try simp only [List.setIfInBounds_toArray, List.set_cons_zero, List.set_cons_succ]
   refine takeA 9 ?_ rfl ?_ ?_; rotate_left
   ·(intro w hSw; go_simp; try (with_reducible rfl))
   try simp only [Act.put, List.setIfInBounds_toArray, List.set_cons_zero, List.set_cons_succ]
   refine takeA 10 ?_ rfl ?_ ?_; rotate_left
   ·(intro w hSw; go_simp; try (with_reducible rfl))
   try simp only [Act.put, List.setIfInBounds_toArray, List.set_cons_zero, List.set_cons_succ]
   refine takeA 11 ?_ rfl ?_ ?_; rotate_left
   ·(intro w hSw; go_simp; try (with_reducible rfl))
   try simp only [Act.put, List.setIfInBounds_toArray, List.set_cons_zero, List.set_cons_succ]
   refine takeA 12 ?_ rfl ?_ ?_; rotate_left
   ·(intro w hSw; go_simp; try (with_reducible rfl))
   try simp only [Act.put, List.setIfInBounds_toArray, List.set_cons_zero, List.set_cons_succ]
   refine relist (l2 := #[true, true, true, true, true, true, true, true, true, true, true, true, true, true, false, false, false]) (by kernel_rfl) ?_
   exact hE _ _ ⟨near, Nat.le_of_eq HGA.out, box⟩
 intro gx wz mid
 have zo := ob.lt
 have zd := db.lt
 obtain ⟨near2, gnew, xb⟩ := mid
 replace ob := ob.call near2
 replace db := db.call near2
 replace cb := cb.call near2
 replace wb := wb.call near2
 replace h := h.call near2
 replace low := gCall low near2
 clear near cs
 refine stepNext (i := 14) (by kernel_rfl) rfl (by rfl) (fun K hK => ?_)
 refine wp_store_box 114 (.tmp 14) (.tmp 62) rfl _ _ rfl rfl xb (tyWay.size.trans rfl) rfl (way_one z) ?_
 intro w4 xb4 st4
 replace ob := st4.box ob (by omega)
 replace db := st4.box db (by omega)
 replace cb := st4.box cb (by omega)
 replace wb := st4.box wb (by omega)
 have low4 := st4.low low (by omega)
 have bbz : bb ≠ gx := by have := low.size; omega
 have ce4 := (low4.cell (p := ⟨bb, o + i0, none⟩) hbb).trans CE.out
 have h4 : Ks w4 (.slice (some ⟨bb, o, none⟩) css.length cp) css := H0.out.call low4
 have hNow := (And.intro (cb.at_ 0 rfl) (And.intro (cb.at_ 1 rfl) (And.intro (cb.at_ 2 rfl) (And.intro (cb.at_ 3 rfl) (And.intro (wb.at_ 0 (wldA_zero _ _)) (And.intro (db.at_ 0 rfl) ce4))))))
 refine hK.out _ _ hNow ?_
 clear hK K st4 xb hNow hHeld near2 h low
 try simp only [Act.put]
 try simp only [List.setIfInBounds_toArray, List.set_cons_zero, List.set_cons_succ]
 have hNow := (And.intro (cb.at_ 0 rfl) (And.intro (cb.at_ 1 rfl) (And.intro (cb.at_ 2 rfl) (And.intro (cb.at_ 3 rfl) (And.intro (wb.at_ 0 (wldA_zero _ _)) (And.intro (db.at_ 0 rfl) ce4))))))
 refine takeA 15 ?_ rfl ?_ ?_; rotate_left
 ·(intro w hSw; go_simp; try (with_reducible rfl))
 try simp only [Act.put, List.setIfInBounds_toArray, List.set_cons_zero, List.set_cons_succ]
 refine takeA 16 ?_ rfl ?_ ?_; rotate_left
 ·(intro w hSw; go_simp; try (with_reducible rfl))
 try simp only [Act.put, List.setIfInBounds_toArray, List.set_cons_zero, List.set_cons_succ]
 refine wpAnyH_done (by kernel_rfl) ?_ _
 refine NoPanic.normal ?_
 clear hNow ce4
 have wr := wb.range
 have cb_0 := cb.at_ 0 rfl
 have cb_1 := cb.at_ 1 rfl
 have cb_2 := cb.at_ 2 rfl
 have cb_3 := cb.at_ 3 rfl
 go_wp2_with ((with_reducible refine wp_loadW (tyWorld) (wr) (wld_size hm) ?_ ?_ ?_); rfl; rfl)
 (with_reducible refine (HO.out _ h4).mono ?_); rintro e w5 ⟨⟨A5, c5, rfl, sl⟩, hb⟩
 clear cb_0 cb_1 cb_2 cb_3
 replace ob := ob.call hb
 replace db := db.call hb
 have xb := xb4.call hb
 have low := gCall low4 hb
 clear hb wr wb cb h4 low4 xb4 HO
 have CO := Lib.hid (containsOther (.slice A5 xs.length c5) xs (w.heap.size + 1 + 1) i0 w5.drew sl (drewC (db.at_ 0 rfl)))
 rw [HB.out] at CO
 have x0 := xb.at_ 0 rfl
 clear sl
 go_wp2_with fail
 refine wp_region_noPanic ?_
 refine wp_region_held_drew (S := fun w' => w'.cell? ⟨gx, 0, none⟩ = some (.int .i64 z.st)) (by kernel_rfl) (drewC x0) (fun hHeld => ?_)
 clear x0
 replace ob := ob.drew
 replace xb := xb.drew
 replace low := low.drew
 refine takeA 0 ?_ rfl ?_ ?_; rotate_left
 ·(intro w hSw; go_simp; try (with_reducible rfl))
 try simp only [Act.put, List.setIfInBounds_toArray, List.set_cons_zero, List.set_cons_succ]
 refine takeA 1 ?_ rfl ?_ ?_; rotate_left
 ·(intro w hSw; go_simp; try (with_reducible rfl))
 try simp only [Act.put, List.setIfInBounds_toArray, List.set_cons_zero, List.set_cons_succ]
 refine takeA 2 ?_ rfl ?_ ?_; rotate_left
 ·(intro w hSw; go_simp; try (with_reducible rfl))
 try simp only [Act.put, List.setIfInBounds_toArray, List.set_cons_zero, List.set_cons_succ]
 refine takeA 3 ?_ rfl ?_ ?_; rotate_left
 ·(intro w hSw; go_simp; try (with_reducible rfl))
 try simp only [Act.put, List.setIfInBounds_toArray, List.set_cons_zero, List.set_cons_succ]
 refine takeA 4 ?_ rfl ?_ ?_; rotate_left
 ·(intro w hSw; go_simp; try (with_reducible rfl))
 try simp only [Act.put, List.setIfInBounds_toArray, List.set_cons_zero, List.set_cons_succ]
 refine takeA 7 ?_ rfl ?_ ?_; rotate_left
 ·(intro w hSw; go_simp; try (with_reducible rfl))
 try simp only [Act.put, List.setIfInBounds_toArray, List.set_cons_zero, List.set_cons_succ]
 refine stepNext (i := 5) (by kernel_rfl) rfl (by rfl) (fun K hK => ?_)
 go_simp
 (with_reducible refine CO.out.mono ?_); rintro e w' ⟨rfl, rfl⟩
 refine hK.out _ _ hHeld ?_
 clear hK K
 try simp only [Act.put]
 try simp only [List.setIfInBounds_toArray, List.set_cons_zero, List.set_cons_succ]
 refine takeA 6 ?_ rfl ?_ ?_; rotate_left
 ·(intro w hSw; go_simp; try (with_reducible rfl))
 try simp only [Act.put, List.setIfInBounds_toArray, List.set_cons_zero, List.set_cons_succ]
 refine takeA 8 ?_ rfl ?_ ?_; rotate_left
 ·(intro w hSw; go_simp; try (with_reducible rfl))
 try simp only [Act.put, List.setIfInBounds_toArray, List.set_cons_zero, List.set_cons_succ]
 refine stepNext (i := 9) (by kernel_rfl) rfl (by rfl) (fun K hK => ?_)
 refine wp_store_box 202 (.tmp 6) (.tmp 90) rfl _ _ rfl rfl ob (tyPlace.size.trans rfl) rfl (plc_one L z.st (!B) O) ?_
 intro w6 ob6 st6
 replace xb := st6.box xb (by omega)
 replace low := st6.low low (by omega)
 have hNow := xb.at_ 0 rfl
 refine hK.out _ _ hNow ?_
 clear hK K st6 ob hHeld
 try simp only [Act.put]
 refine takeA 10 ?_ rfl ?_ ?_; rotate_left
 ·(intro w hSw; go_simp; try (with_reducible rfl))
 try simp only [Act.put, List.setIfInBounds_toArray, List.set_cons_zero, List.set_cons_succ]
 refine wpAnyH_done (by kernel_rfl) ?_ _
 refine NoPanic.normal ?_
 clear hNow
 go_wp2_with fail
 exact bodyPost_ret (v := .tuple #[plcV L z.st (!B) O, .int .i64 0]) (results_first tyPlace Tryz.results106 rfl rfl ob6 rfl) rfl ⟨rfl, low⟩
end Go.Proofs.YtcegjehoejgofaaGreat
namespace Go.Proofs.YtcegjehoejgofaaGreat
open Go.ChangeShapes Go.WideShapes Go.ChangeAt Go.RowKit Go.Joins
def KMade (w : World) (B C g : Nat) (us : List Value) (css : List (List St)) (j : Nat) : Prop :=
 ∀ sa, css[j]? = some sa → ∃ A c, us[j]? = some (.slice A sa.length c) ∧ ∃ B' C', B ≤ B' ∧ C' ≤ C ∧ (C' ≤ g ∨ g < B') ∧ CFr w B' C' (.slice A sa.length c) sa
section
variable {w w' : World} {B C B' C' g : Nat} {us : List Value} {css : List (List St)} {j : Nat}
theorem KMade.call (h : KMade w B C g us css j) (hb : Below w.heap.size w w') : KMade w' B C g us css j := fun sa hs => by
 obtain ⟨A, c, h1, B', C', h2, h3, h4, h5⟩ := h sa hs
 exact ⟨A, c, h1, B', C', h2, h3, h4, h5.call hb⟩
theorem KMade.more (h : KMade w B C g us css j) (hB : B' ≤ B) (hC : C ≤ C') : KMade w B' C' g us css j := fun sa hs => by
 obtain ⟨A, c, h1, B1, C1, h2, h3, h4, h5⟩ := h sa hs
 exact ⟨A, c, h1, B1, C1, by omega, by omega, h4, h5⟩
theorem KMade.out (h : KMade w B C g us css j) {x : Nat} (st : Stored w x w') (hx : x < B ∨ C ≤ x) : KMade w' B C g us css j := fun sa hs => by
 obtain ⟨A, c, h1, B', C', h2, h3, h4, h5⟩ := h sa hs
 exact ⟨A, c, h1, B', C', h2, h3, h4, h5.out st (by omega)⟩
theorem KMade.past (h : KMade w B C g us css j) (st : Stored w g w') {k : Nat} (hk : k ≠ j) (u : Value) : KMade w' B C g (us.set k u) css j := fun sa hs => by
 obtain ⟨A, c, h1, B', C', h2, h3, h4, h5⟩ := h sa hs
 exact ⟨A, c, by rw [List.getElem?_set_ne hk]; exact h1, B', C', h2, h3, h4, h5.out st (by omega)⟩
theorem KMade.set (st : Stored w g w') (hj : j < us.length) {A : Option Addr} {c : Nat} {sa : List St} (hs : css[j]? = some sa) (hB : B ≤ B') (hC : C' ≤ C) (hg : C' ≤ g ∨ g < B') (cf : CFr w B' C' (.slice A sa.length c) sa) : KMade w' B C g (us.set j (.slice A sa.length c)) css j := fun sa' hs' => by
 rw [hs] at hs'
 cases hs'
 exact ⟨A, c, List.getElem?_set_self hj, B', C', hB, hC, hg, cf.out st (by omega)⟩
end
structure KFr (w : World) (B C : Nat) (v : Value) (css : List (List St)) : Prop where
 ex : ∃ g us, v = .slice (some ⟨g, 0, none⟩) css.length css.length ∧ us.length = css.length ∧ css.length ≤ maxLen ∧ B ≤ g ∧ g < C ∧ Box w g 160 us.toArray ∧ ∀ j, KMade w B C g us css j
section
variable {w w' : World} {B C B' C' : Nat} {v : Value} {css : List (List St)}
theorem KFr.call (h : KFr w B C v css) (hb : Below w.heap.size w w') : KFr w' B C v css := by
 obtain ⟨g, us, e, h1, h2, h3, h4, h5, h6⟩ := h
 exact ⟨g, us, e, h1, h2, h3, h4, h5.call hb, fun j => (h6 j).call hb⟩
theorem KFr.alloc (h : KFr w B C v css) (o : Obj) : KFr (w.alloc o) B C v css := h.call (gAlloc (Below.refl _ _) o)
theorem KFr.more (h : KFr w B C v css) (hB : B' ≤ B) (hC : C ≤ C') : KFr w B' C' v css := by
 obtain ⟨g, us, e, h1, h2, h3, h4, h5, h6⟩ := h
 exact ⟨g, us, e, h1, h2, by omega, by omega, h5, fun j => (h6 j).more hB hC⟩
theorem KFr.out (h : KFr w B C v css) {x : Nat} (st : Stored w x w') (hx : x < B ∨ C ≤ x) : KFr w' B C v css := by
 obtain ⟨g, us, e, h1, h2, h3, h4, h5, h6⟩ := h
 exact ⟨g, us, e, h1, h2, h3, h4, st.box h5 (by omega), fun j => (h6 j).out st hx⟩
theorem KFr.shape (h : KFr w B C v css) : ∃ A c, v = .slice A css.length c := by
 obtain ⟨g, us, e, _⟩ := h
 exact ⟨_, _, e⟩
theorem KFr.ks (h : KFr w B C v css) : Ks w v css := by
 obtain ⟨g, us, e, h1, h2, h3, h4, h5, h6⟩ := h
 refine ⟨_, _, e, Nat.le_refl _, h2, fun _ => ⟨g, 0, rfl, h5.lt, fun k ss hk => ?_⟩⟩
 obtain ⟨A, c, k1, B', C', _, _, _, k5⟩ := h6 k ss hk
 refine ⟨A, c, ?_, k5.cs⟩
 rw [h5.cell, Nat.zero_add, List.getElem?_toArray]
 exact k1
end
set_option maxRecDepth 10000 in
set_option maxHeartbeats 1000000 in
theorem otherCaches_ok (n s y b : Int) (v : Value) (css css' : List (List St)) (i0 : Nat) (d : Dd) (hd : d.nd = i0) (k : Nat) (w : World) (h : Ks w v css) (n8 : css.length ≤ 8) (hlen : css'.length = css.length)
  (OC : ∀ i, i < css.length → i ≠ i0 → ∀ v w, Cs w v (css.getD i []) → Calls Tryz.prog 138 #[cfg n s y b, v, .int .i64 d.kd, .int .i64 k] w (GaveC w (css.getD i []) (css'.getD i []))) :
  Calls Tryz.prog 109 #[cfg n s y b, v, d.val, .int .i64 k] w fun e w' => (∃ us : List Value, us.length = css.length ∧ e = .returned (.tuple #[.slice (some ⟨w.heap.size + 1 + 1, 0, none⟩) css.length css.length, .int .i64 0]) ∧
   Box w' (w.heap.size + 1 + 1) 160 us.toArray ∧ ∀ j, j ≠ i0 → KMade w' (w.heap.size + 1 + 1) w'.heap.size (w.heap.size + 1 + 1) us css' j) ∧ Below w.heap.size w w' := by
 obtain ⟨dn, dk, da, dv⟩ := d
 simp only at hd OC
 subst hd
 have HC := Lib.hid OC
 have HLE := Lib.hid hlen
 obtain ⟨A, cp, rfl, h1, h2, h3⟩ := h
 have H3 := Lib.hid h3
 have MS := fun w => make_caches css.length n8 w
 unfold maxLen at h2
 clear h3 OC hlen
 have low := Below.refl w.heap.size w
 have cb := boxNext low 23 (cfgA n s y b)
 replace low := gAlloc low (.cells (cfgA n s y b) 23)
 try simp only [World.size_alloc] at cb
 have db := boxNext low 49 #[.int .i64 (i0 : Int), .int .i64 dk, .int .i64 da, .int .u64 dv]
 replace low := gAlloc low (.cells #[.int .i64 (i0 : Int), .int .i64 dk, .int .i64 da, .int .u64 dv] 49)
 replace cb := cb.alloc (.cells #[.int .i64 (i0 : Int), .int .i64 dk, .int .i64 da, .int .u64 dv] 49)
 try simp only [World.size_alloc] at db
 have ab := boxNext low 160 (nilsA css.length)
 replace low := gAlloc low (.cells (nilsA css.length) 160)
 replace cb := cb.alloc (.cells (nilsA css.length) 160)
 replace db := db.alloc (.cells (nilsA css.length) 160)
 try simp only [World.size_alloc] at ab
 go_enter Tryz.func109, Tryz.ntmps109
 go_wp2_with fail
 clear MS
 go_loopw [20] (fun a wr => ∃ j : Nat, j ≤ css.length ∧ a = .int .i64 j ∧ Hid (∃ us : List Value, us.length = css.length ∧ Box wr (w.heap.size + 1 + 1) 160 us.toArray ∧ ∀ q, q < j → q ≠ i0 → KMade wr (w.heap.size + 1 + 1) wr.heap.size (w.heap.size + 1 + 1) us css' q) ∧
  Box wr w.heap.size 23 (cfgA n s y b) ∧ Box wr (w.heap.size + 1) 49 #[.int .i64 (i0 : Int), .int .i64 dk, .int .i64 da, .int .u64 dv] ∧ Below w.heap.size w wr) (fun a _ => css.length - (intOf a).toNat)
 case atStart => exact ⟨0, Nat.zero_le _, rfl, Lib.hid ⟨_, by simp, ab, fun q hq => absurd hq (by omega)⟩, cb, db, low⟩
 case round =>
  clear ab cb db low
  obtain ⟨j, hj, rfl, hus, cb, db, low⟩ := hrel
  simp only [cfgA] at cb
  obtain ⟨us, ulen, ab, hkm⟩ := hus.out
  have HKM := Lib.hid hkm
  have HUL := Lib.hid ulen
  clear hus hkm ulen
  by_cases hlt : j < css.length
  ·obtain ⟨bb, o, rfl, hb, hc⟩ := H3.out (by omega)
   have hx : css[j]? = some css[j] := List.getElem?_eq_getElem _
   have hxd : css.getD j [] = css[j] := by simp [List.getD, hx]
   generalize css[j] = ss at hx hxd
   obtain ⟨A', c', ce, cs⟩ := hc j ss hx
   replace ce := (low.cell (p := ⟨bb, o + j, none⟩) hb).trans ce
   replace cs := cs.call low
   have CS := Lib.hid cs
   have HXD := Lib.hid hxd
   clear hx hc hxd cs
   have k0 : (0 : Int) ≤ j := by omega
   have k1 : (j : Int) < css.length := by omega
   have db_0 := db.at_ 0 rfl
   have db_1 := db.at_ 1 rfl
   by_cases hji : j = i0
   ·have e0 : ((j : Int) == (i0 : Int)) = true := by simp [hji]
    have HJ := Lib.hid hji
    clear hji
    go_wp2_with fail
    go_roundw
    case rel => exact ⟨j + 1, by omega, by go_num, Lib.hid ⟨us, HUL.out, ab, fun q hq hne => HKM.out q (by have := HJ.out; omega) hne⟩, cb, db, low⟩
    case measure => simp [intOf]; omega
   ·have e0 : ((j : Int) == (i0 : Int)) = false := by simp; omega
    have CW := Lib.hid (fun v w hw => HC.out j hlt hji v w hw)
    rw [HXD.out] at CW
    have HJ := Lib.hid hji
    have hs' : css'[j]? = some (css'.getD j []) := by have := HLE.out; simp [List.getD, show j < css'.length by omega]
    generalize css'.getD j [] = sa at CW hs'
    have HS := Lib.hid hs'
    clear hji hs'
    have uj : us.toArray[j]? = some (us[j]'(by have := HUL.out; omega)) := by rw [List.getElem?_toArray]; exact List.getElem?_eq_getElem _
    generalize us[j]'(by have := HUL.out; omega) = u at uj
    have za := ab.lt
    have cb_0 := cb.at_ 0 rfl
    have cb_1 := cb.at_ 1 rfl
    have cb_2 := cb.at_ 2 rfl
    have cb_3 := cb.at_ 3 rfl
    go_wp2_with fail
    (with_reducible refine (CW.out _ _ CS.out).mono ?_); rintro e w3 ⟨⟨A3, c3, rfl, cf⟩, hb3⟩
    clear db_0 db_1 cb_0 cb_1 cb_2 cb_3
    have hl3 : sa.length = ss.length := by obtain ⟨A4, c4, e4⟩ := cf.shape; simp only [Value.slice.injEq] at e4; exact e4.2.1.symm
    have CF := Lib.hid cf
    have HL3 := Lib.hid hl3
    replace ab := ab.call hb3
    replace cb := cb.call hb3
    replace db := db.call hb3
    replace low := gCall low hb3
    have HK3 := Lib.hid (fun q (hq : q < j) (hne : q ≠ i0) => ((HKM.out q hq hne).call hb3).more (Nat.le_refl _) hb3.size)
    clear hb3 HKM cf ce CS hl3
    have ac := ab.at_ j uj
    have af := ab.frozen j
    go_wp2_with fail
    have st : Stored w3 (w.heap.size + 1 + 1) (w3.setCell ⟨w.heap.size + 1 + 1, j, none⟩ (.slice A3 ss.length c3)) := Stored.cell1 w3 ⟨w.heap.size + 1 + 1, j, none⟩ _
    have ab4 := ab.set j (.slice A3 ss.length c3)
    rw [List.setIfInBounds_toArray] at ab4
    have cb4 := st.box cb (by omega)
    have db4 := st.box db (by omega)
    have low4 := st.low low (by omega)
    have HK4 := Lib.hid (show ∀ q, q < j + 1 → q ≠ i0 → KMade (w3.setCell ⟨w.heap.size + 1 + 1, j, none⟩ (.slice A3 ss.length c3)) (w.heap.size + 1 + 1) (w3.setCell ⟨w.heap.size + 1 + 1, j, none⟩ (.slice A3 ss.length c3)).heap.size (w.heap.size + 1 + 1) (us.set j (.slice A3 ss.length c3)) css' q from fun q hq hne => by
     rw [st.size]
     by_cases e : q = j
     ·subst e
      have hcf := CF.out
      have e5 := HL3.out
      rw [← e5] at hcf st ⊢
      exact KMade.set st (by have := HUL.out; omega) HS.out (by omega) (Nat.le_refl _) (.inr (by omega)) hcf
     ·exact (HK3.out q (by omega) hne).past st (fun h => e h.symm) _)
    go_roundw
    case rel => exact ⟨j + 1, by omega, by go_num, Lib.hid ⟨_, by rw [List.length_set]; exact HUL.out, ab4, HK4.out⟩, cb4, db4, low4⟩
    case measure => simp [intOf]; omega
  ·obtain rfl : j = css.length := by omega
   go_wp2_with fail
   go_ret2
   exact ⟨⟨us, HUL.out, rfl, ab, fun q hne => by
    by_cases hq : q < css.length
    ·exact HKM.out q hq hne
    ·intro sa hs
     have := (List.getElem?_eq_some_iff.1 hs).1
     have := HLE.out
     omega⟩, low⟩
end Go.Proofs.YtcegjehoejgofaaGreat
namespace Go.Proofs.YtcegjehoejgofaaGreat
open Go.ChangeShapes Go.WideShapes Go.ChangeAt Go.RowKit Go.Joins
theorem foldl_set : ∀ (l : List Value) (j off : Nat) (cs : Array Value) (i : Nat), off + j + l.length ≤ cs.size →
  ((l.zipIdx j).foldl (fun (cs : Array Value) (p : Value × Nat) => cs.setIfInBounds (off + p.2) p.1) cs)[i]? = if off + j ≤ i ∧ i < off + j + l.length then l[i - (off + j)]? else cs[i]?
 | [], j, off, cs, i, h => by rw [if_neg (by simp)]; rfl
 | c :: r, j, off, cs, i, h => by
  simp only [List.length_cons] at h ⊢
  rw [List.zipIdx_cons, List.foldl_cons, foldl_set r (j + 1) off _ i (by rw [Array.size_setIfInBounds]; omega)]
  by_cases h1 : off + (j + 1) ≤ i ∧ i < off + (j + 1) + r.length
  ·rw [if_pos h1, if_pos (by omega), show i - (off + j) = (i - (off + (j + 1))) + 1 by omega, List.getElem?_cons_succ]
  ·rw [if_neg h1, Array.getElem?_setIfInBounds]
   by_cases h2 : off + j = i
   ·subst h2
    rw [if_pos rfl, if_pos (by dsimp only; omega), if_pos (by omega)]
    simp
   ·rw [if_neg h2, if_neg (by omega)]
theorem built_world (parts : List (Nat × Value)) : Tryz.prog.built 31 parts = Instr.fill (#[(0, 1), (1, 64)][·]?) (wldA (.slice none 0 0) zeroL) parts := by kernel_rfl
theorem build_any (A : Option Addr) (n c : Nat) (m : List Int) (hm : m.length = 64) (w : World) : (Instr.build 31 #[(0, .slice A n c), (1, memV m)]).run Tryz.prog w = .ok (wldV (.slice A n c) m) w := by
 refine run_build w _ _ _ ?_
 rw [built_world]
 have e1 : (memV m).cells = memA m := rfl
 have e0 : (Value.slice A n c).cells = #[Value.slice A n c] := rfl
 have z1 : (wldA (.slice none 0 0) zeroL).size = 65 := zero_size
 simp only [Instr.fill, e0, e1, memA_size, hm, z1]
 simp only [List.getElem?_toArray, List.getElem?_cons_zero, List.getElem?_cons_succ]
 rw [if_neg (by simp)]
 have e2 : (#[Value.slice A n c].zipIdx.foldl (fun cs x => match x with | (c, j) => cs.setIfInBounds (0 + j) c) (wldA (.slice none 0 0) zeroL)) = wldA (.slice A n c) zeroL := by kernel_rfl
 rw [e2]
 have z2 : (wldA (.slice A n c) zeroL).size = 65 := by rw [wldA_size, zeroL_length]
 rw [if_neg (by rw [z2]; simp)]
 congr 1
 refine Array.ext_getElem? fun i => ?_
 rw [← Array.foldl_toList, Array.toList_zipIdx]
 refine (foldl_set (memA m).toList 0 1 _ i (by rw [Array.length_toList, memA_size, hm, z2]; omega)).trans ?_
 rw [Array.length_toList, memA_size, hm, memA_list]
 unfold wldA
 rw [List.getElem?_toArray, List.getElem?_toArray]
 by_cases h : 1 + 0 ≤ i ∧ i < 1 + 0 + 64
 ·rw [if_pos h]
  obtain ⟨j, rfl⟩ : ∃ j, i = j + 1 := ⟨i - 1, by omega⟩
  rw [List.getElem?_cons_succ]
  rfl
 ·rw [if_neg h]
  cases i with
  | zero => rfl
  | succ j =>
   rw [List.getElem?_cons_succ, List.getElem?_cons_succ, List.getElem?_eq_none (by simp [zeroL]; omega), List.getElem?_eq_none (by simp; omega)]
theorem exec_buildM {ρ : Operand → Value} {dst : Option Tmp} {t : TypeId} {pos : String} {after : Array Edge} {gd : Option (Nat × Bool)} {x y : Operand} {A : Option Addr} {n c : Nat} {m : List Int} (hm : m.length = 64) {w : World} (hx : ρ x = .slice A n c) (hy : ρ y = memV m) :
  (execOp ρ ⟨dst, .build 31 #[(0, x), (1, y)], t, pos, after, gd⟩).run Tryz.prog w = .ok (.value (wldV (.slice A n c) m)) w := by
 unfold execOp
 simp only [List.map_toArray, List.map_cons, List.map_nil, hx, hy, Sem.run_bind, build_any A n c m hm, Result.andThen_ok, Sem.run_pure]
end Go.Proofs.YtcegjehoejgofaaGreat
namespace Go.Proofs.YtcegjehoejgofaaGreat
open Go.ChangeShapes Go.WideShapes Go.ChangeAt Go.RowKit Go.Joins
theorem results_two {fn : Func} {T T' : TypeId} {z z' : Array Value} (ty : Ty T z) (ty' : Ty T' z') {tmps : Array Value} {i j k g g' : Nat} {cs cs' : Array Value} {u : Value} {w : World} (hr : fn.results = #[.cell i T, .cell j T', .tmp k]) (hi : tmps.getD i undef = .pointer (some ⟨g, 0, none⟩)) (hj : tmps.getD j undef = .pointer (some ⟨g', 0, none⟩)) (hk : tmps.getD k undef = u) (hb : Box w g T cs) (hs : cs.size = z.size) (hb' : Box w g' T' cs') (hs' : cs'.size = z'.size) :
  (results fn tmps).run Tryz.prog w = .ok (.tuple #[.agg cs, .agg cs', u]) w := by
 rw [Array.getD_eq_getD_getElem?] at hi hj hk
 simp [results, hr, hi, hj, hk, asAddr, load_whole ty hb.range hs, load_whole ty' hb'.range hs']
theorem nilW_one : nilW.all (·.oneCell') = true := wldA_one _
theorem nilW_size : nilW.size = (wldA (.slice none 0 0) zeroL).size := rfl
abbrev done0 : Array Value := doneA 0 false 0 0 false
theorem done0_size : done0.size = (doneA 0 false 0 0 false).size := rfl
theorem done0_one : done0.all (·.oneCell') = true := done_one _ _ _ _ _
set_option maxRecDepth 10000 in
set_option maxHeartbeats 2000000 in
theorem hit_is (n s y b : Int) (v : Value) (m : List Int) (css : List (List St)) (d : Dd) (w : World) (h : Ks w v css) (hm : m.length = 64) (k st : Int) (al : Bool) (o E : Int) (hk : E = 0 → 1 ≤ d.kd ∧ d.kd ≤ 4)
  (F : Hid (∀ w, Ks w v css → Calls Tryz.prog 106 #[cfg n s y b, wldV v m, d.val] w fun e w' => e = .returned (.tuple #[plcV k st al o, .int .i64 E]) ∧ Below w.heap.size w w')) :
  Calls Tryz.prog 88 #[cfg n s y b, wldV v m, d.val] w fun e w' => e = .returned (.tuple #[.bool (if E = 0 then locB st d.kd else false), .int .i64 E]) ∧ Below w.heap.size w w' := by
 obtain ⟨dn, dk, da, dv⟩ := d
 simp only at hk ⊢
 generalize hq : (if E = 0 then locB st dk else false) = q
 have low := Below.refl w.heap.size w
 have cb := boxNext low 23 (cfgA n s y b)
 replace low := gAlloc low (.cells (cfgA n s y b) 23)
 replace h := h.alloc (.cells (cfgA n s y b) 23)
 try simp only [World.size_alloc] at cb
 have wb := boxNext low 31 (wldA v m)
 replace low := gAlloc low (.cells (wldA v m) 31)
 replace cb := cb.alloc (.cells (wldA v m) 31)
 replace h := h.alloc (.cells (wldA v m) 31)
 try simp only [World.size_alloc] at wb
 have db := boxNext low 49 #[.int .i64 dn, .int .i64 dk, .int .i64 da, .int .u64 dv]
 replace low := gAlloc low (.cells #[.int .i64 dn, .int .i64 dk, .int .i64 da, .int .u64 dv] 49)
 replace cb := cb.alloc (.cells #[.int .i64 dn, .int .i64 dk, .int .i64 da, .int .u64 dv] 49)
 replace wb := wb.alloc (.cells #[.int .i64 dn, .int .i64 dk, .int .i64 da, .int .u64 dv] 49)
 replace h := h.alloc (.cells #[.int .i64 dn, .int .i64 dk, .int .i64 da, .int .u64 dv] 49)
 try simp only [World.size_alloc] at db
 have wr := wb.range
 by_cases he : E = 0
 ·subst he
  obtain ⟨k1, k2⟩ := hk rfl
  rw [if_pos rfl] at hq
  have LC := Lib.hid fun w => isLocal_any st dk w k1 k2
  rw [hq] at LC
  clear hk hq k1 k2
  go_enter Tryz.func88, Tryz.ntmps88
  have db_0 := db.at_ 0 rfl
  have db_1 := db.at_ 1 rfl
  have db_2 := db.at_ 2 rfl
  have db_3 := db.at_ 3 rfl
  go_wp2_with (first | ((with_reducible refine wp_loadW (tyWorld) (wr) (wld_size hm) ?_ ?_ ?_); rfl; rfl))
  (with_reducible refine (F.out _ h).mono ?_); rintro e w1 ⟨rfl, hb⟩
  clear db_0 db_1 db_2 db_3
  replace db := db.call hb
  replace low := gCall low hb
  clear hb wr F
  have pb := boxNext low 202 (plcA k st al o)
  replace low := gAlloc low (.cells (plcA k st al o) 202)
  replace db := db.alloc (.cells (plcA k st al o) 202)
  try simp only [World.size_alloc] at pb
  have db_1 := db.at_ 1 rfl
  have pb_1 := pb.at_ 1 rfl
  go_wp2_with (first | (with_reducible refine wp_newW (tyPlace) ?_))
  (with_reducible refine (LC.out _).mono ?_); rintro e w' ⟨rfl, rfl⟩
  go_wp2_with fail
  go_ret2
  exact ⟨rfl, low⟩
 ·rw [if_neg he] at hq
  subst hq
  have e1 : (E != 0) = true := by simpa using he
  clear hk he
  go_enter Tryz.func88, Tryz.ntmps88
  have db_0 := db.at_ 0 rfl
  have db_1 := db.at_ 1 rfl
  have db_2 := db.at_ 2 rfl
  have db_3 := db.at_ 3 rfl
  go_wp2_with (first | ((with_reducible refine wp_loadW (tyWorld) (wr) (wld_size hm) ?_ ?_ ?_); rfl; rfl))
  (with_reducible refine (F.out _ h).mono ?_); rintro e w1 ⟨rfl, hb⟩
  clear db_0 db_1 db_2 db_3
  replace low := gCall low hb
  clear hb wr F
  replace low := gAlloc low (.cells (plcA k st al o) 202)
  go_wp2_with (first | (with_reducible refine wp_newW (tyPlace) ?_))
  go_ret2
  exact ⟨rfl, low⟩
end Go.Proofs.YtcegjehoejgofaaGreat
namespace Go.Proofs.YtcegjehoejgofaaGreat
open Go.ChangeShapes Go.WideShapes Go.ChangeAt Go.RowKit Go.Joins
set_option maxRecDepth 10000 in
set_option maxHeartbeats 4000000 in
theorem do_none (n s y b : Int) (m : List Int) (css : List (List St)) (i0 L : Nat) (dk da dv st : Int) (al : Bool) (own qa qq qc qd u : Int) (ss : List St) (w : World) (bb o cp c' : Nat) (A' : Option Addr)
  (h : Ks w (.slice (some ⟨bb, o, none⟩) css.length cp) css) (hm : m.length = 64) (hi0 : i0 < css.length) (hbb : bb < w.heap.size) (_k1 : css.length ≤ cp) (_k2 : cp ≤ maxLen) (CE : Hid (w.cell? ⟨bb, o + i0, none⟩ = some (.slice A' ss.length c'))) (CS : Hid (Cs w (.slice A' ss.length c') ss))
  (F : Hid (∀ w, Ks w (.slice (some ⟨bb, o, none⟩) css.length cp) css → Calls Tryz.prog 106 #[cfg n s y b, wldV (.slice (some ⟨bb, o, none⟩) css.length cp) m, (⟨i0, dk, da, dv⟩ : Dd).val] w fun e w' => e = .returned (.tuple #[plcV L st al own, .int .i64 0]) ∧ Below w.heap.size w w'))
  (P : Hid (∀ w, Ks w (.slice (some ⟨bb, o, none⟩) css.length cp) css → Calls Tryz.prog 107 #[cfg n s y b, wldV (.slice (some ⟨bb, o, none⟩) css.length cp) m, (⟨i0, dk, da, dv⟩ : Dd).val, .int .i64 L] w fun e w' => e = .returned (.tuple #[line qa qq qc qd, .int .u64 u, .int .i64 0]) ∧ Below w.heap.size w w'))
  (O : Hid (∀ v w, Cs w v ss → Calls Tryz.prog 108 #[cfg n s y b, v, .int .i64 dk, plcV L st al own, line qa qq qc qd] w fun e w' => e = .returned (.tuple #[.slice none 0 0, zeroV, .int .i64 5]) ∧ Below w.heap.size w w')) :
  Calls Tryz.prog 85 #[cfg n s y b, wldV (.slice (some ⟨bb, o, none⟩) css.length cp) m, (⟨i0, dk, da, dv⟩ : Dd).val] w fun e w' => e = .returned (.tuple #[.agg nilW, .agg done0, .int .i64 5]) ∧ Below w.heap.size w w' := by
 have i1 : (i0 : Int) < css.length := by omega
 have i2 : (0 : Int) ≤ i0 := by omega
 have low := Below.refl w.heap.size w
 have cb := boxNext low 23 (cfgA n s y b)
 replace low := gAlloc low (.cells (cfgA n s y b) 23)
 replace h := h.alloc (.cells (cfgA n s y b) 23)
 try simp only [World.size_alloc] at cb
 have wb := boxNext low 31 (wldA (.slice (some ⟨bb, o, none⟩) css.length cp) m)
 replace low := gAlloc low (.cells (wldA (.slice (some ⟨bb, o, none⟩) css.length cp) m) 31)
 replace cb := cb.alloc (.cells (wldA (.slice (some ⟨bb, o, none⟩) css.length cp) m) 31)
 replace h := h.alloc (.cells (wldA (.slice (some ⟨bb, o, none⟩) css.length cp) m) 31)
 try simp only [World.size_alloc] at wb
 have db := boxNext low 49 #[.int .i64 i0, .int .i64 dk, .int .i64 da, .int .u64 dv]
 replace low := gAlloc low (.cells #[.int .i64 i0, .int .i64 dk, .int .i64 da, .int .u64 dv] 49)
 replace cb := cb.alloc (.cells #[.int .i64 i0, .int .i64 dk, .int .i64 da, .int .u64 dv] 49)
 replace wb := wb.alloc (.cells #[.int .i64 i0, .int .i64 dk, .int .i64 da, .int .u64 dv] 49)
 replace h := h.alloc (.cells #[.int .i64 i0, .int .i64 dk, .int .i64 da, .int .u64 dv] 49)
 try simp only [World.size_alloc] at db
 have ob := boxNext low 31 nilW
 replace low := gAlloc low (.cells nilW 31)
 replace cb := cb.alloc (.cells nilW 31)
 replace wb := wb.alloc (.cells nilW 31)
 replace db := db.alloc (.cells nilW 31)
 replace h := h.alloc (.cells nilW 31)
 try simp only [World.size_alloc] at ob
 have eb := boxNext low 180 done0
 replace low := gAlloc low (.cells done0 180)
 replace cb := cb.alloc (.cells done0 180)
 replace wb := wb.alloc (.cells done0 180)
 replace db := db.alloc (.cells done0 180)
 replace ob := ob.alloc (.cells done0 180)
 replace h := h.alloc (.cells done0 180)
 try simp only [World.size_alloc] at eb
 have wr := wb.range
 go_enter Tryz.func85, Tryz.ntmps85
 have db_0 := db.at_ 0 rfl
 have db_1 := db.at_ 1 rfl
 have db_2 := db.at_ 2 rfl
 have db_3 := db.at_ 3 rfl
 go_wp2_with (first | (with_reducible refine wp_newW (tyWorld) ?_) | (with_reducible refine wp_newW (tyDone) ?_) | ((with_reducible refine wp_loadW (tyWorld) (wr) (wld_size hm) ?_ ?_ ?_); rfl; rfl))
 (with_reducible refine (F.out _ h).mono ?_); rintro e w1 ⟨rfl, hb⟩
 clear db_0 db_1 db_2 db_3
 replace ob := ob.call hb
 replace eb := eb.call hb
 replace db := db.call hb
 replace cb := cb.call hb
 replace wb := wb.call hb
 replace h := h.call hb
 replace low := gCall low hb
 clear hb wr F
 have z1 := eb.lt
 have pb := boxNext low 202 (plcA L st al own)
 replace low := gAlloc low (.cells (plcA L st al own) 202)
 replace cb := cb.alloc (.cells (plcA L st al own) 202)
 replace wb := wb.alloc (.cells (plcA L st al own) 202)
 replace db := db.alloc (.cells (plcA L st al own) 202)
 replace ob := ob.alloc (.cells (plcA L st al own) 202)
 replace eb := eb.alloc (.cells (plcA L st al own) 202)
 replace h := h.alloc (.cells (plcA L st al own) 202)
 try simp only [World.size_alloc] at pb
 have wr := wb.range
 have db_0 := db.at_ 0 rfl
 have db_1 := db.at_ 1 rfl
 have db_2 := db.at_ 2 rfl
 have db_3 := db.at_ 3 rfl
 have cb_0 := cb.at_ 0 rfl
 have cb_1 := cb.at_ 1 rfl
 have cb_2 := cb.at_ 2 rfl
 have cb_3 := cb.at_ 3 rfl
 have pb_0 := pb.at_ 0 rfl
 go_wp2_with (first | (with_reducible refine wp_newW (tyPlace) ?_) | ((with_reducible refine wp_loadW (tyWorld) (wr) (wld_size hm) ?_ ?_ ?_); rfl; rfl))
 (with_reducible refine (P.out _ h).mono ?_); rintro e w2 ⟨rfl, hb⟩
 clear db_0 db_1 db_2 db_3 cb_0 cb_1 cb_2 cb_3 pb_0
 replace ob := ob.call hb
 replace eb := eb.call hb
 replace db := db.call hb
 replace cb := cb.call hb
 replace wb := wb.call hb
 replace pb := pb.call hb
 replace h := h.call hb
 replace low := gCall low hb
 clear hb wr P
 have z2 := pb.lt
 have qb := boxNext low 27 (lnA ⟨qa, qq, qc, qd⟩)
 replace low := gAlloc low (.cells (lnA ⟨qa, qq, qc, qd⟩) 27)
 replace cb := cb.alloc (.cells (lnA ⟨qa, qq, qc, qd⟩) 27)
 replace wb := wb.alloc (.cells (lnA ⟨qa, qq, qc, qd⟩) 27)
 replace db := db.alloc (.cells (lnA ⟨qa, qq, qc, qd⟩) 27)
 replace ob := ob.alloc (.cells (lnA ⟨qa, qq, qc, qd⟩) 27)
 replace eb := eb.alloc (.cells (lnA ⟨qa, qq, qc, qd⟩) 27)
 replace pb := pb.alloc (.cells (lnA ⟨qa, qq, qc, qd⟩) 27)
 replace h := h.alloc (.cells (lnA ⟨qa, qq, qc, qd⟩) 27)
 try simp only [World.size_alloc] at qb
 have z3 := qb.lt
 have c0 := cb.at_ 0 rfl
 have c1 := cb.at_ 1 rfl
 have c2 := cb.at_ 2 rfl
 have c3 := cb.at_ 3 rfl
 have b0 := wb.at_ 0 (wldA_zero _ _)
 have e0 := db.at_ 0 rfl
 have e1 := db.at_ 1 rfl
 have p0 := pb.at_ 0 rfl
 have p1 := pb.at_ 1 rfl
 have p2 := pb.at_ 2 rfl
 have p3 := pb.at_ 3 rfl
 have q0 := qb.at_ 0 rfl
 have q1 := qb.at_ 1 rfl
 have q2 := qb.at_ 2 rfl
 have q3 := qb.at_ 3 rfl
 have ce := (low.cell (p := ⟨bb, o + i0, none⟩) hbb).trans CE.out
 go_wp2_with (first | (with_reducible refine wp_newW (tyLine) ?_))
 refine wp_region_noPanic ?_
 refine wp_region_held_drew (S := fun w' => w'.cell? ⟨w.heap.size, 0, none⟩ = some (.int .i64 n) ∧ w'.cell? ⟨w.heap.size, 1, none⟩ = some (.int .i64 s) ∧ w'.cell? ⟨w.heap.size, 2, none⟩ = some (.int .i64 y) ∧ w'.cell? ⟨w.heap.size, 3, none⟩ = some (.int .i64 b) ∧ w'.cell? ⟨w.heap.size + 1, 0, none⟩ = some (.slice (some ⟨bb, o, none⟩) css.length cp) ∧ w'.cell? ⟨w.heap.size + 1 + 1, 0, none⟩ = some (.int .i64 i0) ∧ w'.cell? ⟨w.heap.size + 1 + 1, 1, none⟩ = some (.int .i64 dk) ∧
  w'.cell? ⟨w1.heap.size, 0, none⟩ = some (.int .i64 L) ∧ w'.cell? ⟨w1.heap.size, 1, none⟩ = some (.int .i64 st) ∧ w'.cell? ⟨w1.heap.size, 2, none⟩ = some (.bool al) ∧ w'.cell? ⟨w1.heap.size, 3, none⟩ = some (.int .i64 own) ∧
  w'.cell? ⟨w2.heap.size, 0, none⟩ = some (.int .u64 qa) ∧ w'.cell? ⟨w2.heap.size, 1, none⟩ = some (.int .u64 qq) ∧ w'.cell? ⟨w2.heap.size, 2, none⟩ = some (.int .u64 qc) ∧ w'.cell? ⟨w2.heap.size, 3, none⟩ = some (.int .u64 qd) ∧
  w'.cell? ⟨bb, o + i0, none⟩ = some (.slice A' ss.length c')) (by kernel_rfl) ⟨drewC c0, drewC c1, drewC c2, drewC c3, drewC b0, drewC e0, drewC e1, drewC p0, drewC p1, drewC p2, drewC p3, drewC q0, drewC q1, drewC q2, drewC q3, drewC ce⟩ (fun hHeld => ?_)
 clear c0 c1 c2 c3 b0 e0 e1 p0 p1 p2 p3 q0 q1 q2 q3 ce
 replace ob := ob.drew
 replace eb := eb.drew
 replace db := db.drew
 replace cb := cb.drew
 replace wb := wb.drew
 replace pb := pb.drew
 replace qb := qb.drew
 replace h := h.drew
 replace low := low.drew
 refine takeA 0 ?_ rfl ?_ ?_; rotate_left
 ·(intro w hSw; go_simp; try (with_reducible rfl))
 try simp only [Act.put, List.setIfInBounds_toArray, List.set_cons_zero, List.set_cons_succ]
 refine takeA 1 ?_ rfl ?_ ?_; rotate_left
 ·(intro w hSw; go_simp; try (with_reducible rfl))
 try simp only [Act.put, List.setIfInBounds_toArray, List.set_cons_zero, List.set_cons_succ]
 refine takeA 2 ?_ rfl ?_ ?_; rotate_left
 ·(intro w hSw; go_simp; try (with_reducible rfl))
 try simp only [Act.put, List.setIfInBounds_toArray, List.set_cons_zero, List.set_cons_succ]
 refine takeA 3 ?_ rfl ?_ ?_; rotate_left
 ·(intro w hSw; go_simp; try (with_reducible rfl))
 try simp only [Act.put, List.setIfInBounds_toArray, List.set_cons_zero, List.set_cons_succ]
 refine takeA 4 ?_ rfl ?_ ?_; rotate_left
 ·(intro w hSw; go_simp; try (with_reducible rfl))
 try simp only [Act.put, List.setIfInBounds_toArray, List.set_cons_zero, List.set_cons_succ]
 refine takeA 5 ?_ rfl ?_ ?_; rotate_left
 ·(intro w hSw; go_simp; try (with_reducible rfl))
 try simp only [Act.put, List.setIfInBounds_toArray, List.set_cons_zero, List.set_cons_succ]
 refine takeA 6 ?_ rfl ?_ ?_; rotate_left
 ·(intro w hSw; go_simp; try (with_reducible rfl))
 try simp only [Act.put, List.setIfInBounds_toArray, List.set_cons_zero, List.set_cons_succ]
 refine takeA 7 ?_ rfl ?_ ?_; rotate_left
 ·(intro w hSw; go_simp; try (with_reducible rfl))
 try simp only [Act.put, List.setIfInBounds_toArray, List.set_cons_zero, List.set_cons_succ]
 refine takeA 8 ?_ rfl ?_ ?_; rotate_left
 ·(intro w hSw; go_simp; try (with_reducible rfl))
 try simp only [Act.put, List.setIfInBounds_toArray, List.set_cons_zero, List.set_cons_succ]
 refine takeA 9 ?_ rfl ?_ ?_; rotate_left
 ·(intro w hSw; go_simp; try (with_reducible rfl))
 try simp only [Act.put, List.setIfInBounds_toArray, List.set_cons_zero, List.set_cons_succ]
 refine takeA 10 ?_ rfl ?_ ?_; rotate_left
 ·(intro w hSw; go_simp; try (with_reducible rfl))
 try simp only [Act.put, List.setIfInBounds_toArray, List.set_cons_zero, List.set_cons_succ]
 generalize hW : World.drew _ = wN at *
 clear hW
 have cs := CS.out.call low
 have near := Below.refl wN.heap.size wN
 apply shareV (M := fun g wz => NewV wN g wz 114 zeroA)
 ·intro hE
  refine stepTwo (i1 := 11) (i2 := 16) (by kernel_rfl) rfl rfl (by rfl) (by rfl) (fun K hK => ?_) (fun K hK => ?_)
  ·go_simp
   (with_reducible refine (O.out _ _ cs).mono ?_); rintro e wy ⟨rfl, hb⟩
   replace near := gCall near hb
   try clear hNow
   have hNow := (And.intro (callC near hHeld.1) (And.intro (callC near hHeld.2.1) (And.intro (callC near hHeld.2.2.1) (And.intro (callC near hHeld.2.2.2.1) (And.intro (callC near hHeld.2.2.2.2.1) (And.intro (callC near hHeld.2.2.2.2.2.1) (And.intro (callC near hHeld.2.2.2.2.2.2.1) (And.intro (callC near hHeld.2.2.2.2.2.2.2.1) (And.intro (callC near hHeld.2.2.2.2.2.2.2.2.1) (And.intro (callC near hHeld.2.2.2.2.2.2.2.2.2.1) (And.intro (callC near hHeld.2.2.2.2.2.2.2.2.2.2.1) (And.intro (callC near hHeld.2.2.2.2.2.2.2.2.2.2.2.1) (And.intro (callC near hHeld.2.2.2.2.2.2.2.2.2.2.2.2.1) (And.intro (callC near hHeld.2.2.2.2.2.2.2.2.2.2.2.2.2.1) (And.intro (callC near hHeld.2.2.2.2.2.2.2.2.2.2.2.2.2.2.1) (callC near hHeld.2.2.2.2.2.2.2.2.2.2.2.2.2.2.2))))))))))))))))
   refine hK.out _ _ hNow ?_
   clear hK K
   try simp only [Act.put]
   try simp only [List.setIfInBounds_toArray, List.set_cons_zero, List.set_cons_succ]
   refine takeA 12 ?_ rfl ?_ ?_; rotate_left
   ·(intro w hSw; go_simp; try (with_reducible rfl))
   try simp only [Act.put, List.setIfInBounds_toArray, List.set_cons_zero, List.set_cons_succ]
   refine takeA 13 ?_ rfl ?_ ?_; rotate_left
   ·(intro w hSw; go_simp; try (with_reducible rfl))
   try simp only [Act.put, List.setIfInBounds_toArray, List.set_cons_zero, List.set_cons_succ]
   refine takeA 14 ?_ rfl ?_ ?_; rotate_left
   ·(intro w hSw; go_simp; try (with_reducible rfl))
   try simp only [Act.put, List.setIfInBounds_toArray, List.set_cons_zero, List.set_cons_succ]
   refine takeA 15 ?_ rfl ?_ ?_; rotate_left
   ·(intro w hSw; go_simp; try (with_reducible rfl))
   try simp only [Act.put, List.setIfInBounds_toArray, List.set_cons_zero, List.set_cons_succ]
   refine stepNext (i := 16) (by kernel_rfl) rfl (by rfl) (fun K hK => ?_)
   refine op_newW tyWay ?_
   have sz := near.size
   have box := Box.new wy 114 zeroA
   replace near := gAlloc near (.cells zeroA 114)
   try clear hNow
   have hNow := (And.intro (callC near hHeld.1) (And.intro (callC near hHeld.2.1) (And.intro (callC near hHeld.2.2.1) (And.intro (callC near hHeld.2.2.2.1) (And.intro (callC near hHeld.2.2.2.2.1) (And.intro (callC near hHeld.2.2.2.2.2.1) (And.intro (callC near hHeld.2.2.2.2.2.2.1) (And.intro (callC near hHeld.2.2.2.2.2.2.2.1) (And.intro (callC near hHeld.2.2.2.2.2.2.2.2.1) (And.intro (callC near hHeld.2.2.2.2.2.2.2.2.2.1) (And.intro (callC near hHeld.2.2.2.2.2.2.2.2.2.2.1) (And.intro (callC near hHeld.2.2.2.2.2.2.2.2.2.2.2.1) (And.intro (callC near hHeld.2.2.2.2.2.2.2.2.2.2.2.2.1) (And.intro (callC near hHeld.2.2.2.2.2.2.2.2.2.2.2.2.2.1) (And.intro (callC near hHeld.2.2.2.2.2.2.2.2.2.2.2.2.2.2.1) (callC near hHeld.2.2.2.2.2.2.2.2.2.2.2.2.2.2.2))))))))))))))))
   refine hK.out _ _ hNow ?_
   clear hK K
   try simp only [Act.put]
   try simp only [List.setIfInBounds_toArray, List.set_cons_zero, List.set_cons_succ]
   generalize wy.alloc (.cells zeroA 114) = wz at *
   generalize wy.heap.size = ga at *
   refine relist (l2 := #[true, true, true, true, true, true, true, true, true, true, true, true, true, true, true, true, true, false, false, false]) (by kernel_rfl) ?_
   exact hE _ _ ⟨near, sz, box⟩
  ·refine op_newW tyWay ?_
   have box := Box.new wN 114 zeroA
   replace near := gAlloc near (.cells zeroA 114)
   try clear hNow
   have hNow := (And.intro (callC near hHeld.1) (And.intro (callC near hHeld.2.1) (And.intro (callC near hHeld.2.2.1) (And.intro (callC near hHeld.2.2.2.1) (And.intro (callC near hHeld.2.2.2.2.1) (And.intro (callC near hHeld.2.2.2.2.2.1) (And.intro (callC near hHeld.2.2.2.2.2.2.1) (And.intro (callC near hHeld.2.2.2.2.2.2.2.1) (And.intro (callC near hHeld.2.2.2.2.2.2.2.2.1) (And.intro (callC near hHeld.2.2.2.2.2.2.2.2.2.1) (And.intro (callC near hHeld.2.2.2.2.2.2.2.2.2.2.1) (And.intro (callC near hHeld.2.2.2.2.2.2.2.2.2.2.2.1) (And.intro (callC near hHeld.2.2.2.2.2.2.2.2.2.2.2.2.1) (And.intro (callC near hHeld.2.2.2.2.2.2.2.2.2.2.2.2.2.1) (And.intro (callC near hHeld.2.2.2.2.2.2.2.2.2.2.2.2.2.2.1) (callC near hHeld.2.2.2.2.2.2.2.2.2.2.2.2.2.2.2))))))))))))))))
   refine hK.out _ _ hNow ?_
   clear hK K
   try simp only [Act.put]
   try simp only [List.setIfInBounds_toArray, List.set_cons_zero, List.set_cons_succ]
   clear hNow
   have cs2 := cs.call near
   generalize wN.alloc (.cells zeroA 114) = wx at *
   generalize hga : wN.heap.size = ga at box ⊢
   have HGA := Lib.hid hga
   clear hga
   refine stepNext (i := 11) (by kernel_rfl) rfl (by rfl) (fun K hK => ?_)
   go_simp
   (with_reducible refine (O.out _ _ cs2).mono ?_); rintro e wy ⟨rfl, hb⟩
   replace near := gCall near hb
   replace box := box.call hb
   try clear hNow
   have hNow := (And.intro (callC near hHeld.1) (And.intro (callC near hHeld.2.1) (And.intro (callC near hHeld.2.2.1) (And.intro (callC near hHeld.2.2.2.1) (And.intro (callC near hHeld.2.2.2.2.1) (And.intro (callC near hHeld.2.2.2.2.2.1) (And.intro (callC near hHeld.2.2.2.2.2.2.1) (And.intro (callC near hHeld.2.2.2.2.2.2.2.1) (And.intro (callC near hHeld.2.2.2.2.2.2.2.2.1) (And.intro (callC near hHeld.2.2.2.2.2.2.2.2.2.1) (And.intro (callC near hHeld.2.2.2.2.2.2.2.2.2.2.1) (And.intro (callC near hHeld.2.2.2.2.2.2.2.2.2.2.2.1) (And.intro (callC near hHeld.2.2.2.2.2.2.2.2.2.2.2.2.1) (And.intro (callC near hHeld.2.2.2.2.2.2.2.2.2.2.2.2.2.1) (And.intro (callC near hHeld.2.2.2.2.2.2.2.2.2.2.2.2.2.2.1) (callC near hHeld.2.2.2.2.2.2.2.2.2.2.2.2.2.2.2))))))))))))))))
   refine hK.out _ _ hNow ?_
   clear hK K
   try simp only [Act.put]
   try simp only [List.setIfInBounds_toArray, List.set_cons_zero, List.set_cons_succ]
   refine takeA 12 ?_ rfl ?_ ?_; rotate_left
   ·(intro w hSw; go_simp; try (with_reducible rfl))
   try simp only [Act.put, List.setIfInBounds_toArray, List.set_cons_zero, List.set_cons_succ]
   refine takeA 13 ?_ rfl ?_ ?_; rotate_left
   ·(intro w hSw; go_simp; try (with_reducible rfl))
   try simp only [Act.put, List.setIfInBounds_toArray, List.set_cons_zero, List.set_cons_succ]
   refine takeA 14 ?_ rfl ?_ ?_; rotate_left
   ·(intro w hSw; go_simp; try (with_reducible rfl))
   try simp only [Act.put, List.setIfInBounds_toArray, List.set_cons_zero, List.set_cons_succ]
   refine takeA 15 ?_ rfl ?_ ?_; rotate_left
   ·(intro w hSw; go_simp; try (with_reducible rfl))
   try simp only [Act.put, List.setIfInBounds_toArray, List.set_cons_zero, List.set_cons_succ]
   refine relist (l2 := #[true, true, true, true, true, true, true, true, true, true, true, true, true, true, true, true, true, false, false, false]) (by kernel_rfl) ?_
   exact hE _ _ ⟨near, Nat.le_of_eq HGA.out, box⟩
 intro gx wz mid
 have zq := qb.lt
 have zl := low.size
 obtain ⟨near2, gnew, xb⟩ := mid
 replace ob := ob.call near2
 replace eb := eb.call near2
 replace db := db.call near2
 replace cb := cb.call near2
 replace wb := wb.call near2
 replace pb := pb.call near2
 replace h := h.call near2
 replace low := gCall low near2
 obtain ⟨hh0, hh1, hh2, hh3, hh4, hh5, hh6, hh7, hh8, hh9, hh10, hh11, hh12, hh13, hh14, hh15⟩ := hHeld
 have hHeld := (And.intro (callC near2 hh0) (And.intro (callC near2 hh1) (And.intro (callC near2 hh2) (And.intro (callC near2 hh3) (And.intro (callC near2 hh4) (And.intro (callC near2 hh5) (And.intro (callC near2 hh6) (And.intro (callC near2 hh7) (And.intro (callC near2 hh8) (And.intro (callC near2 hh9) (And.intro (callC near2 hh10) (And.intro (callC near2 hh11) (And.intro (callC near2 hh12) (And.intro (callC near2 hh13) (And.intro (callC near2 hh14) (callC near2 hh15))))))))))))))))
 clear hh0 hh1 hh2 hh3 hh4 hh5 hh6 hh7 hh8 hh9 hh10 hh11 hh12 hh13 hh14 hh15
 clear near cs
 refine takeA 17 ?_ rfl ?_ ?_; rotate_left
 ·(intro w hSw; go_simp; try (with_reducible rfl))
 try simp only [Act.put, List.setIfInBounds_toArray, List.set_cons_zero, List.set_cons_succ]
 refine stepNext (i := 18) (by kernel_rfl) rfl (by rfl) (fun K hK => ?_)
 refine wp_store_box 114 (.tmp 14) (.tmp 58) rfl _ _ rfl rfl xb (tyWay.size.trans rfl) rfl (way_one (wy0)) ?_
 intro w4 xb4 st4
 replace ob := st4.box ob (by omega)
 replace eb := st4.box eb (by omega)
 replace db := st4.box db (by omega)
 replace cb := st4.box cb (by omega)
 replace wb := st4.box wb (by omega)
 replace pb := st4.box pb (by omega)
 replace low := st4.low low (by omega)
 obtain ⟨hh0, hh1, hh2, hh3, hh4, hh5, hh6, hh7, hh8, hh9, hh10, hh11, hh12, hh13, hh14, hh15⟩ := hHeld
 have hHeld := (And.intro (st4.cell (by dsimp only; omega) hh0) (And.intro (st4.cell (by dsimp only; omega) hh1) (And.intro (st4.cell (by dsimp only; omega) hh2) (And.intro (st4.cell (by dsimp only; omega) hh3) (And.intro (st4.cell (by dsimp only; omega) hh4) (And.intro (st4.cell (by dsimp only; omega) hh5) (And.intro (st4.cell (by dsimp only; omega) hh6) (And.intro (st4.cell (by dsimp only; omega) hh7) (And.intro (st4.cell (by dsimp only; omega) hh8) (And.intro (st4.cell (by dsimp only; omega) hh9) (And.intro (st4.cell (by dsimp only; omega) hh10) (And.intro (st4.cell (by dsimp only; omega) hh11) (And.intro (st4.cell (by dsimp only; omega) hh12) (And.intro (st4.cell (by dsimp only; omega) hh13) (And.intro (st4.cell (by dsimp only; omega) hh14) (st4.cell (by dsimp only; omega) hh15))))))))))))))))
 clear hh0 hh1 hh2 hh3 hh4 hh5 hh6 hh7 hh8 hh9 hh10 hh11 hh12 hh13 hh14 hh15
 refine hK.out _ _ hHeld ?_
 clear hK K
 try simp only [Act.put]
 try simp only [List.setIfInBounds_toArray, List.set_cons_zero, List.set_cons_succ]
 refine takeA 19 ?_ rfl ?_ ?_; rotate_left
 ·(intro w hSw; go_simp; try (with_reducible rfl))
 try simp only [Act.put, List.setIfInBounds_toArray, List.set_cons_zero, List.set_cons_succ]
 refine wpAnyH_done (by kernel_rfl) ?_ _
 refine NoPanic.normal ?_
 clear hHeld xb qb h
 go_wp2_with (first | (with_reducible refine wp_zeroW (tyWorld) ?_) | (with_reducible refine wp_zeroW (tyDone) ?_) | ((with_reducible refine wp_storeW (tyWorld) (ob) (rfl) (nilW_size) (nilW_one) ?_ ?_ ?_); rfl; rfl))
 intro w8 ob8 st8
 replace eb := st8.box eb (by omega)
 replace low := st8.low low (by omega)
 clear st8 ob
 go_wp2_with ((with_reducible refine wp_storeW (tyDone) (eb) (rfl) (done0_size) (done0_one) ?_ ?_ ?_); rfl; rfl)
 intro w9 eb9 st9
 replace ob8 := st9.box ob8 (by omega)
 replace low := st9.low low (by omega)
 clear st9 eb
 go_wp2_with fail
 exact bodyPost_ret (v := .tuple #[.agg nilW, .agg done0, .int .i64 (5)]) (results_two tyWorld tyDone Tryz.results85 rfl rfl rfl ob8 rfl eb9 rfl) rfl ⟨rfl, low⟩
end Go.Proofs.YtcegjehoejgofaaGreat
namespace Go.Proofs.YtcegjehoejgofaaGreat
open Go.ChangeShapes Go.WideShapes Go.ChangeAt Go.RowKit Go.Joins
theorem run_store1 {w : World} {g : Nat} {T ty : TypeId} {cs : Array Value} (z : (Tryz.prog.info? ty).map (·.size) = some 1) (h : Box w g T cs) (i : Nat) (hi : i < cs.size) (u : Value) (hu : u.cells = #[u]) (h1 : u.oneCell' = true) :
  (storeVar ty ⟨g, i, none⟩ u).run Tryz.prog w = .ok () (w.setCell ⟨g, i, none⟩ u) := by
 have c := h.cell i
 rw [Array.getElem?_eq_getElem hi] at c
 have f := h.frozen i
 have := run_storeCells_cells (P := Tryz.prog) g i [u] 0 w (fun j hj => by obtain rfl : j = 0 := (by simpa using hj); simp [c]) (fun j hj => by obtain rfl : j = 0 := (by simpa using hj); simp [f]) (fun v hv => by simp at hv; subst hv; exact h1)
 cases hq : Tryz.prog.info? ty with
 | none => rw [hq] at z; cases z
 | some y =>
  have hs : y.size = 1 := by rw [hq] at z; simpa using z
  simp only [Nat.add_zero] at this
  simp [storeVar, sizeOf, typeInfo, hq, hu, hs, this, World.setCells]
theorem wp_store1 {ops : Array Oper} {rest : List Oper} {dst : Option Tmp} {t : TypeId} {pos : String} {after : Array Edge} {a : Act} {w : World} {Q : Exit → Act → World → Prop} {ty : TypeId} (z : (Tryz.prog.info? ty).map (·.size) = some 1)
  {x y : Operand} {g : Nat} {T : TypeId} {cs : Array Value} (hb : Box w g T cs) (i : Nat) (hi : i < cs.size) (u : Value) (hu : u.cells = #[u]) (h1 : u.oneCell' = true) (hx : a.eval x = .pointer (some ⟨g, i, none⟩)) (hy : a.eval y = u)
  (h : ∀ w', Box w' g T (cs.setIfInBounds i u) → Stored w g w' → wpList Tryz.prog ops Q rest (a.put dst undef) w') :
  wpList Tryz.prog ops Q (⟨dst, .store ty x y, t, pos, after, none⟩ :: rest) a w := by
 refine wpList_plain rfl fun K hK => ?_
 unfold Oper.wp execOp
 simp only [hx, hy, Instr.storeAt, Instr.sureAddr, Sem.run_bind, Sem.run_pure, Result.andThen_ok, run_store1 z hb i hi u hu h1]
 exact hK _ _ (h _ (hb.set i _) (Stored.cell1 w ⟨g, i, none⟩ _))
theorem size_cache : (Tryz.prog.info? 160).map (·.size) = some 1 := by kernel_rfl
structure NewC (w0 : World) (g : Nat) (A : Option Addr) (c : Nat) (w : World) (t : TypeId) (cs : Array Value) (n : Nat) (sa : List St) : Prop where
 low : Below w0.heap.size w0 w
 new : w0.heap.size ≤ g
 box : Box w g t cs
 cf : ∃ B C, w0.heap.size ≤ B ∧ C ≤ w.heap.size ∧ (g < B ∨ C ≤ g) ∧ CFr w B C (.slice A n c) sa
set_option maxRecDepth 10000 in
set_option maxHeartbeats 8000000 in
theorem do_walk (n s y b : Int) (m : List Int) (css : List (List St)) (i0 L : Nat) (dk da dv st : Int) (al : Bool) (own qa qq qc qd u : Int) (ss sa : List St) (css' : List (List St)) (out : Wy) (w : World) (bb o cp c' : Nat) (A' : Option Addr)
  (h : Ks w (.slice (some ⟨bb, o, none⟩) css.length cp) css) (hm : m.length = 64) (hi0 : i0 < css.length) (hbb : bb < w.heap.size) (_k1 : css.length ≤ cp) (_k2 : cp ≤ maxLen) (CE : Hid (w.cell? ⟨bb, o + i0, none⟩ = some (.slice A' ss.length c'))) (CS : Hid (Cs w (.slice A' ss.length c') ss))
  (F : Hid (∀ w, Ks w (.slice (some ⟨bb, o, none⟩) css.length cp) css → Calls Tryz.prog 106 #[cfg n s y b, wldV (.slice (some ⟨bb, o, none⟩) css.length cp) m, (⟨i0, dk, da, dv⟩ : Dd).val] w fun e w' => e = .returned (.tuple #[plcV L st al own, .int .i64 0]) ∧ Below w.heap.size w w'))
  (P : Hid (∀ w, Ks w (.slice (some ⟨bb, o, none⟩) css.length cp) css → Calls Tryz.prog 107 #[cfg n s y b, wldV (.slice (some ⟨bb, o, none⟩) css.length cp) m, (⟨i0, dk, da, dv⟩ : Dd).val, .int .i64 L] w fun e w' => e = .returned (.tuple #[line qa qq qc qd, .int .u64 u, .int .i64 0]) ∧ Below w.heap.size w w'))
  (O : Hid (∀ v w, Cs w v ss → Calls Tryz.prog 108 #[cfg n s y b, v, .int .i64 dk, plcV L st al own, line qa qq qc qd] w (GaveCW w ss out sa)))
  (hk : 1 ≤ dk ∧ dk ≤ 4) (ho : owB out.st = true → 0 ≤ out.ln ∧ out.ln ≤ 15) (n8 : css.length ≤ 8) (hlen : css'.length = css.length) (hsa : css'[i0]? = some sa)
  (OC : Hid (∀ w, Ks w (.slice (some ⟨bb, o, none⟩) css.length cp) css → Calls Tryz.prog 109 #[cfg n s y b, .slice (some ⟨bb, o, none⟩) css.length cp, (⟨i0, dk, da, dv⟩ : Dd).val, .int .i64 L] w fun e w' => (∃ us : List Value, us.length = css.length ∧ e = .returned (.tuple #[.slice (some ⟨w.heap.size + 1 + 1, 0, none⟩) css.length css.length, .int .i64 0]) ∧
   Box w' (w.heap.size + 1 + 1) 160 us.toArray ∧ ∀ j, j ≠ i0 → KMade w' (w.heap.size + 1 + 1) w'.heap.size (w.heap.size + 1 + 1) us css' j) ∧ Below w.heap.size w w')) :
  Calls Tryz.prog 85 #[cfg n s y b, wldV (.slice (some ⟨bb, o, none⟩) css.length cp) m, (⟨i0, dk, da, dv⟩ : Dd).val] w fun e w' =>
   (∃ v', e = .returned (.tuple #[wldV v' (keepM m out), doneV u (locB st dk) (if st = 0 then own else -1) (if out.st ≠ 0 then out.ln else -1) (owB out.st), .int .i64 0]) ∧ KFr w' w.heap.size w'.heap.size v' css') ∧ Below w.heap.size w w' := by
 have H0 := Lib.hid h
 have KE := Lib.hid fun w => keep_any m hm out ho w
 have RE := Lib.hid fun w => report_any L st al own dk u out w hk.1 hk.2
 have km := keepM_length hm out
 generalize hM : keepM m out = M at *
 generalize hP1 : locB st dk = f1 at *
 generalize hP2 : (if st = 0 then own else -1) = f2 at *
 generalize hP3 : (if out.st ≠ 0 then out.ln else -1) = f3 at *
 generalize hP4 : owB out.st = f4 at *
 have HSA := Lib.hid hsa
 have HLE := Lib.hid hlen
 clear hM hP1 hP2 hP3 hP4 ho hk hsa hlen
 have i1 : (i0 : Int) < css.length := by omega
 have i2 : (0 : Int) ≤ i0 := by omega
 have low := Below.refl w.heap.size w
 have cb := boxNext low 23 (cfgA n s y b)
 replace low := gAlloc low (.cells (cfgA n s y b) 23)
 replace h := h.alloc (.cells (cfgA n s y b) 23)
 try simp only [World.size_alloc] at cb
 have wb := boxNext low 31 (wldA (.slice (some ⟨bb, o, none⟩) css.length cp) m)
 replace low := gAlloc low (.cells (wldA (.slice (some ⟨bb, o, none⟩) css.length cp) m) 31)
 replace cb := cb.alloc (.cells (wldA (.slice (some ⟨bb, o, none⟩) css.length cp) m) 31)
 replace h := h.alloc (.cells (wldA (.slice (some ⟨bb, o, none⟩) css.length cp) m) 31)
 try simp only [World.size_alloc] at wb
 have db := boxNext low 49 #[.int .i64 i0, .int .i64 dk, .int .i64 da, .int .u64 dv]
 replace low := gAlloc low (.cells #[.int .i64 i0, .int .i64 dk, .int .i64 da, .int .u64 dv] 49)
 replace cb := cb.alloc (.cells #[.int .i64 i0, .int .i64 dk, .int .i64 da, .int .u64 dv] 49)
 replace wb := wb.alloc (.cells #[.int .i64 i0, .int .i64 dk, .int .i64 da, .int .u64 dv] 49)
 replace h := h.alloc (.cells #[.int .i64 i0, .int .i64 dk, .int .i64 da, .int .u64 dv] 49)
 try simp only [World.size_alloc] at db
 have ob := boxNext low 31 nilW
 replace low := gAlloc low (.cells nilW 31)
 replace cb := cb.alloc (.cells nilW 31)
 replace wb := wb.alloc (.cells nilW 31)
 replace db := db.alloc (.cells nilW 31)
 replace h := h.alloc (.cells nilW 31)
 try simp only [World.size_alloc] at ob
 have eb := boxNext low 180 done0
 replace low := gAlloc low (.cells done0 180)
 replace cb := cb.alloc (.cells done0 180)
 replace wb := wb.alloc (.cells done0 180)
 replace db := db.alloc (.cells done0 180)
 replace ob := ob.alloc (.cells done0 180)
 replace h := h.alloc (.cells done0 180)
 try simp only [World.size_alloc] at eb
 have wr := wb.range
 go_enter Tryz.func85, Tryz.ntmps85
 have db_0 := db.at_ 0 rfl
 have db_1 := db.at_ 1 rfl
 have db_2 := db.at_ 2 rfl
 have db_3 := db.at_ 3 rfl
 go_wp2_with (first | (with_reducible refine wp_newW (tyWorld) ?_) | (with_reducible refine wp_newW (tyDone) ?_) | ((with_reducible refine wp_loadW (tyWorld) (wr) (wld_size hm) ?_ ?_ ?_); rfl; rfl))
 (with_reducible refine (F.out _ h).mono ?_); rintro e w1 ⟨rfl, hb⟩
 clear db_0 db_1 db_2 db_3
 replace ob := ob.call hb
 replace eb := eb.call hb
 replace db := db.call hb
 replace cb := cb.call hb
 replace wb := wb.call hb
 replace h := h.call hb
 replace low := gCall low hb
 clear hb wr F
 have z1 := eb.lt
 have pb := boxNext low 202 (plcA L st al own)
 replace low := gAlloc low (.cells (plcA L st al own) 202)
 replace cb := cb.alloc (.cells (plcA L st al own) 202)
 replace wb := wb.alloc (.cells (plcA L st al own) 202)
 replace db := db.alloc (.cells (plcA L st al own) 202)
 replace ob := ob.alloc (.cells (plcA L st al own) 202)
 replace eb := eb.alloc (.cells (plcA L st al own) 202)
 replace h := h.alloc (.cells (plcA L st al own) 202)
 try simp only [World.size_alloc] at pb
 have wr := wb.range
 have db_0 := db.at_ 0 rfl
 have db_1 := db.at_ 1 rfl
 have db_2 := db.at_ 2 rfl
 have db_3 := db.at_ 3 rfl
 have cb_0 := cb.at_ 0 rfl
 have cb_1 := cb.at_ 1 rfl
 have cb_2 := cb.at_ 2 rfl
 have cb_3 := cb.at_ 3 rfl
 have pb_0 := pb.at_ 0 rfl
 go_wp2_with (first | (with_reducible refine wp_newW (tyPlace) ?_) | ((with_reducible refine wp_loadW (tyWorld) (wr) (wld_size hm) ?_ ?_ ?_); rfl; rfl))
 (with_reducible refine (P.out _ h).mono ?_); rintro e w2 ⟨rfl, hb⟩
 clear db_0 db_1 db_2 db_3 cb_0 cb_1 cb_2 cb_3 pb_0
 replace ob := ob.call hb
 replace eb := eb.call hb
 replace db := db.call hb
 replace cb := cb.call hb
 replace wb := wb.call hb
 replace pb := pb.call hb
 replace h := h.call hb
 replace low := gCall low hb
 clear hb wr P
 have z2 := pb.lt
 have qb := boxNext low 27 (lnA ⟨qa, qq, qc, qd⟩)
 replace low := gAlloc low (.cells (lnA ⟨qa, qq, qc, qd⟩) 27)
 replace cb := cb.alloc (.cells (lnA ⟨qa, qq, qc, qd⟩) 27)
 replace wb := wb.alloc (.cells (lnA ⟨qa, qq, qc, qd⟩) 27)
 replace db := db.alloc (.cells (lnA ⟨qa, qq, qc, qd⟩) 27)
 replace ob := ob.alloc (.cells (lnA ⟨qa, qq, qc, qd⟩) 27)
 replace eb := eb.alloc (.cells (lnA ⟨qa, qq, qc, qd⟩) 27)
 replace pb := pb.alloc (.cells (lnA ⟨qa, qq, qc, qd⟩) 27)
 replace h := h.alloc (.cells (lnA ⟨qa, qq, qc, qd⟩) 27)
 try simp only [World.size_alloc] at qb
 have z3 := qb.lt
 have c0 := cb.at_ 0 rfl
 have c1 := cb.at_ 1 rfl
 have c2 := cb.at_ 2 rfl
 have c3 := cb.at_ 3 rfl
 have b0 := wb.at_ 0 (wldA_zero _ _)
 have e0 := db.at_ 0 rfl
 have e1 := db.at_ 1 rfl
 have p0 := pb.at_ 0 rfl
 have p1 := pb.at_ 1 rfl
 have p2 := pb.at_ 2 rfl
 have p3 := pb.at_ 3 rfl
 have q0 := qb.at_ 0 rfl
 have q1 := qb.at_ 1 rfl
 have q2 := qb.at_ 2 rfl
 have q3 := qb.at_ 3 rfl
 have ce := (low.cell (p := ⟨bb, o + i0, none⟩) hbb).trans CE.out
 go_wp2_with (first | (with_reducible refine wp_newW (tyLine) ?_))
 refine wp_region_noPanic ?_
 refine wp_region_held_drew (S := fun w' => w'.cell? ⟨w.heap.size, 0, none⟩ = some (.int .i64 n) ∧ w'.cell? ⟨w.heap.size, 1, none⟩ = some (.int .i64 s) ∧ w'.cell? ⟨w.heap.size, 2, none⟩ = some (.int .i64 y) ∧ w'.cell? ⟨w.heap.size, 3, none⟩ = some (.int .i64 b) ∧ w'.cell? ⟨w.heap.size + 1, 0, none⟩ = some (.slice (some ⟨bb, o, none⟩) css.length cp) ∧ w'.cell? ⟨w.heap.size + 1 + 1, 0, none⟩ = some (.int .i64 i0) ∧ w'.cell? ⟨w.heap.size + 1 + 1, 1, none⟩ = some (.int .i64 dk) ∧
  w'.cell? ⟨w1.heap.size, 0, none⟩ = some (.int .i64 L) ∧ w'.cell? ⟨w1.heap.size, 1, none⟩ = some (.int .i64 st) ∧ w'.cell? ⟨w1.heap.size, 2, none⟩ = some (.bool al) ∧ w'.cell? ⟨w1.heap.size, 3, none⟩ = some (.int .i64 own) ∧
  w'.cell? ⟨w2.heap.size, 0, none⟩ = some (.int .u64 qa) ∧ w'.cell? ⟨w2.heap.size, 1, none⟩ = some (.int .u64 qq) ∧ w'.cell? ⟨w2.heap.size, 2, none⟩ = some (.int .u64 qc) ∧ w'.cell? ⟨w2.heap.size, 3, none⟩ = some (.int .u64 qd) ∧
  w'.cell? ⟨bb, o + i0, none⟩ = some (.slice A' ss.length c')) (by kernel_rfl) ⟨drewC c0, drewC c1, drewC c2, drewC c3, drewC b0, drewC e0, drewC e1, drewC p0, drewC p1, drewC p2, drewC p3, drewC q0, drewC q1, drewC q2, drewC q3, drewC ce⟩ (fun hHeld => ?_)
 clear c0 c1 c2 c3 b0 e0 e1 p0 p1 p2 p3 q0 q1 q2 q3 ce
 replace ob := ob.drew
 replace eb := eb.drew
 replace db := db.drew
 replace cb := cb.drew
 replace wb := wb.drew
 replace pb := pb.drew
 replace qb := qb.drew
 replace h := h.drew
 replace low := low.drew
 refine takeA 0 ?_ rfl ?_ ?_; rotate_left
 ·(intro w hSw; go_simp; try (with_reducible rfl))
 try simp only [Act.put, List.setIfInBounds_toArray, List.set_cons_zero, List.set_cons_succ]
 refine takeA 1 ?_ rfl ?_ ?_; rotate_left
 ·(intro w hSw; go_simp; try (with_reducible rfl))
 try simp only [Act.put, List.setIfInBounds_toArray, List.set_cons_zero, List.set_cons_succ]
 refine takeA 2 ?_ rfl ?_ ?_; rotate_left
 ·(intro w hSw; go_simp; try (with_reducible rfl))
 try simp only [Act.put, List.setIfInBounds_toArray, List.set_cons_zero, List.set_cons_succ]
 refine takeA 3 ?_ rfl ?_ ?_; rotate_left
 ·(intro w hSw; go_simp; try (with_reducible rfl))
 try simp only [Act.put, List.setIfInBounds_toArray, List.set_cons_zero, List.set_cons_succ]
 refine takeA 4 ?_ rfl ?_ ?_; rotate_left
 ·(intro w hSw; go_simp; try (with_reducible rfl))
 try simp only [Act.put, List.setIfInBounds_toArray, List.set_cons_zero, List.set_cons_succ]
 refine takeA 5 ?_ rfl ?_ ?_; rotate_left
 ·(intro w hSw; go_simp; try (with_reducible rfl))
 try simp only [Act.put, List.setIfInBounds_toArray, List.set_cons_zero, List.set_cons_succ]
 refine takeA 6 ?_ rfl ?_ ?_; rotate_left
 ·(intro w hSw; go_simp; try (with_reducible rfl))
 try simp only [Act.put, List.setIfInBounds_toArray, List.set_cons_zero, List.set_cons_succ]
 refine takeA 7 ?_ rfl ?_ ?_; rotate_left
 ·(intro w hSw; go_simp; try (with_reducible rfl))
 try simp only [Act.put, List.setIfInBounds_toArray, List.set_cons_zero, List.set_cons_succ]
 refine takeA 8 ?_ rfl ?_ ?_; rotate_left
 ·(intro w hSw; go_simp; try (with_reducible rfl))
 try simp only [Act.put, List.setIfInBounds_toArray, List.set_cons_zero, List.set_cons_succ]
 refine takeA 9 ?_ rfl ?_ ?_; rotate_left
 ·(intro w hSw; go_simp; try (with_reducible rfl))
 try simp only [Act.put, List.setIfInBounds_toArray, List.set_cons_zero, List.set_cons_succ]
 refine takeA 10 ?_ rfl ?_ ?_; rotate_left
 ·(intro w hSw; go_simp; try (with_reducible rfl))
 try simp only [Act.put, List.setIfInBounds_toArray, List.set_cons_zero, List.set_cons_succ]
 generalize hW : World.drew _ = wN at *
 clear hW
 have cs := CS.out.call low
 have near := Below.refl wN.heap.size wN
 apply share1 (M := fun g A2 c2 wz => NewC wN g A2 c2 wz 114 zeroA ss.length sa)
 ·intro hE
  refine stepTwo (i1 := 11) (i2 := 16) (by kernel_rfl) rfl rfl (by rfl) (by rfl) (fun K hK => ?_) (fun K hK => ?_)
  ·go_simp
   (with_reducible refine (O.out _ _ cs).mono ?_); rintro e wy ⟨⟨A2, c2, rfl, cf⟩, hb⟩
   replace near := gCall near hb
   try clear hNow
   have hNow := (And.intro (callC near hHeld.1) (And.intro (callC near hHeld.2.1) (And.intro (callC near hHeld.2.2.1) (And.intro (callC near hHeld.2.2.2.1) (And.intro (callC near hHeld.2.2.2.2.1) (And.intro (callC near hHeld.2.2.2.2.2.1) (And.intro (callC near hHeld.2.2.2.2.2.2.1) (And.intro (callC near hHeld.2.2.2.2.2.2.2.1) (And.intro (callC near hHeld.2.2.2.2.2.2.2.2.1) (And.intro (callC near hHeld.2.2.2.2.2.2.2.2.2.1) (And.intro (callC near hHeld.2.2.2.2.2.2.2.2.2.2.1) (And.intro (callC near hHeld.2.2.2.2.2.2.2.2.2.2.2.1) (And.intro (callC near hHeld.2.2.2.2.2.2.2.2.2.2.2.2.1) (And.intro (callC near hHeld.2.2.2.2.2.2.2.2.2.2.2.2.2.1) (And.intro (callC near hHeld.2.2.2.2.2.2.2.2.2.2.2.2.2.2.1) (callC near hHeld.2.2.2.2.2.2.2.2.2.2.2.2.2.2.2))))))))))))))))
   refine hK.out _ _ hNow ?_
   clear hK K
   try simp only [Act.put]
   try simp only [List.setIfInBounds_toArray, List.set_cons_zero, List.set_cons_succ]
   refine takeA 12 ?_ rfl ?_ ?_; rotate_left
   ·(intro w hSw; go_simp; try (with_reducible rfl))
   try simp only [Act.put, List.setIfInBounds_toArray, List.set_cons_zero, List.set_cons_succ]
   refine takeA 13 ?_ rfl ?_ ?_; rotate_left
   ·(intro w hSw; go_simp; try (with_reducible rfl))
   try simp only [Act.put, List.setIfInBounds_toArray, List.set_cons_zero, List.set_cons_succ]
   refine takeA 14 ?_ rfl ?_ ?_; rotate_left
   ·(intro w hSw; go_simp; try (with_reducible rfl))
   try simp only [Act.put, List.setIfInBounds_toArray, List.set_cons_zero, List.set_cons_succ]
   refine takeA 15 ?_ rfl ?_ ?_; rotate_left
   ·(intro w hSw; go_simp; try (with_reducible rfl))
   try simp only [Act.put, List.setIfInBounds_toArray, List.set_cons_zero, List.set_cons_succ]
   refine stepNext (i := 16) (by kernel_rfl) rfl (by rfl) (fun K hK => ?_)
   refine op_newW tyWay ?_
   have sz := near.size
   have box := Box.new wy 114 zeroA
   have cf2 := cf.alloc (.cells zeroA 114)
   have sz2 : wy.heap.size ≤ (wy.alloc (.cells zeroA 114)).heap.size := by simp
   replace near := gAlloc near (.cells zeroA 114)
   try clear hNow
   have hNow := (And.intro (callC near hHeld.1) (And.intro (callC near hHeld.2.1) (And.intro (callC near hHeld.2.2.1) (And.intro (callC near hHeld.2.2.2.1) (And.intro (callC near hHeld.2.2.2.2.1) (And.intro (callC near hHeld.2.2.2.2.2.1) (And.intro (callC near hHeld.2.2.2.2.2.2.1) (And.intro (callC near hHeld.2.2.2.2.2.2.2.1) (And.intro (callC near hHeld.2.2.2.2.2.2.2.2.1) (And.intro (callC near hHeld.2.2.2.2.2.2.2.2.2.1) (And.intro (callC near hHeld.2.2.2.2.2.2.2.2.2.2.1) (And.intro (callC near hHeld.2.2.2.2.2.2.2.2.2.2.2.1) (And.intro (callC near hHeld.2.2.2.2.2.2.2.2.2.2.2.2.1) (And.intro (callC near hHeld.2.2.2.2.2.2.2.2.2.2.2.2.2.1) (And.intro (callC near hHeld.2.2.2.2.2.2.2.2.2.2.2.2.2.2.1) (callC near hHeld.2.2.2.2.2.2.2.2.2.2.2.2.2.2.2))))))))))))))))
   refine hK.out _ _ hNow ?_
   clear hK K
   try simp only [Act.put]
   try simp only [List.setIfInBounds_toArray, List.set_cons_zero, List.set_cons_succ]
   generalize wy.alloc (.cells zeroA 114) = wz at *
   generalize wy.heap.size = ga at *
   refine relist (l2 := #[true, true, true, true, true, true, true, true, true, true, true, true, true, true, true, true, true, false, false, false]) (by kernel_rfl) ?_
   exact hE _ _ _ _ ⟨near, sz, box, _, _, Nat.le_refl _, sz2, .inr (Nat.le_refl _), cf2⟩
  ·refine op_newW tyWay ?_
   have box := Box.new wN 114 zeroA
   have sz2 : (wN.alloc (.cells zeroA 114)).heap.size = wN.heap.size + 1 := by simp
   replace near := gAlloc near (.cells zeroA 114)
   try clear hNow
   have hNow := (And.intro (callC near hHeld.1) (And.intro (callC near hHeld.2.1) (And.intro (callC near hHeld.2.2.1) (And.intro (callC near hHeld.2.2.2.1) (And.intro (callC near hHeld.2.2.2.2.1) (And.intro (callC near hHeld.2.2.2.2.2.1) (And.intro (callC near hHeld.2.2.2.2.2.2.1) (And.intro (callC near hHeld.2.2.2.2.2.2.2.1) (And.intro (callC near hHeld.2.2.2.2.2.2.2.2.1) (And.intro (callC near hHeld.2.2.2.2.2.2.2.2.2.1) (And.intro (callC near hHeld.2.2.2.2.2.2.2.2.2.2.1) (And.intro (callC near hHeld.2.2.2.2.2.2.2.2.2.2.2.1) (And.intro (callC near hHeld.2.2.2.2.2.2.2.2.2.2.2.2.1) (And.intro (callC near hHeld.2.2.2.2.2.2.2.2.2.2.2.2.2.1) (And.intro (callC near hHeld.2.2.2.2.2.2.2.2.2.2.2.2.2.2.1) (callC near hHeld.2.2.2.2.2.2.2.2.2.2.2.2.2.2.2))))))))))))))))
   refine hK.out _ _ hNow ?_
   clear hK K
   try simp only [Act.put]
   try simp only [List.setIfInBounds_toArray, List.set_cons_zero, List.set_cons_succ]
   clear hNow
   have cs2 := cs.call near
   generalize wN.alloc (.cells zeroA 114) = wx at *
   generalize hga : wN.heap.size = ga at box ⊢
   have HGA := Lib.hid hga
   have SZ := Lib.hid sz2
   clear hga sz2
   refine stepNext (i := 11) (by kernel_rfl) rfl (by rfl) (fun K hK => ?_)
   go_simp
   (with_reducible refine (O.out _ _ cs2).mono ?_); rintro e wy ⟨⟨A2, c2, rfl, cf⟩, hb⟩
   replace near := gCall near hb
   replace box := box.call hb
   try clear hNow
   have hNow := (And.intro (callC near hHeld.1) (And.intro (callC near hHeld.2.1) (And.intro (callC near hHeld.2.2.1) (And.intro (callC near hHeld.2.2.2.1) (And.intro (callC near hHeld.2.2.2.2.1) (And.intro (callC near hHeld.2.2.2.2.2.1) (And.intro (callC near hHeld.2.2.2.2.2.2.1) (And.intro (callC near hHeld.2.2.2.2.2.2.2.1) (And.intro (callC near hHeld.2.2.2.2.2.2.2.2.1) (And.intro (callC near hHeld.2.2.2.2.2.2.2.2.2.1) (And.intro (callC near hHeld.2.2.2.2.2.2.2.2.2.2.1) (And.intro (callC near hHeld.2.2.2.2.2.2.2.2.2.2.2.1) (And.intro (callC near hHeld.2.2.2.2.2.2.2.2.2.2.2.2.1) (And.intro (callC near hHeld.2.2.2.2.2.2.2.2.2.2.2.2.2.1) (And.intro (callC near hHeld.2.2.2.2.2.2.2.2.2.2.2.2.2.2.1) (callC near hHeld.2.2.2.2.2.2.2.2.2.2.2.2.2.2.2))))))))))))))))
   refine hK.out _ _ hNow ?_
   clear hK K
   try simp only [Act.put]
   try simp only [List.setIfInBounds_toArray, List.set_cons_zero, List.set_cons_succ]
   refine takeA 12 ?_ rfl ?_ ?_; rotate_left
   ·(intro w hSw; go_simp; try (with_reducible rfl))
   try simp only [Act.put, List.setIfInBounds_toArray, List.set_cons_zero, List.set_cons_succ]
   refine takeA 13 ?_ rfl ?_ ?_; rotate_left
   ·(intro w hSw; go_simp; try (with_reducible rfl))
   try simp only [Act.put, List.setIfInBounds_toArray, List.set_cons_zero, List.set_cons_succ]
   refine takeA 14 ?_ rfl ?_ ?_; rotate_left
   ·(intro w hSw; go_simp; try (with_reducible rfl))
   try simp only [Act.put, List.setIfInBounds_toArray, List.set_cons_zero, List.set_cons_succ]
   refine takeA 15 ?_ rfl ?_ ?_; rotate_left
   ·(intro w hSw; go_simp; try (with_reducible rfl))
   try simp only [Act.put, List.setIfInBounds_toArray, List.set_cons_zero, List.set_cons_succ]
   refine relist (l2 := #[true, true, true, true, true, true, true, true, true, true, true, true, true, true, true, true, true, false, false, false]) (by kernel_rfl) ?_
   exact hE _ _ _ _ ⟨near, Nat.le_of_eq HGA.out, box, _, _, by have := SZ.out; omega, Nat.le_refl _, .inl (by have := SZ.out; have := HGA.out; omega), cf⟩
 intro gx A2 c2 wz mid
 have zq := qb.lt
 have zl := low.size
 obtain ⟨near2, gnew, xb, B, C, hB, hC, hgx, cf⟩ := mid
 replace ob := ob.call near2
 replace eb := eb.call near2
 replace db := db.call near2
 replace cb := cb.call near2
 replace wb := wb.call near2
 replace pb := pb.call near2
 replace h := h.call near2
 replace low := gCall low near2
 obtain ⟨hh0, hh1, hh2, hh3, hh4, hh5, hh6, hh7, hh8, hh9, hh10, hh11, hh12, hh13, hh14, hh15⟩ := hHeld
 have hHeld := (And.intro (callC near2 hh0) (And.intro (callC near2 hh1) (And.intro (callC near2 hh2) (And.intro (callC near2 hh3) (And.intro (callC near2 hh4) (And.intro (callC near2 hh5) (And.intro (callC near2 hh6) (And.intro (callC near2 hh7) (And.intro (callC near2 hh8) (And.intro (callC near2 hh9) (And.intro (callC near2 hh10) (And.intro (callC near2 hh11) (And.intro (callC near2 hh12) (And.intro (callC near2 hh13) (And.intro (callC near2 hh14) (callC near2 hh15))))))))))))))))
 clear hh0 hh1 hh2 hh3 hh4 hh5 hh6 hh7 hh8 hh9 hh10 hh11 hh12 hh13 hh14 hh15
 clear near cs
 refine takeA 17 ?_ rfl ?_ ?_; rotate_left
 ·(intro w hSw; go_simp; try (with_reducible rfl))
 try simp only [Act.put, List.setIfInBounds_toArray, List.set_cons_zero, List.set_cons_succ]
 refine stepNext (i := 18) (by kernel_rfl) rfl (by rfl) (fun K hK => ?_)
 refine wp_store_box 114 (.tmp 14) (.tmp 58) rfl _ _ rfl rfl xb (tyWay.size.trans rfl) rfl (way_one (out)) ?_
 intro w4 xb4 st4
 replace ob := st4.box ob (by omega)
 replace eb := st4.box eb (by omega)
 replace db := st4.box db (by omega)
 replace cb := st4.box cb (by omega)
 replace wb := st4.box wb (by omega)
 replace pb := st4.box pb (by omega)
 replace low := st4.low low (by omega)
 have CF := Lib.hid (cf.out st4 hgx)
 have HC4 := Lib.hid (show C ≤ w4.heap.size by rw [st4.size]; exact hC)
 obtain ⟨hh0, hh1, hh2, hh3, hh4, hh5, hh6, hh7, hh8, hh9, hh10, hh11, hh12, hh13, hh14, hh15⟩ := hHeld
 have hHeld := (And.intro (st4.cell (by dsimp only; omega) hh0) (And.intro (st4.cell (by dsimp only; omega) hh1) (And.intro (st4.cell (by dsimp only; omega) hh2) (And.intro (st4.cell (by dsimp only; omega) hh3) (And.intro (st4.cell (by dsimp only; omega) hh4) (And.intro (st4.cell (by dsimp only; omega) hh5) (And.intro (st4.cell (by dsimp only; omega) hh6) (And.intro (st4.cell (by dsimp only; omega) hh7) (And.intro (st4.cell (by dsimp only; omega) hh8) (And.intro (st4.cell (by dsimp only; omega) hh9) (And.intro (st4.cell (by dsimp only; omega) hh10) (And.intro (st4.cell (by dsimp only; omega) hh11) (And.intro (st4.cell (by dsimp only; omega) hh12) (And.intro (st4.cell (by dsimp only; omega) hh13) (And.intro (st4.cell (by dsimp only; omega) hh14) (st4.cell (by dsimp only; omega) hh15))))))))))))))))
 clear hh0 hh1 hh2 hh3 hh4 hh5 hh6 hh7 hh8 hh9 hh10 hh11 hh12 hh13 hh14 hh15
 refine hK.out _ _ hHeld ?_
 clear hK K
 try simp only [Act.put]
 try simp only [List.setIfInBounds_toArray, List.set_cons_zero, List.set_cons_succ]
 refine takeA 19 ?_ rfl ?_ ?_; rotate_left
 ·(intro w hSw; go_simp; try (with_reducible rfl))
 try simp only [Act.put, List.setIfInBounds_toArray, List.set_cons_zero, List.set_cons_succ]
 refine wpAnyH_done (by kernel_rfl) ?_ _
 refine NoPanic.normal ?_
 clear hHeld xb qb h cf st4 near2 hgx hC
 have h4 := H0.out.call low
 have b0 := wb.at_ 0 (wldA_zero _ _)
 have cb_0 := cb.at_ 0 rfl
 have cb_1 := cb.at_ 1 rfl
 have cb_2 := cb.at_ 2 rfl
 have cb_3 := cb.at_ 3 rfl
 have db_0 := db.at_ 0 rfl
 have db_1 := db.at_ 1 rfl
 have db_2 := db.at_ 2 rfl
 have db_3 := db.at_ 3 rfl
 have pb_0 := pb.at_ 0 rfl
 go_wp2_with fail
 (with_reducible refine (OC.out _ h4).mono ?_); rintro e w5 ⟨⟨us, ulen, rfl, ab, hkm⟩, hb⟩
 clear cb_0 cb_1 cb_2 cb_3 db_0 db_1 db_2 db_3 pb_0
 have l4z := low.size
 replace ob := ob.call hb
 replace eb := eb.call hb
 replace db := db.call hb
 replace wb := wb.call hb
 replace pb := pb.call hb
 have xz := xb4.lt
 replace xb4 := xb4.call hb
 replace low := gCall low hb
 have CF5 := Lib.hid (CF.out.call hb)
 have HKM := Lib.hid hkm
 have HUL := Lib.hid ulen
 have g2z := ab.lt
 have ui : i0 < us.toArray.size := by rw [List.size_toArray, ulen]; exact hi0
 clear hb h4 b0 CF hkm ulen cb OC
 have db_0 := db.at_ 0 rfl
 go_wp2_with ((with_reducible refine wp_store1 size_cache ab i0 ui (.slice A2 ss.length c2) rfl rfl ?_ ?_ ?_); rfl; rfl)
 intro w6 ab6 st6
 clear db_0
 rw [List.setIfInBounds_toArray] at ab6
 have KF := Lib.hid (show KFr w6 wN.heap.size w6.heap.size (.slice (some ⟨w4.heap.size + 1 + 1, 0, none⟩) css.length css.length) css' from by
  have e8 := HLE.out
  have c4 := HC4.out
  have s6 := st6.size
  refine ⟨w4.heap.size + 1 + 1, us.set i0 (.slice A2 ss.length c2), by rw [e8], by rw [List.length_set, HUL.out, e8], by unfold maxLen; omega, by omega, by omega, ab6, fun j => ?_⟩
  by_cases ej : j = i0
  ·subst ej
   have el : ss.length = sa.length := by
    obtain ⟨A4, c4', e4⟩ := CF5.out.shape
    simp only [Value.slice.injEq] at e4
    exact e4.2.1
   have cf5 := CF5.out
   rw [el] at cf5 ⊢
   exact KMade.set st6 (by have := HUL.out; omega) HSA.out (by omega) (by omega) (.inl (by omega)) cf5
  ·exact ((HKM.out j ej).past st6 (fun h => ej h.symm) _).more (by omega) (by omega))
 replace ob := st6.box ob (by omega)
 replace eb := st6.box eb (by omega)
 replace db := st6.box db (by omega)
 replace wb := st6.box wb (by omega)
 replace pb := st6.box pb (by omega)
 replace xb4 := st6.box xb4 (by omega)
 replace low := st6.low low (by omega)
 have s6 := st6.size
 clear st6 ab ab6 CF5 HKM
 have wm := wld_mem wb
 have xb4_0 := xb4.at_ 0 rfl
 have xb4_1 := xb4.at_ 1 rfl
 have xb4_2 := xb4.at_ 2 rfl
 have xb4_3 := xb4.at_ 3 rfl
 have xb4_4 := xb4.at_ 4 rfl
 have xb4_5 := xb4.at_ 5 rfl
 go_wp2_with (first | ((with_reducible refine wp_loadW (tyMem) (wm) (mem_zsize hm) ?_ ?_ ?_); rfl; rfl))
 (with_reducible refine (KE.out _).mono ?_); rintro e w7 ⟨rfl, hb⟩
 clear xb4_0 xb4_1 xb4_2 xb4_3 xb4_4 xb4_5
 replace ob := ob.call hb
 replace eb := eb.call hb
 replace db := db.call hb
 replace pb := pb.call hb
 replace xb4 := xb4.call hb
 replace low := gCall low hb
 replace KF := Lib.hid ((KF.out.call hb).more (Nat.le_refl _) hb.size)
 have s7 := hb.size
 clear hb wm wb KE
 have KF7 := Lib.hid (KF.out.alloc (.cells (memA M) 29))
 have mb := boxNext low 29 (memA M)
 replace low := gAlloc low (.cells (memA M) 29)
 replace ob := ob.alloc (.cells (memA M) 29)
 replace eb := eb.alloc (.cells (memA M) 29)
 replace db := db.alloc (.cells (memA M) 29)
 replace pb := pb.alloc (.cells (memA M) 29)
 replace xb4 := xb4.alloc (.cells (memA M) 29)
 try simp only [World.size_alloc] at mb
 have p0 := pb.at_ 0 rfl
 have p1 := pb.at_ 1 rfl
 have p2 := pb.at_ 2 rfl
 have p3 := pb.at_ 3 rfl
 have e1 := db.at_ 1 rfl
 have x0 := xb4.at_ 0 rfl
 have x1 := xb4.at_ 1 rfl
 have x2 := xb4.at_ 2 rfl
 have x3 := xb4.at_ 3 rfl
 have x4 := xb4.at_ 4 rfl
 have x5 := xb4.at_ 5 rfl
 have mm : Mb (w7.alloc (.cells (memA M) 29)) w7.heap.size M := ⟨mb, km⟩
 go_wp2_with (first | (with_reducible refine wp_newMem ?_) | ((with_reducible refine wp_storeNew (zeroL_length) (km) ?_ ?_ ?_); rfl; rfl))
 refine wp_region_noPanic ?_
 refine wp_region_held_drew (S := fun w' => w'.cell? ⟨w1.heap.size, 0, none⟩ = some (.int .i64 L) ∧ w'.cell? ⟨w1.heap.size, 1, none⟩ = some (.int .i64 st) ∧ w'.cell? ⟨w1.heap.size, 2, none⟩ = some (.bool al) ∧ w'.cell? ⟨w1.heap.size, 3, none⟩ = some (.int .i64 own) ∧ w'.cell? ⟨w.heap.size + 1 + 1, 1, none⟩ = some (.int .i64 dk) ∧ w'.cell? ⟨gx, 0, none⟩ = some (.int .i64 out.st) ∧ w'.cell? ⟨gx, 1, none⟩ = some (.int .i64 out.ln) ∧ w'.cell? ⟨gx, 2, none⟩ = some (.int .u64 out.a) ∧ w'.cell? ⟨gx, 3, none⟩ = some (.int .u64 out.b) ∧ w'.cell? ⟨gx, 4, none⟩ = some (.int .u64 out.c) ∧ w'.cell? ⟨gx, 5, none⟩ = some (.int .u64 out.d) ∧ Mb w' w7.heap.size M) (by kernel_rfl) ⟨drewC p0, drewC p1, drewC p2, drewC p3, drewC e1, drewC x0, drewC x1, drewC x2, drewC x3, drewC x4, drewC x5, mm.drew⟩ (fun hHeld => ?_)
 clear p0 p1 p2 p3 e1 x0 x1 x2 x3 x4 x5 mm
 replace ob := ob.drew
 replace eb := eb.drew
 replace db := db.drew
 replace pb := pb.drew
 replace xb4 := xb4.drew
 replace mb := mb.drew
 replace low := low.drew
 replace KF7 := Lib.hid (KF7.out.call (Below.refl _ _).drew)
 refine takeA 0 ?_ rfl ?_ ?_; rotate_left
 ·(intro w hSw; go_simp; try (with_reducible rfl))
 try simp only [Act.put, List.setIfInBounds_toArray, List.set_cons_zero, List.set_cons_succ]
 refine takeFirst (i := 1) (v := memV (M)) rfl (by kernel_rfl) (by kernel_rfl) (by kernel_rfl) (by rfl) (fun _ _ _ h => h) (fun _ hSw => exec_loadMem rfl (hSw.2.2.2.2.2.2.2.2.2.2.2)) (by assumption) ?_
 try simp only [Act.put, List.setIfInBounds_toArray, List.set_cons_zero, List.set_cons_succ]
 refine takeFirst (i := 2) (v := wldV (.slice (some ⟨w4.heap.size + 1 + 1, 0, none⟩) css.length css.length) M) rfl (by kernel_rfl) (by kernel_rfl) (by kernel_rfl) (by rfl) (fun _ _ _ h => h) (fun _ _ => exec_buildM km rfl rfl) (by assumption) ?_
 try simp only [Act.put]
 try simp only [List.setIfInBounds_toArray, List.set_cons_zero, List.set_cons_succ]
 refine takeA 3 ?_ rfl ?_ ?_; rotate_left
 ·(intro w hSw; go_simp; try (with_reducible rfl))
 try simp only [Act.put, List.setIfInBounds_toArray, List.set_cons_zero, List.set_cons_succ]
 refine takeA 4 ?_ rfl ?_ ?_; rotate_left
 ·(intro w hSw; go_simp; try (with_reducible rfl))
 try simp only [Act.put, List.setIfInBounds_toArray, List.set_cons_zero, List.set_cons_succ]
 refine takeA 5 ?_ rfl ?_ ?_; rotate_left
 ·(intro w hSw; go_simp; try (with_reducible rfl))
 try simp only [Act.put, List.setIfInBounds_toArray, List.set_cons_zero, List.set_cons_succ]
 refine takeA 6 ?_ rfl ?_ ?_; rotate_left
 ·(intro w hSw; go_simp; try (with_reducible rfl))
 try simp only [Act.put, List.setIfInBounds_toArray, List.set_cons_zero, List.set_cons_succ]
 refine takeA 7 ?_ rfl ?_ ?_; rotate_left
 ·(intro w hSw; go_simp; try (with_reducible rfl))
 try simp only [Act.put, List.setIfInBounds_toArray, List.set_cons_zero, List.set_cons_succ]
 have wz2 : (w7.alloc (.cells (memA M) 29)).drew.heap.size = w7.heap.size + 1 := by simp
 generalize (w7.alloc (.cells (memA M) 29)).drew = w8 at *
 refine stepNext (i := 8) (by kernel_rfl) rfl (by rfl) (fun K hK => ?_)
 go_simp
 (with_reducible refine (RE.out _).mono ?_); rintro e w9 ⟨rfl, hb⟩
 replace ob := ob.call hb
 replace eb := eb.call hb
 replace db := db.call hb
 replace pb := pb.call hb
 replace xb4 := xb4.call hb
 replace mb := mb.call hb
 replace low := gCall low hb
 replace KF7 := Lib.hid (KF7.out.call hb)
 have s9 := hb.size
 clear hHeld
 have hHeld := (And.intro (pb.at_ 0 rfl) (And.intro (pb.at_ 1 rfl) (And.intro (pb.at_ 2 rfl) (And.intro (pb.at_ 3 rfl) (And.intro (db.at_ 1 rfl) (And.intro (xb4.at_ 0 rfl) (And.intro (xb4.at_ 1 rfl) (And.intro (xb4.at_ 2 rfl) (And.intro (xb4.at_ 3 rfl) (And.intro (xb4.at_ 4 rfl) (And.intro (xb4.at_ 5 rfl) (Mb.mk mb km))))))))))))
 refine hK.out _ _ hHeld ?_
 clear hK K
 try simp only [Act.put]
 try simp only [List.setIfInBounds_toArray, List.set_cons_zero, List.set_cons_succ]
 clear hb
 refine stepNext (i := 9) (by kernel_rfl) rfl (by rfl) (fun K hK => ?_)
 have wone : (wldA (.slice (some ⟨w4.heap.size + 1 + 1, 0, none⟩) css.length css.length) M).all (·.oneCell') = true := wldA_one _
 refine wp_store_box 31 (.tmp 6) (.tmp 99) rfl _ _ rfl rfl ob (tyWorld.size.trans (congrArg some (wld_size km).symm)) (wld_size km).symm wone ?_
 intro w10 ob10 st10
 replace eb := st10.box eb (by omega)
 replace db := st10.box db (by omega)
 replace pb := st10.box pb (by omega)
 replace xb4 := st10.box xb4 (by omega)
 replace mb := st10.box mb (by omega)
 replace low := st10.low low (by omega)
 replace KF7 := Lib.hid (KF7.out.out st10 (.inl (by omega)))
 have s10 := st10.size
 clear hHeld
 have hHeld := (And.intro (pb.at_ 0 rfl) (And.intro (pb.at_ 1 rfl) (And.intro (pb.at_ 2 rfl) (And.intro (pb.at_ 3 rfl) (And.intro (db.at_ 1 rfl) (And.intro (xb4.at_ 0 rfl) (And.intro (xb4.at_ 1 rfl) (And.intro (xb4.at_ 2 rfl) (And.intro (xb4.at_ 3 rfl) (And.intro (xb4.at_ 4 rfl) (And.intro (xb4.at_ 5 rfl) (Mb.mk mb km))))))))))))
 refine hK.out _ _ hHeld ?_
 clear hK K
 try simp only [Act.put]
 try simp only [List.setIfInBounds_toArray, List.set_cons_zero, List.set_cons_succ]
 clear st10 ob
 refine stepNext (i := 10) (by kernel_rfl) rfl (by rfl) (fun K hK => ?_)
 refine wp_store_box 180 (.tmp 7) (.tmp 105) rfl _ _ rfl rfl eb (tyDone.size.trans rfl) rfl (done_one u f1 f2 f3 f4) ?_
 intro w11 eb11 st11
 replace ob10 := st11.box ob10 (by omega)
 replace db := st11.box db (by omega)
 replace pb := st11.box pb (by omega)
 replace xb4 := st11.box xb4 (by omega)
 replace mb := st11.box mb (by omega)
 replace low := st11.low low (by omega)
 replace KF7 := Lib.hid (KF7.out.out st11 (.inl (by omega)))
 have s11 := st11.size
 clear hHeld
 have hHeld := (And.intro (pb.at_ 0 rfl) (And.intro (pb.at_ 1 rfl) (And.intro (pb.at_ 2 rfl) (And.intro (pb.at_ 3 rfl) (And.intro (db.at_ 1 rfl) (And.intro (xb4.at_ 0 rfl) (And.intro (xb4.at_ 1 rfl) (And.intro (xb4.at_ 2 rfl) (And.intro (xb4.at_ 3 rfl) (And.intro (xb4.at_ 4 rfl) (And.intro (xb4.at_ 5 rfl) (Mb.mk mb km))))))))))))
 refine hK.out _ _ hHeld ?_
 clear hK K
 try simp only [Act.put]
 try simp only [List.setIfInBounds_toArray, List.set_cons_zero, List.set_cons_succ]
 clear st11 eb
 refine takeA 11 ?_ rfl ?_ ?_; rotate_left
 ·(intro w hSw; go_simp; try (with_reducible rfl))
 try simp only [Act.put, List.setIfInBounds_toArray, List.set_cons_zero, List.set_cons_succ]
 refine wpAnyH_done (by kernel_rfl) ?_ _
 refine NoPanic.normal ?_
 have KE2 := Lib.hid (KF7.out.more (B' := w.heap.size) (C' := w11.heap.size) (by omega) (by omega))
 clear hHeld KF7 KF
 go_wp2_with fail
 exact bodyPost_ret (v := .tuple #[wldV (.slice (some ⟨w4.heap.size + 1 + 1, 0, none⟩) css.length css.length) M, doneV u f1 f2 f3 f4, .int .i64 0]) (results_two tyWorld tyDone Tryz.results85 rfl rfl rfl ob10 (wld_size km) eb11 rfl) rfl ⟨⟨_, rfl, KE2.out⟩, low⟩
end Go.Proofs.YtcegjehoejgofaaGreat
namespace Go.Proofs.YtcegjehoejgofaaGreat
open Go.ChangeShapes Go.WideShapes Go.ChangeAt Go.RowKit Go.Joins
structure Plc (css : List (List St)) (d : Dd) (i0 L : Nat) : Prop where
 nd : d.nd = i0
 lt : i0 < css.length
 ln : L < 16
 ad : ∃ r, r < 4 ∧ d.ad = ((L * 4 + r : Nat) : Int)
structure Did (n s y b : Int) (css : List (List St)) (m : List Int) (d : Dd) (i0 L : Nat) (css' : List (List St)) (out : Wy) : Prop where
 len : css'.length = css.length
 own : ∃ al, (al = true ↔ ∀ i, i < css.length → i ≠ i0 → fnd (css.getD i []) L = none) ∧ OwnIs n s y b (css.getD i0 []) L d.kd al (l4 (doM (flatW css m) d) L) (css'.getD i0 []) out
 oth : ∀ i, i < css.length → i ≠ i0 → OtherIs n s y b (css.getD i []) L d.kd (css'.getD i [])
 ok : cohE n s y b css' (keepM m out) = 0
 flat : flatW css' (keepM m out) = doM (flatW css m) d
theorem plc_of {n s y b : Int} {css : List (List St)} {m : List Int} {d : Dd} (he : findE n s y b css m d = 0) : ∃ i0 L, Plc css d i0 L := by
 obtain ⟨h1, h2, h3⟩ := findE_ok he
 obtain ⟨⟨g1, g2, g3⟩, _⟩ := cohE_iff.1 h1
 obtain ⟨⟨k1, k2⟩, _, i, k3, k4⟩ := deedE_ok h2
 exact ⟨d.nd.toNat, i / 4, by omega, by omega, by omega, i % 4, by omega, by rw [k4]; congr 1; omega⟩
theorem alone_iff {n s y b : Int} {css : List (List St)} (hall : ∀ ss ∈ css, cacheE n s y b ss = 0) {L i0 : Nat} (hL : L < 16) : (!othB (nodesL (onL L (copN css css.length))) i0) = true ↔ ∀ i, i < css.length → i ≠ i0 → fnd (css.getD i []) L = none := by
 rw [onL_copN hall hL (Nat.le_refl _), Bool.not_eq_true']
 unfold othB nodesL
 rw [List.any_eq_false]
 constructor
 ·intro h i hi hne
  cases e : fnd (css.getD i []) L with
  | none => rfl
  | some x =>
   have := h (i : Int) (List.mem_map.2 ⟨⟨i, x⟩, mem_onF.2 ⟨i, x, hi, e, rfl⟩, rfl⟩)
   have e2 : (i : Int) = i0 := by simpa using this
   exact absurd (by omega) hne
 ·intro h x hx
  obtain ⟨c, hc, rfl⟩ := List.mem_map.1 hx
  obtain ⟨i, z, hi, hz, rfl⟩ := mem_onF.1 hc
  by_cases e : i = i0
  ·simp [e]
  ·rw [h i hi e] at hz
   cases hz
abbrev ownW (css : List (List St)) (L : Nat) : Int := ownN (onL L (copN css css.length))
def GaveW (_n _s _y _b : Int) (css : List (List St)) (m : List Int) (d : Dd) (i0 L : Nat) (css' : List (List St)) (out : Wy) (w : World) (e : Ending) (w' : World) : Prop :=
 (∃ v', e = .returned (.tuple #[wldV v' (keepM m out), doneV (doV (flatW css m) d) (locB (stO (fnd (css.getD i0 []) L)) d.kd) (if stO (fnd (css.getD i0 []) L) = 0 then ownW css L else -1) (if out.st ≠ 0 then out.ln else -1) (owB out.st), .int .i64 0]) ∧ KFr w' w.heap.size w'.heap.size v' css') ∧ Below w.heap.size w w'
theorem deedDo_is {n s y b : Int} {css : List (List St)} {m : List Int} {d : Dd} {i0 L : Nat} (hm : m.length = 64) (he : findE n s y b css m d = 0) (pl : Plc css d i0 L) :
  (d.kd = 4 ∧ fnd (css.getD i0 []) L = none ∧ ∀ v w, Ks w v css → Calls Tryz.prog 85 #[cfg n s y b, wldV v m, d.val] w fun e w' => e = .returned (.tuple #[.agg nilW, .agg done0, .int .i64 5]) ∧ Below w.heap.size w w') ∨
  (¬ (d.kd = 4 ∧ fnd (css.getD i0 []) L = none) ∧ ∃ css' out, Did n s y b css m d i0 L css' out ∧ ∀ v w, Ks w v css → Calls Tryz.prog 85 #[cfg n s y b, wldV v m, d.val] w (GaveW n s y b css m d i0 L css' out w)) := by
 obtain ⟨h1, h2, h3⟩ := findE_ok he
 obtain ⟨⟨g1, g2, g3⟩, g4⟩ := cohE_iff.1 h1
 obtain ⟨hnd, hlt, hL, r, hr, ha⟩ := pl
 have hkd := (deedE_ok h2).2.1
 have n8 : css.length ≤ 8 := by have := cfgB_iff.1 g1; omega
 have hx : css[i0]? = some css[i0] := List.getElem?_eq_getElem _
 have hxd : css.getD i0 [] = css[i0] := by simp [List.getD, hx]
 have hss := g3 _ (List.mem_of_getElem? hx)
 have hal := alone_iff g3 (i0 := i0) hL
 generalize hA : (!othB (nodesL (onL L (copN css css.length))) i0) = al at hal
 have hF : ∀ v w, Ks w v css → Calls Tryz.prog 106 #[cfg n s y b, wldV v m, d.val] w fun e w' => e = .returned (.tuple #[plcV L (stO (fnd (css.getD i0 []) L)) al (ownW css L), .int .i64 0]) ∧ Below w.heap.size w w' := fun v w h => by
  have := find_ok n s y b v m css d i0 L r w h hm he hnd hlt hL hr ha
  rwa [hA] at this
 have hP : ∀ v w, Ks w v css → _ := fun v w h => plain_ok n s y b v m css d L w h hm h1 h2 hL
 -- how the caches lie
 have open_ : ∀ v w, Ks w v css → ∃ bb o cp A' c', v = .slice (some ⟨bb, o, none⟩) css.length cp ∧ bb < w.heap.size ∧ css.length ≤ cp ∧ cp ≤ maxLen ∧ w.cell? ⟨bb, o + i0, none⟩ = some (.slice A' css[i0].length c') ∧ Cs w (.slice A' css[i0].length c') css[i0] := fun v w h => by
  obtain ⟨A, cp, rfl, k1, k2, k3⟩ := h
  obtain ⟨bb, o, rfl, hbb, hc⟩ := k3 (by omega)
  obtain ⟨A', c', ce, cs⟩ := hc i0 _ hx
  exact ⟨bb, o, cp, A', c', rfl, hbb, k1, k2, ce, cs⟩
 obtain ⟨dn, dk, da, dv⟩ := d
 simp only at hnd ha hkd
 subst hnd
 rcases ownCache_is n s y b css[i0] L dk al (ownW css L) (l4 (doM (flatW css m) ⟨i0, dk, da, dv⟩) L) hss hL hkd with ⟨k4, kn, O⟩ | ⟨hno, sa, out, own, O⟩
 ·left
  rw [hxd]
  refine ⟨k4, kn, fun v w h => ?_⟩
  obtain ⟨bb, o, cp, A', c', rfl, hbb, k1, k2, ce, cs⟩ := open_ v w h
  rw [hxd] at hF
  exact do_none n s y b m css i0 L dk da dv _ al (ownW css L) _ _ _ _ _ css[i0] w bb o cp c' A' h hm hlt hbb k1 k2 (Lib.hid ce) (Lib.hid cs) (Lib.hid (hF _)) (Lib.hid (hP _)) (Lib.hid O)
 ·right
  have oth := fun i (hi : i < css.length) => otherCache_is n s y b (css.getD i []) L dk (g3 _ (by simp only [List.getD, List.getElem?_eq_getElem hi, Option.getD_some]; exact List.getElem_mem _)) hL hkd
  obtain ⟨css', hcs'⟩ : ∃ css', css' = (List.range css.length).map fun i => if i = i0 then sa else if h : i < css.length then Classical.choose (oth i h) else [] := ⟨_, rfl⟩
  have len : css'.length = css.length := by rw [hcs', List.length_map, List.length_range]
  have get : ∀ i, i < css.length → css'.getD i [] = if i = i0 then sa else if h : i < css.length then Classical.choose (oth i h) else [] := fun i hi => by
   rw [hcs']
   simp [List.getD, hi]
  have g0 : css'.getD i0 [] = sa := by rw [get i0 hlt, if_pos rfl]
  have gi : ∀ i, i < css.length → i ≠ i0 → OtherIs n s y b (css.getD i []) L dk (css'.getD i []) ∧ ∀ v w, Cs w v (css.getD i []) → Calls Tryz.prog 138 #[cfg n s y b, v, .int .i64 dk, .int .i64 L] w (GaveC w (css.getD i []) (css'.getD i [])) := fun i hi hne => by
   rw [get i hi, if_neg hne, dif_pos hi]
   exact Classical.choose_spec (oth i hi)
  have hsa : css'[i0]? = some sa := by
   rw [← g0]
   simp [List.getD, show i0 < css'.length by omega]
  have own' : OwnIs n s y b (css.getD i0 []) L dk al (l4 (doM (flatW css m) ⟨i0, dk, da, dv⟩) L) (css'.getD i0 []) out := by rw [hxd, g0]; exact own
  have st := step_ok (r := r) hm h1 h2 hlt hr hL ha len hal (fun i hi hne => (gi i hi hne).1) own'
  refine ⟨by rw [hxd]; exact hno, css', out, ⟨len, ⟨al, hal, own'⟩, fun i hi hne => (gi i hi hne).1, st.1, st.2⟩, fun v w h => ?_⟩
  obtain ⟨bb, o, cp, A', c', rfl, hbb, k1, k2, ce, cs⟩ := open_ v w h
  unfold GaveW
  have hO : ∀ v w, Cs w v css[i0] → _ := fun v w hw => O v w hw
  rw [hxd] at hF ⊢
  exact do_walk n s y b m css i0 L dk da dv _ al (ownW css L) _ _ _ _ _ css[i0] sa css' out w bb o cp c' A' h hm hlt hbb k1 k2 (Lib.hid ce) (Lib.hid cs) (Lib.hid (hF _)) (Lib.hid (hP _)) (Lib.hid hO) hkd (fun ho => by
   obtain ⟨k, q1, q2, _⟩ := own.left (fun e => by rw [e] at ho; revert ho; decide)
   omega) n8 len hsa (Lib.hid fun w hw => otherCaches_ok n s y b _ css css' i0 ⟨i0, dk, da, dv⟩ rfl L w hw n8 len fun i hi hne => (gi i hi hne).2)
end Go.Proofs.YtcegjehoejgofaaGreat
namespace Go.Proofs.YtcegjehoejgofaaGreat
open Go.ChangeShapes Go.WideShapes Go.ChangeAt Go.RowKit Go.Joins
structure El (α : Type) where
 F : α → List Value
 sz : Nat
 t : TypeId
 len : ∀ x, (F x).length = sz
 pos : 0 < sz
 one : ∀ x, ∀ u ∈ F x, u.oneCell' = true
 size : (Tryz.prog.info? t).map (·.size) = some sz
section
variable {α : Type} (E : El α)
def El.C (l : List α) : List Value := l.flatMap E.F
theorem El.C_length (l : List α) : (E.C l).length = l.length * E.sz := by
 induction l with
 | nil => simp [El.C]
 | cons x r ih =>
  simp only [El.C, List.flatMap_cons, List.length_append, List.length_cons] at *
  rw [ih, E.len, Nat.succ_mul, Nat.add_comm]
theorem El.C_append (a b : List α) : E.C (a ++ b) = E.C a ++ E.C b := List.flatMap_append
theorem El.C_single (x : α) : E.C [x] = E.F x := by simp [El.C]
theorem El.C_snoc (l : List α) (x : α) : E.C (l ++ [x]) = E.C l ++ E.F x := by rw [E.C_append, E.C_single]
theorem El.C_one (l : List α) : ∀ u ∈ E.C l, u.oneCell' = true := by
 intro u hu
 simp only [El.C, List.mem_flatMap] at hu
 obtain ⟨x, _, hx⟩ := hu
 exact E.one x u hx
theorem El.C_at {l : List α} {k : Nat} {x : α} (h : l[k]? = some x) (j : Nat) (hj : j < E.sz) : (E.C l)[k * E.sz + j]? = (E.F x)[j]? := by
 induction l generalizing k with
 | nil => simp at h
 | cons y r ih =>
  have hy := E.len y
  simp only [El.C, List.flatMap_cons] at *
  cases k with
  | zero =>
   simp at h
   subst h
   rw [List.getElem?_append_left (by omega), Nat.zero_mul, Nat.zero_add]
  | succ k =>
   rw [List.getElem?_append_right (by rw [hy, Nat.succ_mul]; omega), hy]
   have : (k + 1) * E.sz + j - E.sz = k * E.sz + j := by rw [Nat.succ_mul]; omega
   rw [this]
   exact ih (by simpa using h)
def El.R (w : World) (v : Value) (l : List α) : Prop := Sl w w.heap.size E.sz v l.length (E.C l)
end
section
variable {α : Type} {E : El α} {w w' : World} {v : Value} {l : List α} {g : Nat}
theorem El.R.call (h : E.R w v l) (hb : Below w.heap.size w w') : E.R w' v l := Sl.call h hb
theorem El.R.alloc (h : E.R w v l) (o : Obj) : E.R (w.alloc o) v l := h.call (gAlloc (Below.refl _ _) o)
theorem El.R.shape (h : E.R w v l) : ∃ A c, v = .slice A l.length c := by
 obtain ⟨_, A, c, e, _⟩ := h
 exact ⟨A, c, e⟩
theorem El.R.at_ {b o B : Nat} {k : Nat} {x : α} (hc : ∀ j u, (E.C l)[j]? = some u → w.cell? ⟨b, o + j, none⟩ = some u) (hb : b < B) (low : Below B w w') (h : l[k]? = some x) (j : Nat) (u : Value) (hj : j < E.sz) (hu : (E.F x)[j]? = some u) :
  w'.cell? ⟨b, o + k * E.sz + j, none⟩ = some u := by
 refine (low.cell (p := ⟨b, o + k * E.sz + j, none⟩) hb).trans ?_
 rw [Nat.add_assoc]
 exact hc _ _ ((E.C_at h j hj).trans hu)
def El.Own (E : El α) (w : World) (g : Nat) (v : Value) (l : List α) : Prop :=
 ∃ cap cur, v = .slice (some ⟨g, 0, none⟩) l.length cap ∧ Box w g E.t cur ∧ l.length ≤ cap ∧ cap ≤ maxLen ∧ cur.size = cap * E.sz ∧ ∀ (q : Nat) (y : α), l[q]? = some y → ∀ r, r < E.sz → cur[q * E.sz + r]? = (E.F y)[r]?
theorem El.Own.lt (h : E.Own w g v l) : g < w.heap.size := by
 obtain ⟨_, _, _, hb, _⟩ := h
 exact hb.lt
theorem El.Own.call (h : E.Own w g v l) (hb : Below w.heap.size w w') : E.Own w' g v l := by
 obtain ⟨cap, cur, rfl, h1, h2⟩ := h
 exact ⟨cap, cur, rfl, h1.call hb, h2⟩
theorem El.Own.alloc (h : E.Own w g v l) (o : Obj) : E.Own (w.alloc o) g v l := h.call (gAlloc (Below.refl _ _) o)
theorem El.Own.drew (h : E.Own w g v l) : E.Own w.drew g v l := h
theorem El.Own.stored {x : Nat} (h : E.Own w g v l) (st : Stored w x w') (hne : g ≠ x) : E.Own w' g v l := by
 obtain ⟨cap, cur, rfl, h1, h2⟩ := h
 exact ⟨cap, cur, rfl, st.box h1 hne, h2⟩
theorem El.Own.grown {row : Option Nat} (h : E.Own w g v l) (hb : w.grownBy w' row) (hg : some g ≠ row) : E.Own w' g v l := by
 obtain ⟨cap, cur, rfl, h1, h2⟩ := h
 exact ⟨cap, cur, rfl, h1.grown hb hg, h2⟩
theorem El.Own.shape (h : E.Own w g v l) : ∃ c, v = .slice (some ⟨g, 0, none⟩) l.length c := by
 obtain ⟨c, _, e, _⟩ := h
 exact ⟨c, e⟩
theorem El.Own.row (h : E.Own w g v l) {base : Nat} (hg : base ≤ g) : w.ownsRow base E.t E.sz v l.length (E.C l) := by
 obtain ⟨cap, cur, rfl, hb, hn, hm, hs, ht⟩ := h
 refine ⟨E.C_length l, .inr ⟨g, cap, cur, rfl, hg, hb, hn, hm, hs, ?_⟩⟩
 apply List.ext_getElem?
 intro j
 have hp := E.pos
 have hle : l.length * E.sz ≤ cap * E.sz := Nat.mul_le_mul_right _ hn
 by_cases hj : j < l.length * E.sz
 ·rw [List.getElem?_take_of_lt hj, Array.getElem?_toList]
  have hq : j / E.sz < l.length := Nat.div_lt_of_lt_mul (by rw [Nat.mul_comm]; exact hj)
  have hr : j % E.sz < E.sz := Nat.mod_lt _ hp
  have hjq : j / E.sz * E.sz + j % E.sz = j := by rw [Nat.mul_comm]; exact Nat.div_add_mod j E.sz
  have h1 := ht (j / E.sz) l[j / E.sz] (List.getElem?_eq_getElem hq) (j % E.sz) hr
  have h2 := E.C_at (List.getElem?_eq_getElem hq) (j % E.sz) hr
  rw [hjq] at h1 h2
  rw [h1, h2]
 ·rw [List.getElem?_take_eq_none (by omega), List.getElem?_eq_none (by rw [E.C_length]; omega)]
theorem El.Own.of {base n : Nat} (h : w.ownsRow base E.t E.sz v n (E.C l)) (hn : n = l.length) (h0 : 0 < l.length) : ∃ g, base ≤ g ∧ E.Own w g v l := by
 subst hn
 obtain ⟨_, h2⟩ := h
 rcases h2 with ⟨_, e⟩ | ⟨g, cap, cur, rfl, hg, hh, hn, hm, hs, ht⟩
 ·omega
 ·refine ⟨g, hg, cap, cur, rfl, hh, hn, hm, hs, fun q y hq r hr => ?_⟩
  have hj := (List.getElem?_eq_some_iff.1 hq).1
  have hlt : q * E.sz + r < l.length * E.sz := by
   have : (q + 1) * E.sz ≤ l.length * E.sz := Nat.mul_le_mul_right _ hj
   rw [Nat.succ_mul] at this
   omega
  rw [← E.C_at hq r hr, ← ht, List.getElem?_take_of_lt hlt, Array.getElem?_toList]
theorem El.Own.r (h : E.Own w g v l) : E.R w v l := Sl.ofOwn (h.row (Nat.le_refl g))
theorem setCells_box {t : TypeId} : ∀ (vs : List Value) (o : Nat) {w : World} {cur : Array Value}, Box w g t cur → o + vs.length ≤ cur.size →
  ∃ cur', Box (w.setCells g o vs) g t cur' ∧ cur'.size = cur.size ∧ (∀ q, q < o ∨ o + vs.length ≤ q → cur'[q]? = cur[q]?) ∧ (∀ j, j < vs.length → cur'[o + j]? = vs[j]?) ∧ Stored w g (w.setCells g o vs)
 | [], o, w, cur, h, _ => ⟨cur, h, rfl, fun _ _ => rfl, fun j hj => absurd hj (Nat.not_lt_zero j), ⟨fun _ => rfl, rfl, fun h _ => h⟩⟩
 | v :: vs, o, w, cur, h, hl => by
  rw [List.length_cons] at hl
  obtain ⟨cur', h1, h2, h3, h4, h5⟩ := setCells_box vs (o + 1) (h.set o v) (by simp; omega)
  refine ⟨cur', h1, by rw [h2]; simp, fun q hq => ?_, fun j hj => ?_, (Stored.cell1 w ⟨g, o, none⟩ v).trans h5⟩
  ·rw [List.length_cons] at hq
   rw [h3 q (by omega), Array.getElem?_setIfInBounds, if_neg (by omega)]
  ·rw [List.length_cons] at hj
   cases j with
   | zero =>
    rw [Nat.add_zero, h3 o (by omega), Array.getElem?_setIfInBounds, if_pos rfl, if_pos (by omega)]
    rfl
   | succ j =>
    have := h4 j (by omega)
    rw [show o + (j + 1) = o + 1 + j by omega, this]
    rfl
end
end Go.Proofs.YtcegjehoejgofaaGreat
namespace Go.Proofs.YtcegjehoejgofaaGreat
open Go.ChangeShapes Go.WideShapes Go.ChangeAt Go.RowKit Go.Joins
structure Ev where
 d : Dd
 told : Int
 by_ : Bool
abbrev Ev.cells (x : Ev) : List Value := [.int .i64 x.d.nd, .int .i64 x.d.kd, .int .i64 x.d.ad, .int .u64 x.d.vl, .int .u64 x.told, .bool x.by_]
abbrev Ev.arr (x : Ev) : Array Value := #[.int .i64 x.d.nd, .int .i64 x.d.kd, .int .i64 x.d.ad, .int .u64 x.d.vl, .int .u64 x.told, .bool x.by_]
theorem info_event : (Tryz.prog.info? 51).map (fun i => (i.zero, i.size, i.bytes)) = some (some (.agg #[.int .i64 0, .int .i64 0, .int .i64 0, .int .u64 0, .int .u64 0, .bool false]), 6, 48) := by kernel_rfl
def elE : El Ev where
 F := Ev.cells
 sz := 6
 t := 51
 len := fun _ => rfl
 pos := by decide
 one := fun x u hu => by
  simp at hu
  rcases hu with rfl | rfl | rfl | rfl | rfl | rfl <;> rfl
 size := by kernel_rfl
structure EvAt (w : World) (b o : Nat) (x : Ev) : Prop where
 c0 : w.cell? ⟨b, o, none⟩ = some (.int .i64 x.d.nd)
 c1 : w.cell? ⟨b, o + 1, none⟩ = some (.int .i64 x.d.kd)
 c2 : w.cell? ⟨b, o + 2, none⟩ = some (.int .i64 x.d.ad)
 c3 : w.cell? ⟨b, o + 3, none⟩ = some (.int .u64 x.d.vl)
 c4 : w.cell? ⟨b, o + 4, none⟩ = some (.int .u64 x.told)
 c5 : w.cell? ⟨b, o + 5, none⟩ = some (.bool x.by_)
theorem evAt_of {w w' : World} {b o B : Nat} {l : List Ev} {k : Nat} {x : Ev} (hc : ∀ j u, (elE.C l)[j]? = some u → w.cell? ⟨b, o + j, none⟩ = some u) (hb : b < B) (low : Below B w w') (h : l[k]? = some x) : EvAt w' b (o + k * 6) x :=
 ⟨El.R.at_ hc hb low h 0 _ (show 0 < 6 by omega) rfl, El.R.at_ hc hb low h 1 _ (show 1 < 6 by omega) rfl, El.R.at_ hc hb low h 2 _ (show 2 < 6 by omega) rfl,
  El.R.at_ hc hb low h 3 _ (show 3 < 6 by omega) rfl, El.R.at_ hc hb low h 4 _ (show 4 < 6 by omega) rfl, El.R.at_ hc hb low h 5 _ (show 5 < 6 by omega) rfl⟩
end Go.Proofs.YtcegjehoejgofaaGreat
namespace Go.Proofs.YtcegjehoejgofaaGreat
open Go.ChangeShapes Go.WideShapes Go.ChangeAt Go.RowKit Go.Joins
structure Mc where
 n : Int
 s : Int
 y : Int
 b : Int
 css : List (List St)
 mem : List Int
 ring : List Sw
 pr : List (List Dd)
 at_ : List Int
 wts : List Int
 had : Int
def waitsB (l : List Int) : Bool := decide (l.length ≤ 20) && l.all waitB
def atsB (pr : List (List Dd)) (a : List Int) : Bool := (List.range a.length).all fun k => decide (0 ≤ a.getD k 0 ∧ a.getD k 0 ≤ ((pr.getD k []).length : Int))
def stuckB (M : Mc) : Bool := (List.range M.at_.length).any fun k => decide (M.at_.getD k 0 = ((M.pr.getD k []).length : Int)) && filB M.ring k
def mcE (M : Mc) : Int :=
 if cohE M.n M.s M.y M.b M.css M.mem ≠ 0 then cohE M.n M.s M.y M.b M.css M.mem
 else if ringE M.n M.s M.y M.b M.ring ≠ 0 then ringE M.n M.s M.y M.b M.ring
 else if progsE M.n M.s M.y M.b M.pr ≠ 0 then progsE M.n M.s M.y M.b M.pr
 else if (M.at_.length : Int) ≠ M.n then 3
 else if atsB M.pr M.at_ = false then 4
 else if waitsB M.wts = false ∨ M.had < 0 ∨ 1000000 < M.had then 4
 else if stuckB M = true then 3 else 0
structure McOk (M : Mc) : Prop where
 coh : cohE M.n M.s M.y M.b M.css M.mem = 0
 rng : ringE M.n M.s M.y M.b M.ring = 0
 prg : progsE M.n M.s M.y M.b M.pr = 0
 len : (M.at_.length : Int) = M.n
 ats : ∀ (k : Nat) x l, M.at_[k]? = some x → M.pr[k]? = some l → 0 ≤ x ∧ x ≤ l.length
 wts : waitsB M.wts = true
 had : 0 ≤ M.had ∧ M.had ≤ 1000000
 run : ∀ (k : Nat) x l, M.at_[k]? = some x → M.pr[k]? = some l → filB M.ring k = true → x < l.length
theorem McOk.prs {M : Mc} (h : McOk M) : M.pr.length = M.at_.length := by
 have := (progsE_zero h.prg).2.1
 have := h.len
 omega
theorem McOk.cfg {M : Mc} (h : McOk M) : cfgB M.n M.s M.y M.b = true := (progsE_zero h.prg).1
theorem McOk.nodes {M : Mc} (h : McOk M) : 2 ≤ M.n ∧ M.n ≤ 8 := by
 have := cfgB_iff.1 h.cfg
 omega
theorem mcE_zero {M : Mc} : mcE M = 0 ↔ McOk M := by
 have gd : ∀ {α : Type} {l : List α} {k : Nat} {x z : α}, l[k]? = some x → l.getD k z = x := fun h => by simp [List.getD, h]
 constructor
 ·intro h
  unfold mcE at h
  by_cases h1 : cohE M.n M.s M.y M.b M.css M.mem ≠ 0
  ·rw [if_pos h1] at h; exact absurd h h1
  rw [if_neg h1] at h
  by_cases h2 : ringE M.n M.s M.y M.b M.ring ≠ 0
  ·rw [if_pos h2] at h; exact absurd h h2
  rw [if_neg h2] at h
  by_cases h3 : progsE M.n M.s M.y M.b M.pr ≠ 0
  ·rw [if_pos h3] at h; exact absurd h h3
  rw [if_neg h3] at h
  by_cases h4 : (M.at_.length : Int) ≠ M.n
  ·rw [if_pos h4] at h; cases h
  rw [if_neg h4] at h
  by_cases h5 : atsB M.pr M.at_ = false
  ·rw [if_pos h5] at h; cases h
  rw [if_neg h5] at h
  by_cases h6 : waitsB M.wts = false ∨ M.had < 0 ∨ 1000000 < M.had
  ·rw [if_pos h6] at h; cases h
  rw [if_neg h6] at h
  by_cases h7 : stuckB M = true
  ·rw [if_pos h7] at h; cases h
  have h5' : atsB M.pr M.at_ = true := by simpa using h5
  unfold atsB at h5'
  rw [List.all_eq_true] at h5'
  have ats : ∀ (k : Nat) x l, M.at_[k]? = some x → M.pr[k]? = some l → 0 ≤ x ∧ x ≤ (l.length : Int) := fun k x l hx hl => by
   have := h5' k (by have := (List.getElem?_eq_some_iff.1 hx).1; simpa using this)
   rw [decide_eq_true_eq, gd hx, gd hl] at this
   exact this
  refine ⟨by simpa using h1, by simpa using h2, by simpa using h3, by simpa using h4, ats, ?_, by omega, fun k x l hx hl hf => ?_⟩
  ·cases e : waitsB M.wts
   ·exact absurd (.inl e) h6
   ·rfl
  ·have := ats k x l hx hl
   by_cases c : x < l.length
   ·exact c
   ·refine absurd ?_ h7
    unfold stuckB
    rw [List.any_eq_true]
    refine ⟨k, by have := (List.getElem?_eq_some_iff.1 hx).1; simpa using this, ?_⟩
    rw [gd hx, gd hl, hf, Bool.and_true, decide_eq_true_eq]
    omega
 ·intro h
  have hp := h.prs
  unfold mcE
  rw [if_neg (by simpa using h.coh), if_neg (by simpa using h.rng), if_neg (by simpa using h.prg), if_neg (by simpa using h.len)]
  have at_some : ∀ k, k < M.at_.length → ∃ x l, M.at_[k]? = some x ∧ M.pr[k]? = some l := fun k hk => ⟨_, _, List.getElem?_eq_getElem hk, List.getElem?_eq_getElem (by omega)⟩
  have h5 : atsB M.pr M.at_ = true := by
   unfold atsB
   rw [List.all_eq_true]
   intro k hk
   obtain ⟨x, l, hx, hl⟩ := at_some k (by simpa using hk)
   rw [decide_eq_true_eq, gd hx, gd hl]
   exact h.ats k x l hx hl
  rw [if_neg (by rw [h5]; simp), if_neg (by have := h.had; have := h.wts; rintro (h | h | h) <;> first | omega | (rw [h] at this; cases this)), if_neg ?_]
  intro hs
  unfold stuckB at hs
  rw [List.any_eq_true] at hs
  obtain ⟨k, hk, e⟩ := hs
  obtain ⟨x, l, hx, hl⟩ := at_some k (by simpa using hk)
  rw [gd hx, gd hl, Bool.and_eq_true, decide_eq_true_eq] at e
  have := h.run k x l hx hl e.2
  omega
abbrev DidF := Int → Int → Int → Int → List (List St) → List Int → Dd → List (List St) × List Int
def lineN (d : Dd) : Nat := (d.ad / 4).toNat
def idleB (css : List (List St)) (d : Dd) : Bool := d.kd == 4 && (fnd (css.getD d.nd.toNat []) (lineN d)).isNone
def hitB (css : List (List St)) (d : Dd) : Bool := locB (stO (fnd (css.getD d.nd.toNat []) (lineN d))) d.kd
def opAt (M : Mc) (k : Nat) : Option Dd := (M.pr[k]?).bind fun l => (M.at_[k]?).bind fun x => l[x.toNat]?
def waitM (M : Mc) : Int := if M.wts.length = 0 then 0 else M.wts.getD (M.had % M.wts.length).toNat 0
def perf (D : DidF) (M : Mc) (k : Nat) (d : Dd) : Mc :=
 if idleB M.css d = true then { M with at_ := M.at_.set k (M.at_.getD k 0 + 1) }
 else { M with at_ := M.at_.set k (M.at_.getD k 0 + 1), css := (D M.n M.s M.y M.b M.css M.mem d).1, mem := (D M.n M.s M.y M.b M.css M.mem d).2 }
def perfE (M : Mc) (bb : Bool) (d : Dd) : Ev := ⟨d, if idleB M.css d = true then 0 else doV (flatW M.css M.mem) d, bb⟩
def backS (D : DidF) (S : Mc × List Ev) (k : Nat) : Mc × List Ev := match opAt S.1 k with
 | some d => (perf D S.1 k d, S.2 ++ [perfE S.1 true d])
 | none => S
def turnS (D : DidF) (was : List Nat) (S : Mc × List Ev) (k : Nat) : Mc × List Ev :=
 if k ∈ was ∨ filB S.1.ring k = true then S else match opAt S.1 k with
  | none => S
  | some d => if idleB S.1.css d = true ∨ hitB S.1.css d = true then (perf D S.1 k d, S.2 ++ [perfE S.1 false d])
   else if S.1.ring.any (freS k) = true then ({ S.1 with ring := putR S.1.ring k (waitM S.1), had := S.1.had + 1 }, S.2) else S
def backN (M : Mc) : List Nat := (List.range M.n.toNat).filter fun (k : Nat) => decide ((k : Int) ∈ backL M.n M.ring)
def advM (M : Mc) : Mc := { M with ring := M.ring.map (advS M.n) }
def cycM (D : DidF) (M : Mc) : Mc × List Ev := (List.range M.n.toNat).foldl (turnS D (backN M)) ((backN M).foldl (backS D) (advM M, []))
def DidOk (D : DidF) : Prop := ∀ (n s y b : Int) (css : List (List St)) (m : List Int) (d : Dd), m.length = 64 → findE n s y b css m d = 0 → idleB css d = false →
 cohE n s y b (D n s y b css m d).1 (D n s y b css m d).2 = 0 ∧ (D n s y b css m d).2.length = 64 ∧ flatW (D n s y b css m d).1 (D n s y b css m d).2 = doM (flatW css m) d
end Go.Proofs.YtcegjehoejgofaaGreat
namespace Go.Proofs.YtcegjehoejgofaaGreat
open Go.ChangeShapes Go.WideShapes Go.ChangeAt Go.RowKit Go.Joins
end Go.Proofs.YtcegjehoejgofaaGreat
namespace Go.Proofs.YtcegjehoejgofaaGreat
open Go.ChangeShapes Go.WideShapes Go.ChangeAt Go.RowKit Go.Joins
end Go.Proofs.YtcegjehoejgofaaGreat
namespace Go.Proofs.YtcegjehoejgofaaGreat
open Go.ChangeShapes Go.WideShapes Go.ChangeAt Go.RowKit Go.Joins
end Go.Proofs.YtcegjehoejgofaaGreat
