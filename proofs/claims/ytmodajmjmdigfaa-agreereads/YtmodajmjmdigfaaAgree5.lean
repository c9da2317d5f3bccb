/-
Proved: what Holders and Flat of package agree return, for every world that can be read; they change nothing that was there. No condition.
-/
import Derived.Test.YtmodajmjmdigfaaAgree4
namespace Go.Proofs.Ytmodajmjmdigfaa
open Go.ChangeShapes Go.WideShapes Go.ChangeAt Go.RowKit Go.Joins


/-- The nodes of the copies. -/
def nodesL (l : List Cp) : List Int := l.map fun c => c.nd
theorem nodesL_succ {l : List Cp} {j : Nat} {c : Cp} (h : l[j]? = some c) : nodesL (l.take (j + 1)) = nodesL (l.take j) ++ [c.nd] := by
  obtain ⟨hj, rfl⟩ := List.getElem?_eq_some_iff.1 h
  unfold nodesL
  rw [List.take_succ_eq_append_getElem hj, List.map_append]
  rfl
theorem nodesL_length (l : List Cp) : (nodesL l).length = l.length := by simp [nodesL]

set_option maxHeartbeats 1000000 in
theorem holders_bad (n s y b : Int) (v : Value) (m : List Int) (css : List (List St)) (k : Int) (w : World) (h : Ks w v css) (hm : m.length = 64) (he : cohE n s y b css m ≠ 0) :
    Calls Try.prog 37 #[cfg n s y b, wldV v m, .int .i64 k] w fun e w' => e = .returned (.tuple #[.slice none 0 0, .int .i64 0, .int .i64 (cohE n s y b css m)]) ∧ Below w.heap.size w w' := by
  have F := Lib.hid fun w hw => coherent_bad n s y b v m css w hw hm he
  generalize cohE n s y b css m = E at F he ⊢
  generalize cohL n s y b css m = L at F
  have he' : (E != 0) = true := by simpa using he
  clear he
  have low := Below.refl w.heap.size w
  have cb := boxNext low 44 (cfgA n s y b)
  replace low := gAlloc low (.cells (cfgA n s y b) 44)
  replace h := h.alloc (.cells (cfgA n s y b) 44)
  try simp only [World.size_alloc] at cb
  have wb := boxNext low 79 (wldA v m)
  replace low := gAlloc low (.cells (wldA v m) 79)
  replace cb := cb.alloc (.cells (wldA v m) 79)
  replace h := h.alloc (.cells (wldA v m) 79)
  try simp only [World.size_alloc] at wb
  have wr := wb.range
  go_enter Try.func37, Try.ntmps37
  go_wp2_with (first | ((with_reducible refine wp_loadW (tyWorld) (wr) (wld_size hm) ?_ ?_ ?_); rfl; rfl))
  (with_reducible refine (F.out _ h).mono ?_); rintro e w1 ⟨rfl, hb⟩
  replace low := gCall low hb
  clear hb cb wb wr
  have hb := boxNext low 112 nil16
  replace low := gAlloc low (.cells nil16 112)
  try simp only [World.size_alloc] at hb
  go_wp2_with (first | (with_reducible refine wp_newW (tyCopies) ?_) | ((with_reducible refine wp_freshW (tyCopies) (rfl) (rfl) (nil16_one) ?_ ?_ ?_); rfl; rfl))
  go_ret3
  exact ⟨rfl, low⟩
set_option maxHeartbeats 1000000 in
theorem holders_out (n s y b : Int) (v : Value) (m : List Int) (css : List (List St)) (k : Int) (w : World) (h : Ks w v css) (hm : m.length = 64) (he : cohE n s y b css m = 0) (hk : k < 0 ∨ 15 < k) :
    Calls Try.prog 37 #[cfg n s y b, wldV v m, .int .i64 k] w fun e w' => e = .returned (.tuple #[.slice none 0 0, .int .i64 0, .int .i64 4]) ∧ Below w.heap.size w w' := by
  have F := Lib.hid fun w hw => coherent_ok n s y b v m css w hw hm he
  have R := Lib.hid fun w => bankRead_out m k hk w
  clear he hk
  have low := Below.refl w.heap.size w
  have cb := boxNext low 44 (cfgA n s y b)
  replace low := gAlloc low (.cells (cfgA n s y b) 44)
  replace h := h.alloc (.cells (cfgA n s y b) 44)
  try simp only [World.size_alloc] at cb
  have wb := boxNext low 79 (wldA v m)
  replace low := gAlloc low (.cells (wldA v m) 79)
  replace cb := cb.alloc (.cells (wldA v m) 79)
  replace h := h.alloc (.cells (wldA v m) 79)
  try simp only [World.size_alloc] at wb
  have wr := wb.range
  go_enter Try.func37, Try.ntmps37
  go_wp2_with (first | ((with_reducible refine wp_loadW (tyWorld) (wr) (wld_size hm) ?_ ?_ ?_); rfl; rfl))
  (with_reducible refine (F.out _ h).mono ?_); rintro e w1 ⟨⟨us, rfl, hds⟩, hb⟩
  replace wb := wb.call hb
  replace low := gCall low hb
  clear hb cb wr
  have u16 := hds.size
  have one := hds.one
  have hb := boxNext low 112 us.toArray
  replace low := gAlloc low (.cells us.toArray 112)
  replace wb := wb.alloc (.cells us.toArray 112)
  try simp only [World.size_alloc] at hb
  have wm := wld_mem wb
  go_wp2_with (first | (with_reducible refine wp_newW (tyCopies) ?_) | ((with_reducible refine wp_freshW (tyCopies) (rfl) (u16) (one) ?_ ?_ ?_); rfl; rfl) | ((with_reducible refine wp_loadW (tyMem) (wm) (mem_zsize hm) ?_ ?_ ?_); rfl; rfl))
  (with_reducible refine (R.out _).mono ?_); rintro e w2 ⟨rfl, hb2⟩
  replace low := gCall low hb2
  clear hb2 wm wb hb
  have lb := boxNext low 30 ln0
  replace low := gAlloc low (.cells ln0 30)
  try simp only [World.size_alloc] at lb
  go_wp2_with fail
  go_ret3
  exact ⟨rfl, low⟩
set_option maxRecDepth 10000 in
set_option maxHeartbeats 2000000 in
theorem holders_ok (n s y b : Int) (v : Value) (m : List Int) (css : List (List St)) (k : Nat) (w : World) (h : Ks w v css) (hm : m.length = 64) (he : cohE n s y b css m = 0) (hk : k < 16) (h128 : (onL k (copN css css.length)).length ≤ 128) :
    Calls Try.prog 37 #[cfg n s y b, wldV v m, .int .i64 k] w fun e w' => (∃ A c, e = .returned (.tuple #[.slice A (nodesL (onL k (copN css css.length))).length c, .int .i64 (ownN (onL k (copN css css.length))), .int .i64 0]) ∧
      Sl w' w'.heap.size 1 (.slice A (nodesL (onL k (copN css css.length))).length c) (nodesL (onL k (copN css css.length))).length ((nodesL (onL k (copN css css.length))).map (Value.int .i64))) ∧ Below w.heap.size w w' := by
  have F := Lib.hid fun w hw => coherent_ok n s y b v m css w hw hm he
  have R := Lib.hid fun w => bankRead_ok m hm k hk w
  clear he
  generalize copN css css.length = P at F h128 ⊢
  generalize hl0 : onL k P = l at h128 ⊢
  have HL := Lib.hid hl0
  clear hl0
  obtain ⟨i0, hi, hz0, hz1, hz2⟩ := info_parts info_int
  have HI := Lib.hid hi
  have HZ := Lib.hid (And.intro hz0 (And.intro hz1 hz2))
  clear hi hz0 hz1 hz2
  have low := Below.refl w.heap.size w
  have cb := boxNext low 44 (cfgA n s y b)
  replace low := gAlloc low (.cells (cfgA n s y b) 44)
  replace h := h.alloc (.cells (cfgA n s y b) 44)
  try simp only [World.size_alloc] at cb
  have wb := boxNext low 79 (wldA v m)
  replace low := gAlloc low (.cells (wldA v m) 79)
  replace cb := cb.alloc (.cells (wldA v m) 79)
  replace h := h.alloc (.cells (wldA v m) 79)
  try simp only [World.size_alloc] at wb
  have wr := wb.range
  go_enter Try.func37, Try.ntmps37
  go_wp2_with (first | ((with_reducible refine wp_loadW (tyWorld) (wr) (wld_size hm) ?_ ?_ ?_); rfl; rfl))
  (with_reducible refine (F.out _ h).mono ?_); rintro e w1 ⟨⟨us, rfl, hds⟩, hb⟩
  replace wb := wb.call hb
  replace low := gCall low hb
  clear hb cb wr
  have u16 := hds.size
  have one := hds.one
  have hb := boxNext low 112 us.toArray
  replace low := gAlloc low (.cells us.toArray 112)
  replace wb := wb.alloc (.cells us.toArray 112)
  replace hds := hds.alloc (.cells us.toArray 112)
  try simp only [World.size_alloc] at hb
  have wm := wld_mem wb
  go_wp2_with (first | (with_reducible refine wp_newW (tyCopies) ?_) | ((with_reducible refine wp_freshW (tyCopies) (rfl) (u16) (one) ?_ ?_ ?_); rfl; rfl) | ((with_reducible refine wp_loadW (tyMem) (wm) (mem_zsize hm) ?_ ?_ ?_); rfl; rfl))
  (with_reducible refine (R.out _).mono ?_); rintro e w2 ⟨rfl, hb2⟩
  replace hb := hb.call hb2
  replace hds := hds.call hb2
  replace low := gCall low hb2
  clear hb2 wm wb
  have hu : us[k]? = some (us[k]'(by have := hds.len; omega)) := List.getElem?_eq_getElem _
  generalize us[k]'(by have := hds.len; omega) = u at hu
  have cps := hds.cps k u hu
  rw [HL.out] at cps
  have hcu : us.toArray[k]? = some u := by rw [List.getElem?_toArray]; exact hu
  obtain ⟨A, c, rfl⟩ : ∃ A c, u = .slice A l.length c := by obtain ⟨_, A, c, e, _⟩ := cps; exact ⟨A, c, e⟩
  have OW := Lib.hid fun w hw => ownerOf_any (.slice A l.length c) l w hw
  clear hu hds R F
  have z2 := hb.lt
  have lb := boxNext low 30 #[.int .u64 (wd m (k * 4)), .int .u64 (wd m (k * 4 + 1)), .int .u64 (wd m (k * 4 + 2)), .int .u64 (wd m (k * 4 + 3))]
  replace low := gAlloc low (.cells #[.int .u64 (wd m (k * 4)), .int .u64 (wd m (k * 4 + 1)), .int .u64 (wd m (k * 4 + 2)), .int .u64 (wd m (k * 4 + 3))] 30)
  replace hb := hb.alloc (.cells #[.int .u64 (wd m (k * 4)), .int .u64 (wd m (k * 4 + 1)), .int .u64 (wd m (k * 4 + 2)), .int .u64 (wd m (k * 4 + 3))] 30)
  replace cps := cps.alloc (.cells #[.int .u64 (wd m (k * 4)), .int .u64 (wd m (k * 4 + 1)), .int .u64 (wd m (k * 4 + 2)), .int .u64 (wd m (k * 4 + 3))] 30)
  try simp only [World.size_alloc] at lb
  have hc0 := hb.at_ k hcu
  have k0 : (0 : Int) ≤ k := by omega
  have k1 : (k : Int) < 16 := by omega
  have CPS := Lib.hid cps
  obtain ⟨hl, A2, cx, e2, h1, h2, h3⟩ := cps
  cases e2
  have H3 := Lib.hid h3
  unfold maxLen at h2
  clear hl h3
  go_wp2_with fail
  clear hc0
  generalize hW : w2.alloc (.cells #[.int .u64 (wd m (k * 4)), .int .u64 (wd m (k * 4 + 1)), .int .u64 (wd m (k * 4 + 2)), .int .u64 (wd m (k * 4 + 3))] 30) = W at *
  have z3 : w1.heap.size < W.heap.size := hb.lt
  have LOW := Lib.hid low
  have lo := low.size
  go_loopw [14, 41] (fun s i wr => ∃ j : Nat, j ≤ l.length ∧ i = .int .i64 j ∧ wr.ownsRow W.heap.size 3 1 s j ((nodesL (l.take j)).map (Value.int .i64)) ∧ Below W.heap.size W wr) (fun _ i _ => l.length - (intOf i).toNat)
  case atStart => exact ⟨0, Nat.zero_le _, rfl, World.ownsRow_nil _ _ _ _, Below.refl _ _⟩
  case round =>
    clear low
    obtain ⟨j, hj, rfl, own, low⟩ := hrel
    obtain ⟨As, cs, rfl⟩ := own_shape own
    by_cases hlt : j < l.length
    · obtain ⟨bb, o, rfl, hbb, hc⟩ := H3.out (by omega)
      have hx : l[j]? = some l[j] := List.getElem?_eq_getElem _
      generalize l[j] = x at hx
      obtain ⟨c0, c1, c2, c3, c4, c5, c6⟩ := cpAt_of hc hbb low hx
      have NS := Lib.hid (nodesL_succ hx)
      clear hx hc
      have j1 : (j : Int) < l.length := by omega
      have lz := low.size
      have xb := boxNext low 118 x.box
      replace low := gAlloc low (.cells x.box 118)
      try simp only [World.size_alloc] at xb
      simp only [Cp.box] at xb
      replace own := own.alloc (.cells x.box 118)
      simp only [Cp.box] at own
      have xb_0 := xb.at_ 0 rfl
      go_wp2_with (at_builtin; refine wpList_append_own _ rfl _ _ 82 rfl W.heap.size 3 i0 (.int .i64 0) 1 8 Try.underlying82 HI.out HZ.out.1 HZ.out.2.1 HZ.out.2.2 rfl (by decide) _ _ _ rfl (own.alloc _) ⟨wr.heap.size + 1, 0, none⟩ 1 1 [.int .i64 x.nd] rfl rfl ?c1 ?c2 ?c3 ?c4 ?c5 ?_)
      case c1 =>
        intro q u hq
        match q, hq with
        | 0, hq => simp at hq; subst hq; simp [Addr.add]
      case c2 => intro u hu; simp at hu; subst hu; rfl
      case c3 => unfold maxLen; omega
      case c4 => omega
      case c5 => simp; omega
      intro v4 w4 own4 grow4 _
      obtain ⟨A4, c4', rfl⟩ := own_shape own4
      have low4 : Below W.heap.size W w4 := (gAlloc low _).grown grow4 (by simp; omega) (fun g e => by have := own.lt _ e; omega)
      clear xb_0
      clear grow4 own c0 c1 c2 c3 c4 c5 c6 xb low
      have O4 := Lib.hid own4
      clear own4
      go_wp2_with fail
      go_roundw
      case rel => exact ⟨j + 1, by omega, by go_num, by rw [NS.out, List.map_append]; exact O4.out, low4⟩
      case measure => simp [intOf]; omega
    · obtain rfl : j = l.length := by omega
      rw [List.take_length] at own
      have hc1 := (hb.call low).at_ k hcu
      have OWN := Lib.hid own
      clear own
      go_wp2_with fail
      (with_reducible refine (OW.out _ (CPS.out.call low)).mono ?_); rintro e w5 ⟨rfl, hb5⟩
      have sl := Lib.hid ((Sl.ofOwn OWN.out).call hb5)
      have LO := Lib.hid (gCall (gCall LOW.out low) hb5)
      clear OWN hc1 low hb5
      go_wp2_with fail
      go_ret3
      rw [nodesL_length]
      exact ⟨⟨_, _, rfl, sl.out⟩, LO.out⟩

/-- The memory whose first lines are as every node would read them. -/
def flatN (P : List Cp) (m : List Int) : Nat → List Int
  | 0 => zeroL
  | k + 1 => writeL (flatN P m k) k (valL (onL k P) (l4 m k)).a (valL (onL k P) (l4 m k)).b (valL (onL k P) (l4 m k)).c (valL (onL k P) (l4 m k)).d
theorem flatN_length (P : List Cp) (m : List Int) : ∀ k, (flatN P m k).length = 64
  | 0 => zeroL_length
  | k + 1 => by rw [flatN, writeL_length]; exact flatN_length P m k
theorem wd_set (l : List Int) (i j : Nat) (x : Int) (hi : i < l.length) : wd (l.set i x) j = if i = j then x else wd l j := by
  unfold wd
  by_cases e : i = j
  · subst e; rw [if_pos rfl]; simp [List.getD, hi]
  · rw [if_neg e]; simp [List.getD, List.getElem?_set_ne e]
theorem wd_write (l : List Int) (hl : l.length = 64) (k : Nat) (hk : k < 16) (a b c d : Int) (i : Nat) : wd (writeL l k a b c d) i = if k * 4 + 3 = i then d else if k * 4 + 2 = i then c else if k * 4 + 1 = i then b else if k * 4 = i then a else wd l i := by
  unfold writeL
  rw [wd_set _ _ _ _ (by simp only [List.length_set]; omega), wd_set _ _ _ _ (by simp only [List.length_set]; omega), wd_set _ _ _ _ (by simp only [List.length_set]; omega), wd_set _ _ _ _ (by omega)]
theorem l4_write (l : List Int) (hl : l.length = 64) (k : Nat) (hk : k < 16) (x : L4) (j : Nat) : l4 (writeL l k x.a x.b x.c x.d) j = if j = k then x else l4 l j := by
  unfold l4
  rw [wd_write l hl k hk, wd_write l hl k hk, wd_write l hl k hk, wd_write l hl k hk]
  by_cases e : j = k
  · subst e
    rw [if_pos rfl, if_neg (by omega), if_neg (by omega), if_neg (by omega), if_pos rfl, if_neg (by omega), if_neg (by omega), if_pos rfl, if_neg (by omega), if_pos rfl, if_pos rfl]
  · rw [if_neg e, if_neg (by omega), if_neg (by omega), if_neg (by omega), if_neg (by omega), if_neg (by omega), if_neg (by omega), if_neg (by omega), if_neg (by omega), if_neg (by omega), if_neg (by omega), if_neg (by omega), if_neg (by omega), if_neg (by omega), if_neg (by omega), if_neg (by omega), if_neg (by omega)]
theorem flatN_at (P : List Cp) (m : List Int) : ∀ k, k ≤ 16 → ∀ j, j < k → l4 (flatN P m k) j = valL (onL j P) (l4 m j)
  | 0, _, j, hj => absurd hj (by omega)
  | k + 1, hk, j, hj => by
    rw [flatN, l4_write _ (flatN_length P m k) k (by omega)]
    by_cases e : j = k
    · subst e; rw [if_pos rfl]
    · rw [if_neg e]; exact flatN_at P m k (by omega) j (by omega)

set_option maxHeartbeats 1000000 in
theorem flat_bad (n s y b : Int) (v : Value) (m : List Int) (css : List (List St)) (w : World) (h : Ks w v css) (hm : m.length = 64) (he : cohE n s y b css m ≠ 0) :
    Calls Try.prog 40 #[cfg n s y b, wldV v m] w fun e w' => e = .returned (.tuple #[memV zeroL, .int .i64 (cohE n s y b css m)]) ∧ Below w.heap.size w w' := by
  have F := Lib.hid fun w hw => coherent_bad n s y b v m css w hw hm he
  generalize cohE n s y b css m = E at F he ⊢
  generalize cohL n s y b css m = L at F
  have he' : (E != 0) = true := by simpa using he
  clear he
  have low := Below.refl w.heap.size w
  have cb := boxNext low 44 (cfgA n s y b)
  replace low := gAlloc low (.cells (cfgA n s y b) 44)
  replace h := h.alloc (.cells (cfgA n s y b) 44)
  try simp only [World.size_alloc] at cb
  have wb := boxNext low 79 (wldA v m)
  replace low := gAlloc low (.cells (wldA v m) 79)
  replace cb := cb.alloc (.cells (wldA v m) 79)
  replace h := h.alloc (.cells (wldA v m) 79)
  try simp only [World.size_alloc] at wb
  have ob := boxNext low 77 (memA zeroL)
  replace low := gAlloc low (.cells (memA zeroL) 77)
  replace cb := cb.alloc (.cells (memA zeroL) 77)
  replace wb := wb.alloc (.cells (memA zeroL) 77)
  replace h := h.alloc (.cells (memA zeroL) 77)
  try simp only [World.size_alloc] at ob
  have wr := wb.range
  go_enter Try.func40, Try.ntmps40
  go_wp2_with (first | (with_reducible refine wp_newW (tyMem) ?_) | ((with_reducible refine wp_loadW (tyWorld) (wr) (wld_size hm) ?_ ?_ ?_); rfl; rfl))
  (with_reducible refine (F.out _ h).mono ?_); rintro e w1 ⟨rfl, hb⟩
  replace ob := ob.call hb
  replace low := gCall low hb
  clear hb cb wb wr
  have z1 := ob.lt
  have hb := boxNext low 112 nil16
  replace low := gAlloc low (.cells nil16 112)
  replace ob := ob.alloc (.cells nil16 112)
  try simp only [World.size_alloc] at hb
  go_wp2_with (first | (with_reducible refine wp_newW (tyCopies) ?_) | ((with_reducible refine wp_freshW (tyCopies) (rfl) (rfl) (nil16_one) ?_ ?_ ?_); rfl; rfl) | (with_reducible refine wp_zeroW (tyMem) ?_) | ((with_reducible refine wp_storeW (tyMem) (ob) (rfl) (rfl) (memA_one _) ?_ ?_ ?_); rfl; rfl))
  intro w2 ob2 st
  replace low := st.low low (by omega)
  clear ob st
  go_wp2_with fail
  exact bodyPost_ret (v := .tuple #[memV zeroL, .int .i64 E]) (results_first tyMem Try.results40 rfl rfl ob2 rfl) rfl ⟨rfl, low⟩

set_option maxRecDepth 10000 in
set_option maxHeartbeats 2000000 in
theorem flat_ok (n s y b : Int) (v : Value) (m : List Int) (css : List (List St)) (w : World) (h : Ks w v css) (hm : m.length = 64) (he : cohE n s y b css m = 0) :
    Calls Try.prog 40 #[cfg n s y b, wldV v m] w fun e w' => e = .returned (.tuple #[memV (flatN (copN css css.length) m 16), .int .i64 0]) ∧ Below w.heap.size w w' := by
  have F := Lib.hid fun w hw => coherent_ok n s y b v m css w hw hm he
  clear he
  generalize copN css css.length = P at F ⊢
  have low := Below.refl w.heap.size w
  have cb := boxNext low 44 (cfgA n s y b)
  replace low := gAlloc low (.cells (cfgA n s y b) 44)
  replace h := h.alloc (.cells (cfgA n s y b) 44)
  try simp only [World.size_alloc] at cb
  have wb := boxNext low 79 (wldA v m)
  replace low := gAlloc low (.cells (wldA v m) 79)
  replace cb := cb.alloc (.cells (wldA v m) 79)
  replace h := h.alloc (.cells (wldA v m) 79)
  try simp only [World.size_alloc] at wb
  have ob := boxNext low 77 (memA zeroL)
  replace low := gAlloc low (.cells (memA zeroL) 77)
  replace cb := cb.alloc (.cells (memA zeroL) 77)
  replace wb := wb.alloc (.cells (memA zeroL) 77)
  replace h := h.alloc (.cells (memA zeroL) 77)
  try simp only [World.size_alloc] at ob
  have wr := wb.range
  go_enter Try.func40, Try.ntmps40
  go_wp2_with (first | (with_reducible refine wp_newW (tyMem) ?_) | ((with_reducible refine wp_loadW (tyWorld) (wr) (wld_size hm) ?_ ?_ ?_); rfl; rfl))
  (with_reducible refine (F.out _ h).mono ?_); rintro e w1 ⟨⟨us, rfl, hds⟩, hb⟩
  replace ob := ob.call hb
  replace wb := wb.call hb
  replace low := gCall low hb
  clear hb cb wr F
  have z0 := ob.lt
  have u16 := hds.size
  have one := hds.one
  have hb := boxNext low 112 us.toArray
  replace low := gAlloc low (.cells us.toArray 112)
  replace ob := ob.alloc (.cells us.toArray 112)
  replace wb := wb.alloc (.cells us.toArray 112)
  replace hds := hds.alloc (.cells us.toArray 112)
  try simp only [World.size_alloc] at hb
  have HDS := Lib.hid hds
  have fb := boxNext low 77 (memA zeroL)
  replace low := gAlloc low (.cells (memA zeroL) 77)
  replace ob := ob.alloc (.cells (memA zeroL) 77)
  replace wb := wb.alloc (.cells (memA zeroL) 77)
  replace hb := hb.alloc (.cells (memA zeroL) 77)
  try simp only [World.size_alloc] at fb
  have wm := wld_mem wb
  clear hds
  go_wp2_with (first | (with_reducible refine wp_newW (tyCopies) ?_) | ((with_reducible refine wp_freshW (tyCopies) (rfl) (u16) (one) ?_ ?_ ?_); rfl; rfl) | (with_reducible refine wp_newW (tyMem) ?_) | ((with_reducible refine wp_loadW (tyMem) (wm) (mem_zsize hm) ?_ ?_ ?_); rfl; rfl))
  have b1 := (Below.refl (w1.alloc (.cells us.toArray 112)).heap.size (w1.alloc (.cells us.toArray 112))).alloc (Nat.le_refl _) (.cells (memA zeroL) 77)
  generalize hW : w1.alloc (.cells us.toArray 112) = W at *
  have zW : W.heap.size = w1.heap.size + 1 := by rw [← hW]; simp
  clear hW
  go_loopw [25] (fun i wr => ∃ k : Nat, k ≤ 16 ∧ i = .int .i64 k ∧ Box wr (w1.heap.size + 1) 77 (memA (flatN P m k)) ∧ Box wr w1.heap.size 112 us.toArray ∧ Box wr (w.heap.size + 1 + 1) 77 (memA zeroL) ∧ Below W.heap.size W wr ∧ Below w.heap.size w wr) (fun i _ => 16 - (intOf i).toNat)
  case atStart => exact ⟨0, by omega, rfl, fb, hb, ob, b1, low⟩
  case round =>
    clear h wb hb ob fb low wm b1
    obtain ⟨k, hk, rfl, fb, hb, ob, b1, low⟩ := hrel
    by_cases hlt : k < 16
    · have ix := fun w => index_mem m hm k hlt w
      have k0 : (0 : Int) ≤ k := by omega
      have k1 : (k : Int) < 16 := by omega
      have hu : us[k]? = some (us[k]'(by have := HDS.out.len; omega)) := List.getElem?_eq_getElem _
      generalize us[k]'(by have := HDS.out.len; omega) = u at hu
      have cps := (HDS.out.cps k u hu).call b1
      have hcu : us.toArray[k]? = some u := by rw [List.getElem?_toArray]; exact hu
      obtain ⟨A, c, rfl⟩ : ∃ A c, u = .slice A (onL k P).length c := by obtain ⟨_, A, c, e, _⟩ := cps; exact ⟨A, c, e⟩
      have VA := Lib.hid fun w hw => valueOf_any (.slice A (onL k P).length c) (onL k P) (l4 m k) w hw
      have HF := Lib.hid (show flatN P m (k + 1) = writeL (flatN P m k) k (valL (onL k P) (l4 m k)).a (valL (onL k P) (l4 m k)).b (valL (onL k P) (l4 m k)).c (valL (onL k P) (l4 m k)).d from rfl)
      generalize valL (onL k P) (l4 m k) = z at VA HF
      clear hu
      simp only [l4] at VA
      have zr := fb.lt
      have zo := ob.lt
      replace b1 := b1.alloc b1.size (.cells #[.int .u64 (wd m (k * 4)), .int .u64 (wd m (k * 4 + 1)), .int .u64 (wd m (k * 4 + 2)), .int .u64 (wd m (k * 4 + 3))] 30)
      have lb := boxNext low 30 #[.int .u64 (wd m (k * 4)), .int .u64 (wd m (k * 4 + 1)), .int .u64 (wd m (k * 4 + 2)), .int .u64 (wd m (k * 4 + 3))]
      replace low := gAlloc low (.cells #[.int .u64 (wd m (k * 4)), .int .u64 (wd m (k * 4 + 1)), .int .u64 (wd m (k * 4 + 2)), .int .u64 (wd m (k * 4 + 3))] 30)
      replace hb := hb.alloc (.cells #[.int .u64 (wd m (k * 4)), .int .u64 (wd m (k * 4 + 1)), .int .u64 (wd m (k * 4 + 2)), .int .u64 (wd m (k * 4 + 3))] 30)
      replace ob := ob.alloc (.cells #[.int .u64 (wd m (k * 4)), .int .u64 (wd m (k * 4 + 1)), .int .u64 (wd m (k * 4 + 2)), .int .u64 (wd m (k * 4 + 3))] 30)
      replace fb := fb.alloc (.cells #[.int .u64 (wd m (k * 4)), .int .u64 (wd m (k * 4 + 1)), .int .u64 (wd m (k * 4 + 2)), .int .u64 (wd m (k * 4 + 3))] 30)
      replace cps := cps.alloc (.cells #[.int .u64 (wd m (k * 4)), .int .u64 (wd m (k * 4 + 1)), .int .u64 (wd m (k * 4 + 2)), .int .u64 (wd m (k * 4 + 3))] 30)
      try simp only [World.size_alloc] at lb
      have hc0 := hb.at_ k hcu
      have l0 := lb.at_ 0 rfl
      have l1 := lb.at_ 1 rfl
      have l2 := lb.at_ 2 rfl
      have l3 := lb.at_ 3 rfl
      go_wp2_with fail
      refine wp_region_noPanic ?_
      refine wp_region_held_drew (S := fun w' => w'.cell? ⟨w1.heap.size, k, none⟩ = some (.slice A (onL k P).length c) ∧ w'.cell? ⟨wr.heap.size, 0, none⟩ = some (.int .u64 (wd m (k * 4))) ∧ w'.cell? ⟨wr.heap.size, 1, none⟩ = some (.int .u64 (wd m (k * 4 + 1))) ∧ w'.cell? ⟨wr.heap.size, 2, none⟩ = some (.int .u64 (wd m (k * 4 + 2))) ∧ w'.cell? ⟨wr.heap.size, 3, none⟩ = some (.int .u64 (wd m (k * 4 + 3)))) (by kernel_rfl) ⟨drewC hc0, drewC l0, drewC l1, drewC l2, drewC l3⟩ (fun hHeld => ?_)
      clear hc0 l0 l1 l2 l3 lb
      refine takeFirst (i := 0) (v := ?_) rfl (by kernel_rfl) (by kernel_rfl) (by kernel_rfl) (by rfl) (fun _ _ _ h => h) ?_ (by assumption) ?_
      rotate_left
      · (intro w hSw; go_simp; try (with_reducible rfl))
      try simp only [Act.put, List.setIfInBounds_toArray, List.set_cons_zero, List.set_cons_succ]
      refine takeFirst (i := 1) (v := ?_) rfl (by kernel_rfl) (by kernel_rfl) (by kernel_rfl) (by rfl) (fun _ _ _ h => h) ?_ (by assumption) ?_
      rotate_left
      · (intro w hSw; go_simp; try (with_reducible rfl))
      try simp only [Act.put, List.setIfInBounds_toArray, List.set_cons_zero, List.set_cons_succ]
      refine takeFirst (i := 2) (v := ?_) rfl (by kernel_rfl) (by kernel_rfl) (by kernel_rfl) (by rfl) (fun _ _ _ h => h) ?_ (by assumption) ?_
      rotate_left
      · (intro w hSw; go_simp; try (with_reducible rfl))
      try simp only [Act.put, List.setIfInBounds_toArray, List.set_cons_zero, List.set_cons_succ]
      refine takeFirst (i := 3) (v := ?_) rfl (by kernel_rfl) (by kernel_rfl) (by kernel_rfl) (by rfl) (fun _ _ _ h => h) ?_ (by assumption) ?_
      rotate_left
      · (intro w hSw; go_simp; try (with_reducible rfl))
      try simp only [Act.put, List.setIfInBounds_toArray, List.set_cons_zero, List.set_cons_succ]
      refine takeFirst (i := 4) (v := ?_) rfl (by kernel_rfl) (by kernel_rfl) (by kernel_rfl) (by rfl) (fun _ _ _ h => h) ?_ (by assumption) ?_
      rotate_left
      · (intro w hSw; go_simp; try (with_reducible rfl))
      try simp only [Act.put, List.setIfInBounds_toArray, List.set_cons_zero, List.set_cons_succ]
      refine stepNext (i := 5) (by kernel_rfl) rfl (by rfl) (fun K hK => ?_)
      go_simp
      (with_reducible refine (VA.out _ cps.drew).mono ?_); rintro e w4 ⟨rfl, hb4⟩
      replace hb := hb.drew.call hb4
      replace ob := ob.drew.call hb4
      replace fb := fb.drew.call hb4
      replace b1 := gCall b1.drew hb4
      replace low := gCall low.drew hb4
      obtain ⟨hh0, hh1, hh2, hh3, hh4⟩ := hHeld
      have hHeld := (And.intro (callC hb4 hh0) (And.intro (callC hb4 hh1) (And.intro (callC hb4 hh2) (And.intro (callC hb4 hh3) (callC hb4 hh4)))))
      clear hh0 hh1 hh2 hh3 hh4
      clear hb4 cps VA
      refine hK.out _ _ hHeld ?_
      clear hK K
      try simp only [Act.put]
      try simp only [List.setIfInBounds_toArray, List.set_cons_zero, List.set_cons_succ]
      refine takeFirst (i := 6) (v := ?_) rfl (by kernel_rfl) (by kernel_rfl) (by kernel_rfl) (by rfl) (fun _ _ _ h => h) ?_ (by assumption) ?_
      rotate_left
      · (intro w hSw; go_simp; try (with_reducible rfl))
      try simp only [Act.put, List.setIfInBounds_toArray, List.set_cons_zero, List.set_cons_succ]
      refine stepNext (i := 7) (by kernel_rfl) rfl (by rfl) (fun K hK => ?_)
      have th := (Mb.mk fb (flatN_length P m k)).there (k * 4) 4 (by omega)
      refine wp_store_mid 30 (.tmp 35) (.tmp 34) rfl _ _ (lnA z) rfl rfl th tyLine.size (lnA_one z) ?_
      have st5 := setCells_stored (w1.heap.size + 1) (lnA z).toList (k * 4) w4
      have fb5 := ((Mb.mk fb (flatN_length P m k)).write k z.a z.b z.c z.d).box
      rw [← HF.out] at fb5
      have hb5 := st5.box hb (by omega)
      have ob5 := st5.box ob (by omega)
      have b5 := st5.low b1 (by omega)
      have low5 := st5.low low (by omega)
      obtain ⟨hh0, hh1, hh2, hh3, hh4⟩ := hHeld
      have hHeld := (And.intro (st5.cell (by dsimp only; omega) hh0) (And.intro (st5.cell (by dsimp only; omega) hh1) (And.intro (st5.cell (by dsimp only; omega) hh2) (And.intro (st5.cell (by dsimp only; omega) hh3) (st5.cell (by dsimp only; omega) hh4)))))
      clear hh0 hh1 hh2 hh3 hh4
      clear st5 hb ob fb b1 low th
      change Box (w4.setCells (w1.heap.size + 1) (k * 4) (lnA z).toList) _ _ _ at fb5
      generalize w4.setCells (w1.heap.size + 1) (k * 4) (lnA z).toList = w5 at *
      refine hK.out _ _ hHeld ?_
      clear hK K
      try simp only [Act.put]
      try simp only [List.setIfInBounds_toArray, List.set_cons_zero, List.set_cons_succ]
      clear hHeld
      refine wpAnyH_done (by kernel_rfl) ?_ _
      refine NoPanic.normal ?_
      go_wp2_with fail
      go_roundw
      case rel => exact ⟨k + 1, by omega, by go_num, fb5, hb5, ob5, b5, low5⟩
      case measure => simp [intOf]; omega
    · obtain rfl : k = 16 := by omega
      have fr := fb.range
      have s1 := mem_zsize (flatN_length P m 16)
      go_wp2_with (first | ((with_reducible refine wp_loadW (tyMem) (fr) (s1) ?_ ?_ ?_); rfl; rfl) | ((with_reducible refine wp_storeW (tyMem) (ob) (rfl) (s1) (memA_one _) ?_ ?_ ?_); rfl; rfl))
      intro w3 ob3 st
      replace low := st.low low (by omega)
      clear ob st hb fb fr b1
      go_wp2_with fail
      exact bodyPost_ret (v := .tuple #[memV (flatN P m 16), .int .i64 0]) (results_first tyMem Try.results40 rfl rfl ob3 s1) rfl ⟨rfl, low⟩
end Go.Proofs.Ytmodajmjmdigfaa
