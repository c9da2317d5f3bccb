/-
Proved: what Play of package atomic returns, for every list of operations that can be read; it changes nothing that was there. An argument that is an operation, or a list of them. No condition.
-/
import Derived.Test.YtgoaedbhcldmiaaAtomic
import Derived.Laws.MakeOwn
namespace Go.Proofs.Ytgoaedbhcldmiaa
open Go.ChangeShapes Go.WideShapes Go.ChangeAt Go.RowKit Go.Joins

/-! Operations one after the other: the first error, the memory, what they tell. -/
def runE : List Dd → Int
  | [] => 0
  | d :: r => if deedE d = 0 then runE r else deedE d
def runM (l : List Int) (r : List Dd) : List Int := r.foldl doM l
def runV (l : List Int) : List Dd → List Int
  | [] => []
  | d :: r => doV l d :: runV (doM l d) r

theorem runM_length {l : List Int} (hl : l.length = 64) : ∀ (r : List Dd), (runM l r).length = 64 := fun r => by
  induction r generalizing l with
  | nil => exact hl
  | cons d r ih => exact ih (doM_length d hl)
theorem runV_length (l : List Int) (r : List Dd) : (runV l r).length = r.length := by
  induction r generalizing l with
  | nil => rfl
  | cons d r ih => simp [runV, ih]
theorem runE_append (a b : List Dd) : runE (a ++ b) = if runE a = 0 then runE b else runE a := by
  induction a with
  | nil => simp [runE]
  | cons d r ih =>
    simp only [List.cons_append, runE]
    by_cases h : deedE d = 0
    · simp only [if_pos h, ih]
    · simp only [if_neg h]
theorem runM_append (l : List Int) (a b : List Dd) : runM l (a ++ b) = runM (runM l a) b := List.foldl_append
theorem runV_append (l : List Int) (a b : List Dd) : runV l (a ++ b) = runV l a ++ runV (runM l a) b := by
  induction a generalizing l with
  | nil => rfl
  | cons d r ih => simp only [List.cons_append, runV, ih]; rfl

theorem take_more {r : List Dd} {j : Nat} {d : Dd} (h : r[j]? = some d) : r.take (j + 1) = r.take j ++ [d] := by
  rw [List.take_add_one, h]; rfl

/-- What the first j operations tell; the others' places hold 0. -/
def toldL (l : List Int) (r : List Dd) (j : Nat) : List Int := runV l (r.take j) ++ List.replicate (r.length - j) 0
theorem toldL_zero (l : List Int) (r : List Dd) : toldL l r 0 = List.replicate r.length 0 := rfl
theorem toldL_length (l : List Int) (r : List Dd) (j : Nat) (hj : j ≤ r.length) : (toldL l r j).length = r.length := by
  simp [toldL, runV_length]; omega
theorem toldL_all (l : List Int) (r : List Dd) : toldL l r r.length = runV l r := by simp [toldL]
theorem toldL_step {l : List Int} {r : List Dd} {j : Nat} {d : Dd} (h : r[j]? = some d) : (toldL l r j).set j (doV (runM l (r.take j)) d) = toldL l r (j + 1) := by
  have hj : j < r.length := (List.getElem?_eq_some_iff.1 h).1
  have e : (runV l (r.take j)).length = j := by rw [runV_length, List.length_take]; omega
  unfold toldL
  rw [take_more h, runV_append, List.set_append_right _ _ (by omega), e, Nat.sub_self, show r.length - j = (r.length - (j + 1)) + 1 by omega, List.replicate_succ, List.set_cons_zero, List.append_assoc]
  rfl

theorem info_word : (Try.prog.info? 22).map (fun i => (i.zero, i.size, i.bytes)) = some (some (.int .u64 0), 1, 8) := by kernel_rfl

theorem make_words (n : Nat) (hn : n ≤ 200) (w : World) : (Instr.makeSlice 53 (.int .i64 n) (.int .i64 n)).run Try.prog w = .ok (.slice (some ⟨w.heap.size, 0, none⟩) n n) (w.alloc (.cells (memA (List.replicate n 0)) 22)) := by
  obtain ⟨i0, hi, hz0, hz1, hz2⟩ := info_parts info_word
  have := run_make w 53 22 i0 (.int .u64 0) Try.underlying53 hi hz0 .i64 .i64 n n (by omega) (Int.le_refl _) (by rw [hz2]; omega) (by omega)
  rw [this, hz1]
  have e : madeCells (Value.int .u64 0).cells n = memA (List.replicate n 0) := by
    apply Array.ext_getElem?
    intro i
    simp [madeCells, memA, Value.cells]
    by_cases h : i < n <;> simp [h, Nat.mod_one]
  simp [e]

/-- The slice holds these words; it is a whole block. -/
structure Told (w : World) (v : Value) (n : Nat) (xs : List Int) : Prop where
  len : xs.length = n
  few : n ≤ 200
  some : ∃ g, v = .slice (some ⟨g, 0, none⟩) n n ∧ Box w g 22 (memA xs)
theorem Told.call {w w' : World} {v : Value} {n : Nat} {xs : List Int} (h : Told w v n xs) (hb : Below w.heap.size w w') : Told w' v n xs := by
  obtain ⟨h1, h2, g, e, b⟩ := h
  exact ⟨h1, h2, g, e, b.call hb⟩
theorem Told.sl {w : World} {v : Value} {n : Nat} {xs : List Int} (h : Told w v n xs) : Sl w w.heap.size 1 v n (xs.map (Value.int .u64)) := by
  obtain ⟨h1, h2, g, rfl, b⟩ := h
  refine ⟨by rw [List.length_map]; omega, _, _, rfl, Nat.le_refl _, by unfold maxLen; omega, fun _ => ⟨_, 0, rfl, b.lt, fun q u hu => ?_⟩⟩
  rw [b.cell, Nat.zero_add, memA, List.getElem?_toArray]
  exact hu
/-- A store into a block of another type. -/
theorem Told.out {w w' : World} {v : Value} {n : Nat} {xs : List Int} {g : Nat} {t : TypeId} {cs : Array Value} (h : Told w v n xs) (st : Stored w g w') (hb : Box w g t cs) (ht : t ≠ 22) : Told w' v n xs := by
  obtain ⟨h1, h2, g', e, b⟩ := h
  refine ⟨h1, h2, g', e, st.box b fun e => ?_⟩
  subst e
  unfold Box at b hb
  rw [b] at hb
  cases hb
  exact ht rfl

/-- What Play gives, of at most 200 operations. -/
def PlayIs (l : List Int) (r : List Dd) (e : Ending) (w' : World) : Prop :=
  (runE r ≠ 0 ∧ e = .returned (.tuple #[memV zeroL, .slice none 0 0, .int .i64 (runE r)])) ∨
  (runE r = 0 ∧ ∃ v, e = .returned (.tuple #[memV (runM l r), v, .int .i64 0]) ∧ Told w' v r.length (runV l r))

set_option maxHeartbeats 1000000 in
theorem atomicPlay_large (l : List Int) (v : Value) (r : List Dd) (w : World) (h : Ds w v r) (hr : 200 < r.length) : Calls Try.prog 15 #[memV l, v] w fun e w' =>
    e = .returned (.tuple #[memV zeroL, .slice none 0 0, .int .i64 2]) ∧ Below w.heap.size w w' := by
  obtain ⟨_, A, c, rfl, h1, h2, h3⟩ := h
  clear h3
  have low := Below.refl w.heap.size w
  have mb := boxNext low 26 (memA l)
  replace low := gAlloc low (.cells (memA l) 26)
  try simp only [World.size_alloc] at mb
  have ob := boxNext low 26 (memA zeroL)
  replace low := gAlloc low (.cells (memA zeroL) 26)
  replace mb := mb.alloc (.cells (memA zeroL) 26)
  try simp only [World.size_alloc] at ob
  go_enter Try.func15, Try.ntmps15
  go_wp2_with (first | (with_reducible refine wp_newMem ?_) | (with_reducible refine wp_zeroMem ?_) | ((with_reducible refine wp_storeMem (⟨ob, zeroL_length⟩) (zeroL_length) ?_ ?_ ?_); rfl; rfl))
  intro w3 m3 st
  replace low := st.low low (by omega)
  clear st ob
  go_wp2_with fail
  refine bodyPost_ret (v := .tuple #[memV zeroL, .slice none 0 0, .int .i64 2]) (results_mem3 Try.results15 rfl rfl rfl m3) rfl ⟨rfl, low⟩

set_option maxHeartbeats 2000000 in
theorem atomicPlay_any (l : List Int) (hl : l.length = 64) (v : Value) (r : List Dd) (w : World) (h : Ds w v r) (hr : r.length ≤ 200) : Calls Try.prog 15 #[memV l, v] w fun e w' =>
    PlayIs l r e w' ∧ Below w.heap.size w w' := by
  obtain ⟨_, A, c, rfl, h1, h2, h3⟩ := h
  have H3 := Lib.hid h3
  have MK := fun w => make_words r.length hr w
  generalize hn : r.length = n at *
  have HN := Lib.hid hn
  clear hn
  unfold maxLen at h2
  have hr2 : (n : Int) ≤ 200 := by omega
  clear h3
  have low := Below.refl w.heap.size w
  have xb := boxNext low 26 (memA l)
  replace low := gAlloc low (.cells (memA l) 26)
  try simp only [World.size_alloc] at xb
  have ob := boxNext low 26 (memA zeroL)
  replace low := gAlloc low (.cells (memA zeroL) 26)
  replace xb := xb.alloc (.cells (memA zeroL) 26)
  try simp only [World.size_alloc] at ob
  have tb := boxNext low 22 (memA (List.replicate n 0))
  replace low := gAlloc low (.cells (memA (List.replicate n 0)) 22)
  replace xb := xb.alloc (.cells (memA (List.replicate n 0)) 22)
  replace ob := ob.alloc (.cells (memA (List.replicate n 0)) 22)
  try simp only [World.size_alloc] at tb
  have mb : Mb _ _ l := ⟨xb, hl⟩
  clear xb
  go_enter Try.func15, Try.ntmps15
  go_wp2_with (with_reducible refine wp_newMem ?_)
  have TB := Lib.hid (show Box _ (w.heap.size + 1 + 1) 22 (memA (toldL l r 0)) by rw [toldL_zero, HN.out]; exact tb)
  clear tb MK
  go_loopw [22] (fun i wr => ∃ j : Nat, j ≤ n ∧ i = .int .i64 j ∧ Hid (runE (r.take j) = 0) ∧ Mb wr w.heap.size (runM l (r.take j)) ∧ Box wr (w.heap.size + 1) 26 (memA zeroL) ∧
      Box wr (w.heap.size + 1 + 1) 22 (memA (toldL l r j)) ∧ Below w.heap.size w wr) (fun i _ => n - (intOf i).toNat)
  case atStart => exact ⟨0, Nat.zero_le _, rfl, Lib.hid rfl, mb, ob, TB.out, low⟩
  case round =>
    clear mb ob TB low
    obtain ⟨j, hj, rfl, he, mb, ob, tb, low⟩ := hrel
    by_cases hlt : j < n
    · obtain ⟨b, o, rfl, hb, hc⟩ := H3.out (by omega)
      have hx : r[j]? = some (r[j]'(by have := HN.out; omega)) := List.getElem?_eq_getElem _
      generalize r[j]'(by have := HN.out; omega) = x at hx
      obtain ⟨c0, c1, c2, c3⟩ := deedAt_of hc hb low hx
      have HX := Lib.hid hx
      have hl1 := mb.2
      have OK := Lib.hid fun W (h : deedE x = 0) => atomicDo_ok (runM l (r.take j)) hl1 x h W
      have BAD := Lib.hid fun W (h : deedE x ≠ 0) => atomicDo_bad (runM l (r.take j)) x h W
      have hl2 := doM_length x hl1
      have k0 : (0 : Int) ≤ j := by omega
      have k1 : (j : Int) < n := by omega
      clear hx hc
      have db := Box.new wr 36 x.arr
      have mb1 := mb.alloc (.cells x.arr 36)
      have ob1 := ob.alloc (.cells x.arr 36)
      have tb1 := tb.alloc (.cells x.arr 36)
      have low1 := gAlloc low (.cells x.arr 36)
      go_wp2_with ((with_reducible refine wp_loadMem (mb1) ?_ ?_ ?_); rfl; rfl)
      clear c0 c1 c2 c3 db
      by_cases hE : deedE x = 0
      · have OK2 := Lib.hid fun W => OK.out W hE
        have HE := Lib.hid (show runE (r.take (j + 1)) = 0 by rw [take_more HX.out, runE_append, if_pos he.out]; simp [runE, hE])
        have HM := Lib.hid (show doM (runM l (r.take j)) x = runM l (r.take (j + 1)) by rw [take_more HX.out, runM_append]; rfl)
        have HT := Lib.hid (toldL_step (l := l) HX.out)
        clear OK BAD hE
        (with_reducible refine (OK2.out _).mono ?_); rintro e w2 ⟨rfl, hb2⟩
        replace mb1 := mb1.call hb2
        replace ob1 := ob1.call hb2
        replace tb1 := tb1.call hb2
        replace low1 := gCall low1 hb2
        clear hb2 mb ob tb low OK2
        generalize doM (runM l (r.take j)) x = m2 at *
        generalize doV (runM l (r.take j)) x = v2 at *
        have nb := Mb.new (l := m2) w2 hl2
        replace mb1 := mb1.alloc (.cells (memA m2) 26)
        replace ob1 := ob1.alloc (.cells (memA m2) 26)
        replace tb1 := tb1.alloc (.cells (memA m2) 26)
        replace low1 := gAlloc low1 (.cells (memA m2) 26)
        go_wp2_with (first | (with_reducible refine wp_newMem ?_) | ((with_reducible refine wp_storeNew (zeroL_length) (hl2) ?_ ?_ ?_); rfl; rfl) | ((with_reducible refine wp_loadMem (nb) ?_ ?_ ?_); rfl; rfl) | ((with_reducible refine wp_storeMem (mb1) (hl2) ?_ ?_ ?_); rfl; rfl))
        intro w3 m3 st
        replace ob1 := st.box ob1 (by omega)
        replace tb1 := st.box tb1 (by omega)
        replace low1 := st.low low1 (by omega)
        clear st nb mb1
        have tl := toldL_length l r j (by have := HN.out; omega)
        have f1 := tb1.frozen j
        have f2 := tb1.at_ j (memA_at (l := toldL l r j) j (by have := HN.out; omega))
        clear tl
        go_wp2_with fail
        go_roundw
        case rel =>
          refine ⟨j + 1, by omega, by go_num, HE, ?_, ob1.far (by simp) _, ?_, gSet low1 (by simp; omega) _⟩
          · rw [← HM.out]; exact m3.far (by simp; omega) _
          · have := tb1.set j (.int .u64 v2)
            rw [memA_set, HT.out] at this
            exact this
        case measure => simp [intOf]; omega
      · have BAD2 := Lib.hid fun W => BAD.out W hE
        have HE := Lib.hid (show runE r = deedE x by
          have e := List.take_append_drop j r
          have hj2 : j < r.length := by have := HN.out; omega
          rw [← e, runE_append, if_pos he.out, List.drop_eq_getElem_cons hj2]
          have := HX.out
          rw [List.getElem?_eq_getElem hj2] at this
          cases this
          simp [runE, hE])
        have hE2 : (deedE x != 0) = true := by simpa using hE
        have HE3 := Lib.hid hE
        clear OK BAD hE
        (with_reducible refine (BAD2.out _).mono ?_); rintro e w2 ⟨rfl, hb2⟩
        replace ob1 := ob1.call hb2
        replace low1 := gCall low1 hb2
        clear hb2 mb ob tb low BAD2 mb1 tb1
        replace ob1 := ob1.alloc (.cells (memA zeroL) 26)
        replace low1 := gAlloc low1 (.cells (memA zeroL) 26)
        go_wp2_with (first | (with_reducible refine wp_newMem ?_) | (with_reducible refine wp_zeroMem ?_) | ((with_reducible refine wp_storeNew (zeroL_length) (zeroL_length) ?_ ?_ ?_); rfl; rfl) | ((with_reducible refine wp_storeMem (⟨ob1, zeroL_length⟩) (zeroL_length) ?_ ?_ ?_); rfl; rfl))
        intro w3 m3 st
        replace low1 := st.low low1 (by omega)
        clear st ob1
        go_wp2_with fail
        refine bodyPost_ret (v := .tuple #[memV zeroL, .slice none 0 0, .int .i64 (deedE x)]) (results_mem3 Try.results15 rfl rfl rfl m3) rfl ⟨.inl ⟨by rw [HE.out]; exact HE3.out, by rw [HE.out]⟩, low1⟩
    · obtain rfl : j = n := by omega
      have hl2 := mb.2
      go_wp2_with (first | ((with_reducible refine wp_loadMem (mb) ?_ ?_ ?_); rfl; rfl) | ((with_reducible refine wp_storeMem (⟨ob, zeroL_length⟩) (hl2) ?_ ?_ ?_); rfl; rfl))
      intro w3 m3 st
      replace tb := st.box tb (by omega)
      replace low := st.low low (by omega)
      clear st ob mb
      go_wp2_with fail
      have tk : r.take j = r := List.take_of_length_le (by rw [HN.out]; omega)
      rw [tk] at m3 he
      have tt : toldL l r j = runV l r := by rw [← HN.out]; exact toldL_all l r
      rw [tt] at tb
      have n1 := HN.out
      refine bodyPost_ret (v := .tuple #[memV (runM l r), .slice (some ⟨w.heap.size + 1 + 1, 0, none⟩) j j, .int .i64 0]) (results_mem3 Try.results15 rfl rfl rfl m3) rfl ⟨.inr ⟨he.out, _, rfl, ?_⟩, low⟩
      exact ⟨by rw [runV_length], by omega, _, by rw [n1], tb⟩
end Go.Proofs.Ytgoaedbhcldmiaa
