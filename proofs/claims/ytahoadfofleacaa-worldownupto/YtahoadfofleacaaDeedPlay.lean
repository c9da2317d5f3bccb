/-
Proved: what Play of package deed returns, for every world and list that can be read; it changes nothing that was there, and what it returns is new. No condition.
-/
import Derived.Test.YtahoadfofleacaaDeedWorld
import Derived.Test.YtahoadfofleacaaJoined6
namespace Go.Proofs.Ytahoadfofleacaa
open Go.ChangeShapes Go.WideShapes Go.ChangeAt Go.RowKit Go.Joins

/-- The world behind the first k operations. -/
structure RunW (n s y b : Int) (F : List Int) (l : List Dd) (k : Nat) (css : List (List St)) (m : List Int) : Prop where
  ok : cohE n s y b css m = 0
  len : m.length = 64
  flat : flatW css m = runM F (l.take k)
  err : runE (l.take k) = 0
theorem RunW.next {n s y b : Int} {F : List Int} {l : List Dd} {k : Nat} {css css' : List (List St)} {m : List Int} {d : Dd} {i0 L : Nat} {out : Wy} (h : RunW n s y b F l k css m) (hd : l[k]? = some d) (he : findE n s y b css m d = 0) (did : Did n s y b css m d i0 L css' out) :
    RunW n s y b F l (k + 1) css' (keepM m out) ∧ runV F (l.take (k + 1)) = runV F (l.take k) ++ [doV (flatW css m) d] := by
  have h2 := (findE_ok he).2.1
  have e1 := take_more hd
  refine ⟨⟨did.ok, keepM_length h.len out, ?_, ?_⟩, ?_⟩
  · rw [did.flat, h.flat, e1, runM_append]
    rfl
  · rw [e1, runE_append, if_pos h.err]
    simp [runE, h2]
  · rw [e1, runV_append, ← h.flat]
    rfl

theorem info_done : (Try.prog.info? 37).map (fun i => (i.zero, i.size, i.bytes)) = some (some (.agg done0), 5, 40) := by kernel_rfl
def newD (n : Nat) : Array Value := madeCells done0 (n * 5)
theorem make_dones (n : Nat) (hn : n ≤ 200) (w : World) : (Instr.makeSlice 66 (.int .i64 n) (.int .i64 n)).run Try.prog w = .ok (.slice (some ⟨w.heap.size, 0, none⟩) n n) (w.alloc (.cells (newD n) 37)) := by
  obtain ⟨i0, hi, hz0, hz1, hz2⟩ := info_parts info_done
  have := run_make w 66 37 i0 (.agg done0) Try.underlying66 hi hz0 .i64 .i64 n n (by omega) (Int.le_refl _) (by rw [hz2]; omega) (by omega)
  rw [this, hz1]
  simp [newD, Value.cells]
theorem newD_size (n : Nat) : (newD n).size = n * 5 := size_madeCells _ _

/-- What is told lies in the block. -/
def ToldIn (cur : Array Value) (xs : List Int) : Prop := ∀ (j : Nat) x, xs[j]? = some x → cur[j * 5]? = some (.int .u64 x)
/-- One telling is stored. -/
theorem wp_storeD {op : Oper} {a : Act} {w : World} {K : Act → World → Prop} {Q : Exit → Act → World → Prop} (x y : Operand) (ho : op.op = .store 37 x y)
    (g k n : Nat) (cur : Array Value) (hb : Box w g 37 cur) (hs : cur.size = n * 5) (hk : k < n) (u : Int) (f1 f4 : Bool) (f2 f3 : Int) (hx : a.eval x = .pointer (some ⟨g, k * 5, none⟩)) (hy : a.eval y = doneV u f1 f2 f3 f4)
    (h : ∀ w' cur', Box w' g 37 cur' → cur'.size = n * 5 → (∀ xs, xs.length = k → ToldIn cur xs → ToldIn cur' (xs ++ [u])) → Stored w g w' → K (a.put op.dst undef) w') : op.wp Try.prog a w K Q := by
  refine wp_store_mid 37 x y ho g (k * 5) (doneA u f1 f2 f3 f4) hx hy ?_ (tyDone.size.trans rfl) (done_one u f1 f2 f3 f4) ?_
  · intro j hj
    have hj5 : j < 5 := hj
    refine ⟨?_, hb.frozen _⟩
    rw [hb.cell, Array.getElem?_eq_getElem (by omega)]
    rfl
  · have b1 := ((((hb.set (k * 5) (.int .u64 u)).set (k * 5 + 1) (.bool f1)).set (k * 5 + 2) (.int .i64 f2)).set (k * 5 + 3) (.int .i64 f3)).set (k * 5 + 4) (.bool f4)
    have st : Stored w g (((((w.setCell ⟨g, k * 5, none⟩ (.int .u64 u)).setCell ⟨g, k * 5 + 1, none⟩ (.bool f1)).setCell ⟨g, k * 5 + 2, none⟩ (.int .i64 f2)).setCell ⟨g, k * 5 + 3, none⟩ (.int .i64 f3)).setCell ⟨g, k * 5 + 4, none⟩ (.bool f4)) :=
      ((((Stored.cell1 w ⟨g, k * 5, none⟩ _).trans (Stored.cell1 _ ⟨g, k * 5 + 1, none⟩ _)).trans (Stored.cell1 _ ⟨g, k * 5 + 2, none⟩ _)).trans (Stored.cell1 _ ⟨g, k * 5 + 3, none⟩ _)).trans (Stored.cell1 _ ⟨g, k * 5 + 4, none⟩ _)
    refine h _ _ b1 (by simpa using hs) (fun xs hl ht j z hz => ?_) st
    simp only [Array.getElem?_setIfInBounds]
    rw [if_neg (by omega), if_neg (by omega), if_neg (by omega), if_neg (by omega)]
    by_cases e : j = k
    · subst e
      rw [if_pos rfl, if_pos (by omega)]
      rw [List.getElem?_append_right (by omega), hl, Nat.sub_self] at hz
      simp at hz
      rw [hz]
    · rw [if_neg (by omega)]
      refine ht j z ?_
      have : j < (xs ++ [u]).length := (List.getElem?_eq_some_iff.1 hz).1
      rw [List.length_append, List.length_singleton] at this
      rwa [List.getElem?_append_left (by omega)] at hz

/-- What Play gives where there is no error. -/
def PlayOk (n s y b : Int) (F : List Int) (l : List Dd) (w : World) (e : Ending) (w' : World) : Prop :=
  ∃ v' css' m' g cur, e = .returned (.tuple #[wldV v' m', .slice (some ⟨g, 0, none⟩) l.length l.length, .int .i64 0]) ∧ RunW n s y b F l l.length css' m' ∧ KFr w' w.heap.size w'.heap.size v' css' ∧ Box w' g 37 cur ∧ cur.size = l.length * 5 ∧ ToldIn cur (runV F l)
/-- What Play gives. -/
def PlayD (n s y b : Int) (F : List Int) (l : List Dd) (w : World) (e : Ending) (w' : World) : Prop :=
  ((∃ E : Int, E ≠ 0 ∧ e = .returned (.tuple #[.agg nilW, .slice none 0 0, .int .i64 E])) ∨ PlayOk n s y b F l w e w') ∧ Below w.heap.size w w'



set_option maxRecDepth 10000 in
set_option maxHeartbeats 2000000 in
theorem play_early (n s y b : Int) (v lv : Value) (m : List Int) (css : List (List St)) (l : List Dd) (w : World) (h : Ks w v css) (hd : Ds w lv l) (hm : m.length = 64) (hE : 200 < l.length ∨ cohE n s y b css m ≠ 0) :
    Calls Try.prog 20 #[cfg n s y b, wldV v m, lv] w (PlayD n s y b (flatW css m) l w) := by
  have C := Lib.hid fun w hw => agreeCheck_any n s y b v m css w hw hm
  generalize cohE n s y b css m = E at C hE
  generalize cohL n s y b css m = L at C
  obtain ⟨A, c, rfl⟩ : ∃ A c, lv = .slice A l.length c := by obtain ⟨_, A, c, e, _⟩ := hd; exact ⟨A, c, e⟩
  clear hd
  have low := Below.refl w.heap.size w
  have cb := boxNext low 23 (cfgA n s y b)
  replace low := gAlloc low (.cells (cfgA n s y b) 23)
  replace h := h.alloc (.cells (cfgA n s y b) 23)
  try simp only [World.size_alloc] at cb
  have wb := boxNext low 31 (wldA v m)
  replace low := gAlloc low (.cells (wldA v m) 31)
  replace cb := cb.alloc (.cells (wldA v m) 31)
  replace h := h.alloc (.cells (wldA v m) 31)
  try simp only [World.size_alloc] at wb
  have ob := boxNext low 31 nilW
  replace low := gAlloc low (.cells nilW 31)
  replace cb := cb.alloc (.cells nilW 31)
  replace wb := wb.alloc (.cells nilW 31)
  replace h := h.alloc (.cells nilW 31)
  try simp only [World.size_alloc] at ob
  by_cases h2 : 200 < l.length
  · have g1 : decide (200 < l.length) = true := decide_eq_true h2
    have g2 : decide ((200 : Int) < l.length) = true := decide_eq_true (by omega)
    clear h2 hE
    go_enter Try.func20, Try.ntmps20
    go_wp2_with (first | (with_reducible refine wp_newW (tyWorld) ?_) | (with_reducible refine wp_zeroW (tyWorld) ?_) | ((with_reducible refine wp_storeW (tyWorld) (ob) (rfl) (nilW_size) (nilW_one) ?_ ?_ ?_); rfl; rfl))
    intro w8 ob8 st8
    replace low := st8.low low (by omega)
    clear st8 ob
    go_wp2_with fail
    exact bodyPost_ret (v := .tuple #[.agg nilW, .slice none 0 0, .int .i64 2]) (results_first3 tyWorld Try.results20 rfl rfl rfl ob8 rfl) rfl ⟨.inl ⟨2, by decide, rfl⟩, low⟩
  · have hE' : E ≠ 0 := by rcases hE with h | h; exact absurd h h2; exact h
    have g1 : decide (200 < l.length) = false := decide_eq_false h2
    have g2 : decide ((200 : Int) < l.length) = false := decide_eq_false (by omega)
    have g3 : (E != 0) = true := by simpa using hE'
    have HE := Lib.hid hE'
    clear h2 hE hE'
    have wr := wb.range
    go_enter Try.func20, Try.ntmps20
    go_wp2_with (first | (with_reducible refine wp_newW (tyWorld) ?_) | ((with_reducible refine wp_loadW (tyWorld) (wr) (wld_size hm) ?_ ?_ ?_); rfl; rfl))
    (with_reducible refine (C.out _ h).mono ?_); rintro e w1 ⟨rfl, hb⟩
    replace ob := ob.call hb
    replace low := gCall low hb
    clear hb wr wb cb h
    go_wp2_with (first | (with_reducible refine wp_zeroW (tyWorld) ?_) | ((with_reducible refine wp_storeW (tyWorld) (ob) (rfl) (nilW_size) (nilW_one) ?_ ?_ ?_); rfl; rfl))
    intro w8 ob8 st8
    replace low := st8.low low (by omega)
    clear st8 ob
    go_wp2_with fail
    exact bodyPost_ret (v := .tuple #[.agg nilW, .slice none 0 0, .int .i64 (E)]) (results_first3 tyWorld Try.results20 rfl rfl rfl ob8 rfl) rfl ⟨.inl ⟨E, HE.out, rfl⟩, low⟩
end Go.Proofs.Ytahoadfofleacaa
