/-
Proved: what Check and Next of package prog return, for all programs that can be read; they change nothing that was there. An argument that is a list of ints. No condition.
-/
import Derived.Test.YtgoaedbhcldmiaaProgs
namespace Go.Proofs.Ytgoaedbhcldmiaa
open Go.ChangeShapes Go.WideShapes Go.ChangeAt Go.RowKit Go.Joins

/-! Lists of ints. -/
def IsInts (w : World) (v : Value) : Prop := ∃ xs : List Int, Sl w w.heap.size 1 v xs.length (xs.map (Value.int .i64)) ∧ ∀ x ∈ xs, I64 x
theorem ints_of : ∀ {css : List (List Value)}, (∀ c ∈ css, ∃ x : Int, c = [.int .i64 x] ∧ I64 x) → ∃ xs : List Int, xs.length = css.length ∧ css.flatten = xs.map (Value.int .i64) ∧ ∀ x ∈ xs, I64 x
  | [], _ => ⟨[], rfl, rfl, by simp⟩
  | c :: r, h => by
    obtain ⟨x, rfl, hx⟩ := h c (by simp)
    obtain ⟨xs, h1, h2, h3⟩ := ints_of (css := r) (fun d hd => h d (by simp [hd]))
    refine ⟨x :: xs, by simp [h1], by simp [h2], fun y hy => ?_⟩
    rcases List.mem_cons.1 hy with rfl | hy
    · exact hx
    · exact h3 y hy

section
variable {H : Type} {enc : TypeId × Value → H} {W : World} {base : Nat} {v : Value} {d : DataW H} {q : List MemPlace}
theorem cells_int : Try.prog.cellsOf 3 = 1 := by kernel_rfl
set_option maxRecDepth 10000 in
theorem openInts (hv : Value.okWide Try.prog W .any base 45 v) (h : DataW.Trod enc Try.prog W 0 (fun _ => true) true 45 v d q) : IsInts W v := by
  obtain ⟨css, sl, hcs⟩ := slice_value Try.underlying45 (by rw [cells_int]; omega) hv h
  obtain ⟨xs, l1, l2, l3⟩ := ints_of (css := css) (fun c hc => by
    obtain ⟨_, m, y, hy⟩ := hcs c hc
    have hk := flat_open 1 3 [.int .i64] (by kernel_rfl) m c y hy
    obtain ⟨_, _, rfl, ⟨a, rfl, wa⟩, h1⟩ := hk.cons_
    obtain rfl := h1.nil_
    exact ⟨a, rfl, bounds_i64 wa⟩)
  rw [cells_int, l2, ← l1] at sl
  exact ⟨xs, sl, l3⟩
end

/-- The cell of an int. -/
theorem int_at {w w' : World} {b o B : Nat} {xs : List Int} {k : Nat} {x : Int} (hc : ∀ j u, (xs.map (Value.int .i64))[j]? = some u → w.cell? ⟨b, o + j, none⟩ = some u) (hb : b < B) (low : Below B w w') (h : xs[k]? = some x) :
    w'.cell? ⟨b, o + k, none⟩ = some (.int .i64 x) := (low.cell (p := ⟨b, o + k, none⟩) hb).trans (hc k _ (by rw [List.getElem?_map, h]; rfl))




/-! Next. -/
abbrev dd0 : Value := .agg #[.int .i64 0, .int .i64 0, .int .i64 0, .int .u64 0]
/-- Where Next finds no program. -/
def NextBad (p : List (List Dd)) (xs : List Int) (node : Int) : Prop := node < 0 ∨ (p.length : Int) ≤ node ∨ xs.length ≠ p.length ∨ ∃ a, xs[node.toNat]? = some a ∧ a < 0

set_option maxHeartbeats 1000000 in
theorem next_bad (v av : Value) (p : List (List Dd)) (xs : List Int) (node : Int) (w : World) (h : Ps w v p) (ha : Sl w w.heap.size 1 av xs.length (xs.map (Value.int .i64))) (hbad : NextBad p xs node) :
    Calls Try.prog 19 #[v, av, .int .i64 node] w fun e w' => e = .returned (.tuple #[dd0, .bool false, .int .i64 4]) ∧ Below w.heap.size w w' := by
  obtain ⟨A, c, rfl, h1, h2, h3⟩ := h.ex
  obtain ⟨_, A2, c2, rfl, g1, g2, g3⟩ := ha
  have G3 := Lib.hid g3
  unfold maxLen at h2 g2
  clear h h3 g3
  have low := Below.refl w.heap.size w
  have db := boxNext low 36 #[.int .i64 0, .int .i64 0, .int .i64 0, .int .u64 0]
  replace low := gAlloc low (.cells #[.int .i64 0, .int .i64 0, .int .i64 0, .int .u64 0] 36)
  try simp only [World.size_alloc] at db
  by_cases r1 : node < 0
  · clear hbad
    go_enter Try.func19, Try.ntmps19
    have db_0 := db.at_ 0 rfl
    have db_1 := db.at_ 1 rfl
    have db_2 := db.at_ 2 rfl
    have db_3 := db.at_ 3 rfl
    go_wp2_with fail
    refine bodyPost_ret (v := .tuple #[dd0, .bool false, .int .i64 4]) (by simp [results, Try.results19, go_sem, db_0, db_1, db_2, db_3]) rfl ⟨rfl, ?_⟩
    repeat (refine gSet ?_ (by dsimp only; omega) _)
    exact low
  · have r1' : (0 : Int) ≤ node := by omega
    by_cases r2 : (p.length : Int) ≤ node
    · have r2' : decide ((p.length : Int) ≤ node) = true := decide_eq_true r2
      clear hbad
      go_enter Try.func19, Try.ntmps19
      have db_0 := db.at_ 0 rfl
      have db_1 := db.at_ 1 rfl
      have db_2 := db.at_ 2 rfl
      have db_3 := db.at_ 3 rfl
      go_wp2_with fail
      refine bodyPost_ret (v := .tuple #[dd0, .bool false, .int .i64 4]) (by simp [results, Try.results19, go_sem, db_0, db_1, db_2, db_3]) rfl ⟨rfl, ?_⟩
      repeat (refine gSet ?_ (by dsimp only; omega) _)
      exact low
    · have r2' : decide ((p.length : Int) ≤ node) = false := decide_eq_false r2
      by_cases r3 : xs.length = p.length
      · have r3' : ((xs.length : Int) != (p.length : Int)) = false := by simp [r3]
        obtain ⟨k, rfl⟩ : ∃ k : Nat, node = k := ⟨node.toNat, by omega⟩
        obtain ⟨a, ha, hneg⟩ : ∃ a, xs[k]? = some a ∧ a < 0 := by
          rcases hbad with h | h | h | ⟨a, h1, h2⟩
          · omega
          · omega
          · exact absurd r3 h
          · exact ⟨a, by simpa using h1, h2⟩
        have r2n : decide (p.length ≤ k) = false := decide_eq_false (by omega)
        obtain ⟨b, o, rfl, hb, hc⟩ := G3.out (by omega)
        have ca := int_at hc hb low ha
        have k1 : (k : Int) < xs.length := by omega
        clear hbad hc r2 r3 ha
        go_enter Try.func19, Try.ntmps19
        have db_0 := db.at_ 0 rfl
        have db_1 := db.at_ 1 rfl
        have db_2 := db.at_ 2 rfl
        have db_3 := db.at_ 3 rfl
        go_wp2_with fail
        refine bodyPost_ret (v := .tuple #[dd0, .bool false, .int .i64 4]) (by simp [results, Try.results19, go_sem, db_0, db_1, db_2, db_3]) rfl ⟨rfl, ?_⟩
        repeat (refine gSet ?_ (by dsimp only; omega) _)
        exact low
      · have r3' : ((xs.length : Int) != (p.length : Int)) = true := by simp; omega
        clear hbad r3
        go_enter Try.func19, Try.ntmps19
        have db_0 := db.at_ 0 rfl
        have db_1 := db.at_ 1 rfl
        have db_2 := db.at_ 2 rfl
        have db_3 := db.at_ 3 rfl
        go_wp2_with fail
        refine bodyPost_ret (v := .tuple #[dd0, .bool false, .int .i64 4]) (by simp [results, Try.results19, go_sem, db_0, db_1, db_2, db_3]) rfl ⟨rfl, ?_⟩
        repeat (refine gSet ?_ (by dsimp only; omega) _)
        exact low

/-- What Next finds at place j of program k. -/
def NextIs (l : List Dd) (a : Int) (e : Ending) : Prop :=
  ((l.length : Int) ≤ a ∧ e = .returned (.tuple #[dd0, .bool false, .int .i64 0])) ∨ ∃ (j : Nat) (d : Dd), a = j ∧ l[j]? = some d ∧ e = .returned (.tuple #[d.val, .bool true, .int .i64 0])
theorem next_good (v av : Value) (p : List (List Dd)) (xs : List Int) (k : Nat) (a : Int) (l : List Dd) (w : World) (h : Ps w v p) (ha : Sl w w.heap.size 1 av xs.length (xs.map (Value.int .i64)))
    (hl : xs.length = p.length) (hp : p[k]? = some l) (hx : xs[k]? = some a) (h0 : 0 ≤ a) :
    Calls Try.prog 19 #[v, av, .int .i64 k] w fun e w' => NextIs l a e ∧ Below w.heap.size w w' := by
  obtain ⟨A, c, rfl, h1, h2, h3⟩ := h.ex
  obtain ⟨_, A2, c2, rfl, g1, g2, g3⟩ := ha
  have hk := (List.getElem?_eq_some_iff.1 hp).1
  obtain ⟨b, o, rfl, hb, hc⟩ := g3 (by omega)
  obtain ⟨b2, o2, rfl, hb2, hc2⟩ := h3 (by omega)
  obtain ⟨A3, c3, e3, ds⟩ := hc2 k l hp
  have DS := Lib.hid ds
  unfold maxLen at h2 g2
  have low := Below.refl w.heap.size w
  have db := boxNext low 36 #[.int .i64 0, .int .i64 0, .int .i64 0, .int .u64 0]
  replace low := gAlloc low (.cells #[.int .i64 0, .int .i64 0, .int .i64 0, .int .u64 0] 36)
  try simp only [World.size_alloc] at db
  have ca := int_at hc hb low hx
  have cp := (low.cell (p := ⟨b2, o2 + k, none⟩) hb2).trans e3
  have k0 : (0 : Int) ≤ k := by omega
  have k1 : (k : Int) < p.length := by omega
  have k2 : (k : Int) < xs.length := by omega
  have r2' : decide ((p.length : Int) ≤ k) = false := decide_eq_false (by omega)
  have r2n : decide (p.length ≤ k) = false := decide_eq_false (by omega)
  have r3' : ((xs.length : Int) != (p.length : Int)) = false := by simp [hl]
  clear h h3 g3 hc hc2 e3 ds hl hp hx
  by_cases hE : (l.length : Int) ≤ a
  · have E' : decide ((l.length : Int) ≤ a) = true := decide_eq_true hE
    go_enter Try.func19, Try.ntmps19
    have db_0 := db.at_ 0 rfl
    have db_1 := db.at_ 1 rfl
    have db_2 := db.at_ 2 rfl
    have db_3 := db.at_ 3 rfl
    go_wp2_with fail
    go_quiet (fail)
    go_wp2_with fail
    refine bodyPost_ret (v := .tuple #[dd0, .bool false, .int .i64 0]) (by simp [results, Try.results19, go_sem, db_0, db_1, db_2, db_3]) rfl ⟨.inl ⟨hE, rfl⟩, ?_⟩
    repeat (refine gSet ?_ (by dsimp only; omega) _)
    exact gDrewN low _
  · have E' : decide ((l.length : Int) ≤ a) = false := decide_eq_false hE
    obtain ⟨j, rfl⟩ : ∃ j : Nat, a = j := ⟨a.toNat, by omega⟩
    have hj : j < l.length := by omega
    have En : decide (l.length ≤ j) = false := decide_eq_false (by omega)
    have hd : l[j]? = some l[j] := List.getElem?_eq_getElem _
    generalize l[j] = d at hd
    obtain ⟨_, A4, c4, e4, g1, g2, g3⟩ := DS.out
    obtain ⟨rfl, rfl⟩ : A3 = A4 ∧ c3 = c4 := by injection e4 with e5 _ e6; exact ⟨e5, e6⟩
    obtain ⟨b3, o3, rfl, hb3, hc3⟩ := g3 (by omega)
    obtain ⟨c0, c1, c2, c3⟩ := deedAt_of hc3 hb3 low hd
    have HD := Lib.hid hd
    unfold maxLen at g2
    have j1 : (j : Int) < l.length := by omega
    clear g3 hc3 hd e4
    go_enter Try.func19, Try.ntmps19
    have db_f0 := db.frozen 0
    have db_f1 := db.frozen 1
    have db_f2 := db.frozen 2
    have db_f3 := db.frozen 3
    have db_0 := db.at_ 0 rfl
    have db_1 := db.at_ 1 rfl
    have db_2 := db.at_ 2 rfl
    have db_3 := db.at_ 3 rfl
    go_wp2_with fail
    go_quiet (fail)
    go_wp2_with fail
    go_region
    all_goals go_wp2_with fail
    refine bodyPost_ret (v := .tuple #[d.val, .bool true, .int .i64 0]) (by simp [results, Try.results19, go_sem, db_0, db_1, db_2, db_3]) rfl ⟨.inr ⟨j, d, rfl, HD.out, rfl⟩, ?_⟩
    repeat (refine gSet ?_ (by dsimp only; omega) _)
    exact gDrewN low _
end Go.Proofs.Ytgoaedbhcldmiaa
