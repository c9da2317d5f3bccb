/-
Proved: words for operations and lists of them; what Right of package atomic returns, for every operation; an argument that is an operation, or a list of them. No condition.
-/
import Derived.Test.YtcegjehoejgofaaAddr
import Derived.Test.YtcegjehoejgofaaFlatEq
namespace Go.Proofs.Ytcegjehoejgofaa
open Go.ChangeShapes Go.WideShapes Go.ChangeAt Go.RowKit Go.Joins

/-- An operation: node, kind, address, value. -/
structure Dd where
  nd : Int
  kd : Int
  ad : Int
  vl : Int
abbrev Dd.cells (d : Dd) : List Value := [.int .i64 d.nd, .int .i64 d.kd, .int .i64 d.ad, .int .u64 d.vl]
abbrev Dd.arr (d : Dd) : Array Value := #[.int .i64 d.nd, .int .i64 d.kd, .int .i64 d.ad, .int .u64 d.vl]
abbrev Dd.val (d : Dd) : Value := .agg d.arr

/-- The kinds that set a word; those that tell it. -/
def setsB (k : Int) : Bool := k == 2 || k == 3
def tellsB (k : Int) : Bool := k == 1 || k == 3
/-- The first error of an operation. -/
def deedE (d : Dd) : Int :=
  if d.nd < 0 ∨ 7 < d.nd then 4 else if d.kd < 1 ∨ 4 < d.kd then 1 else if d.ad < 0 ∨ 63 < d.ad then 4 else if setsB d.kd = false ∧ d.vl ≠ 0 then 3 else 0

theorem deedE_ok {d : Dd} (h : deedE d = 0) : (0 ≤ d.nd ∧ d.nd < 8) ∧ (1 ≤ d.kd ∧ d.kd ≤ 4) ∧ (∃ i : Nat, i < 64 ∧ d.ad = i) := by
  unfold deedE at h
  repeat' split at h
  all_goals first | (exfalso; revert h; decide) | skip
  exact ⟨by omega, by omega, d.ad.toNat, by omega, by omega⟩

theorem sets_any (k : Int) (w : World) : Calls Try.prog 22 #[.int .i64 k] w fun e w' => e = .returned (.bool (setsB k)) ∧ w = w' := by
  unfold setsB
  cases h2 : (k == 2) <;> cases h3 : (k == 3) <;>
  · go_enter Try.func22, Try.ntmps22
    go_wp2
    go_ret
    exact ⟨rfl, rfl⟩

theorem tells_any (k : Int) (w : World) : Calls Try.prog 24 #[.int .i64 k] w fun e w' => e = .returned (.bool (tellsB k)) ∧ w = w' := by
  unfold tellsB
  cases h2 : (k == 1) <;> cases h3 : (k == 3) <;>
  · go_enter Try.func24, Try.ntmps24
    go_wp2
    go_ret
    exact ⟨rfl, rfl⟩

theorem isKind_yes (k : Int) (w : World) (h1 : 1 ≤ k) (h2 : k ≤ 4) : Calls Try.prog 27 #[.int .i64 k] w fun e w' => e = .returned (.bool true) ∧ w = w' := by
  go_enter Try.func27, Try.ntmps27
  go_wp2
  go_ret
  exact ⟨rfl, rfl⟩
theorem isKind_no (k : Int) (w : World) (h : k < 1 ∨ 4 < k) : Calls Try.prog 27 #[.int .i64 k] w fun e w' => e = .returned (.bool false) ∧ w = w' := by
  by_cases h0 : k < 1
  · have h1 : decide (1 ≤ k) = false := by simp; omega
    clear h h0
    go_enter Try.func27, Try.ntmps27
    go_wp2
    go_ret
    exact ⟨rfl, rfl⟩
  · have h1 : 1 ≤ k := by omega
    have h2 : decide (k ≤ 4) = false := by simp; omega
    clear h h0
    go_enter Try.func27, Try.ntmps27
    go_wp2
    go_ret
    exact ⟨rfl, rfl⟩

theorem atomicRight_any (d : Dd) (w : World) : Calls Try.prog 20 #[d.val] w fun e w' => e = .returned (.int .i64 (deedE d)) ∧ Below w.heap.size w w' := by
  obtain ⟨n, k, a, v⟩ := d
  have low := Below.refl w.heap.size w
  have db := Box.new w 41 #[.int .i64 n, .int .i64 k, .int .i64 a, .int .u64 v]
  replace low := gAlloc low (.cells #[.int .i64 n, .int .i64 k, .int .i64 a, .int .u64 v] 41)
  by_cases h0 : n < 0 ∨ 7 < n
  · rw [show deedE ⟨n, k, a, v⟩ = 4 by simp [deedE, h0]]
    by_cases h1 : n < 0
    · clear h0
      go_enter Try.func20, Try.ntmps20
      have db_0 := db.at_ 0 rfl
      have db_1 := db.at_ 1 rfl
      have db_2 := db.at_ 2 rfl
      have db_3 := db.at_ 3 rfl
      go_wp2_with fail
      go_ret
      exact ⟨rfl, low⟩
    · have h2 : 0 ≤ n := by omega
      have h3 : 8 ≤ n := by omega
      clear h0 h1
      go_enter Try.func20, Try.ntmps20
      have db_0 := db.at_ 0 rfl
      have db_1 := db.at_ 1 rfl
      have db_2 := db.at_ 2 rfl
      have db_3 := db.at_ 3 rfl
      go_wp2_with fail
      go_ret
      exact ⟨rfl, low⟩
  have n0 : 0 ≤ n := by omega
  have n1 : n < 8 := by omega
  by_cases h1 : k < 1 ∨ 4 < k
  · rw [show deedE ⟨n, k, a, v⟩ = 1 by simp [deedE, h0, h1]]
    have B := Lib.hid fun W => isKind_no k W h1
    clear h0 h1
    go_enter Try.func20, Try.ntmps20
    have db_0 := db.at_ 0 rfl
    have db_1 := db.at_ 1 rfl
    have db_2 := db.at_ 2 rfl
    have db_3 := db.at_ 3 rfl
    go_wp2_with fail
    (with_reducible refine (B.out _).mono ?_); rintro e w' ⟨rfl, rfl⟩
    go_wp2_with fail
    go_ret
    exact ⟨rfl, low⟩
  have B := Lib.hid fun W => isKind_yes k W (by omega) (by omega)
  by_cases h2 : a < 0 ∨ 63 < a
  · rw [show deedE ⟨n, k, a, v⟩ = 4 by simp [deedE, h0, h1, h2]]
    have L := Lib.hid fun W => line_out a W h2
    clear h0 h1 h2
    go_enter Try.func20, Try.ntmps20
    have db_0 := db.at_ 0 rfl
    have db_1 := db.at_ 1 rfl
    have db_2 := db.at_ 2 rfl
    have db_3 := db.at_ 3 rfl
    go_wp2_with fail
    (with_reducible refine (B.out _).mono ?_); rintro e w' ⟨rfl, rfl⟩
    go_wp2_with fail
    (with_reducible refine (L.out _).mono ?_); rintro e w' ⟨rfl, rfl⟩
    go_wp2_with fail
    go_ret
    exact ⟨rfl, low⟩
  have L := Lib.hid fun W => line_ok a W (by omega) (by omega)
  have S := Lib.hid fun W => sets_any k W
  have E := Lib.hid (show deedE ⟨n, k, a, v⟩ = if setsB k = false ∧ v ≠ 0 then 3 else 0 by simp [deedE, h0, h1, h2])
  generalize deedE ⟨n, k, a, v⟩ = e' at *
  generalize a / 4 = q at *
  generalize a % 4 = r at *
  clear h0 h1 h2
  cases hs : setsB k
  · rw [hs] at S E
    cases hv : (v != 0)
    · have E2 := Lib.hid (show e' = 0 by rw [E.out, if_neg]; simpa using hv)
      clear E
      go_enter Try.func20, Try.ntmps20
      have db_0 := db.at_ 0 rfl
      have db_1 := db.at_ 1 rfl
      have db_2 := db.at_ 2 rfl
      have db_3 := db.at_ 3 rfl
      go_wp2_with fail
      (with_reducible refine (B.out _).mono ?_); rintro e w' ⟨rfl, rfl⟩
      go_wp2_with fail
      (with_reducible refine (L.out _).mono ?_); rintro e w' ⟨rfl, rfl⟩
      go_wp2_with fail
      (with_reducible refine (S.out _).mono ?_); rintro e w' ⟨rfl, rfl⟩
      go_wp2_with fail
      go_ret
      exact ⟨by rw [E2.out]; rfl, low⟩
    · have E2 := Lib.hid (show e' = 3 by rw [E.out, if_pos]; simpa using hv)
      clear E
      go_enter Try.func20, Try.ntmps20
      have db_0 := db.at_ 0 rfl
      have db_1 := db.at_ 1 rfl
      have db_2 := db.at_ 2 rfl
      have db_3 := db.at_ 3 rfl
      go_wp2_with fail
      (with_reducible refine (B.out _).mono ?_); rintro e w' ⟨rfl, rfl⟩
      go_wp2_with fail
      (with_reducible refine (L.out _).mono ?_); rintro e w' ⟨rfl, rfl⟩
      go_wp2_with fail
      (with_reducible refine (S.out _).mono ?_); rintro e w' ⟨rfl, rfl⟩
      go_wp2_with fail
      go_ret
      exact ⟨by rw [E2.out]; rfl, low⟩
  · rw [hs] at S E
    have E2 := Lib.hid (show e' = 0 by rw [E.out, if_neg]; simp)
    clear E
    go_enter Try.func20, Try.ntmps20
    have db_0 := db.at_ 0 rfl
    have db_1 := db.at_ 1 rfl
    have db_2 := db.at_ 2 rfl
    have db_3 := db.at_ 3 rfl
    go_wp2_with fail
    (with_reducible refine (B.out _).mono ?_); rintro e w' ⟨rfl, rfl⟩
    go_wp2_with fail
    (with_reducible refine (L.out _).mono ?_); rintro e w' ⟨rfl, rfl⟩
    go_wp2_with fail
    (with_reducible refine (S.out _).mono ?_); rintro e w' ⟨rfl, rfl⟩
    go_wp2_with fail
    go_ret
    exact ⟨by rw [E2.out]; rfl, low⟩

/-! Lists of operations. -/
def deedsC (l : List Dd) : List Value := l.flatMap Dd.cells

theorem deedsC_length (l : List Dd) : (deedsC l).length = l.length * 4 := by
  induction l with
  | nil => rfl
  | cons x r ih => simp only [deedsC, List.flatMap_cons, List.length_append, List.length_cons] at *; rw [ih]; simp; omega

theorem deedsC_at {l : List Dd} {k : Nat} {x : Dd} (h : l[k]? = some x) (j : Nat) (hj : j < 4) : (deedsC l)[k * 4 + j]? = x.cells[j]? := by
  induction l generalizing k with
  | nil => simp at h
  | cons y r ih =>
    have hy : y.cells.length = 4 := rfl
    simp only [deedsC, List.flatMap_cons] at *
    cases k with
    | zero =>
      simp at h
      subst h
      rw [List.getElem?_append_left (by omega)]
      simp
    | succ k =>
      rw [List.getElem?_append_right (by omega), hy]
      have : (k + 1) * 4 + j - 4 = k * 4 + j := by omega
      rw [this]
      exact ih (by simpa using h)

/-- The slice reads as this list of operations. -/
structure Ds (w : World) (v : Value) (l : List Dd) : Prop where
  sl : Sl w w.heap.size 4 v l.length (deedsC l)
theorem Ds.call {w w' : World} {v : Value} {l : List Dd} (h : Ds w v l) (hb : Below w.heap.size w w') : Ds w' v l := ⟨Sl.call h.sl hb⟩
theorem Ds.alloc {w : World} {v : Value} {l : List Dd} (h : Ds w v l) (o : Obj) : Ds (w.alloc o) v l := h.call (gAlloc (Below.refl _ _) o)
theorem Ds.drew {w : World} {v : Value} {l : List Dd} (h : Ds w v l) : Ds w.drew v l := h.call (Below.refl _ _).drew

/-- The cells of operation k, in a world that keeps what was there. -/
def DeedAt (w : World) (b o : Nat) (x : Dd) : Prop :=
  w.cell? ⟨b, o, none⟩ = some (.int .i64 x.nd) ∧ w.cell? ⟨b, o + 1, none⟩ = some (.int .i64 x.kd) ∧ w.cell? ⟨b, o + 2, none⟩ = some (.int .i64 x.ad) ∧ w.cell? ⟨b, o + 3, none⟩ = some (.int .u64 x.vl)

theorem deedAt_of {w w' : World} {b o B : Nat} {l : List Dd} {k : Nat} {x : Dd} (hc : ∀ j u, (deedsC l)[j]? = some u → w.cell? ⟨b, o + j, none⟩ = some u) (hb : b < B) (low : Below B w w') (h : l[k]? = some x) : DeedAt w' b (o + k * 4) x := by
  have f : ∀ j u, j < 4 → x.cells[j]? = some u → w'.cell? ⟨b, o + k * 4 + j, none⟩ = some u := by
    intro j u hj hu
    refine (low.cell (p := ⟨b, o + k * 4 + j, none⟩) hb).trans ?_
    rw [Nat.add_assoc]
    exact hc _ _ ((deedsC_at h j hj).trans hu)
  exact ⟨f 0 _ (by omega) rfl, f 1 _ (by omega) rfl, f 2 _ (by omega) rfl, f 3 _ (by omega) rfl⟩

theorem deed_of {cs : List Value} (h : AllOk [.int .i64, .int .i64, .int .i64, .int .u64] cs) : ∃ x : Dd, cs = x.cells := by
  obtain ⟨_, _, rfl, ⟨a, rfl, _⟩, h1⟩ := h.cons_
  obtain ⟨_, _, rfl, ⟨b, rfl, _⟩, h2⟩ := h1.cons_
  obtain ⟨_, _, rfl, ⟨c, rfl, _⟩, h3⟩ := h2.cons_
  obtain ⟨_, _, rfl, ⟨d, rfl, _⟩, h4⟩ := h3.cons_
  obtain rfl := h4.nil_
  exact ⟨⟨a, b, c, d⟩, rfl⟩

theorem deeds_of : ∀ {css : List (List Value)}, (∀ c ∈ css, ∃ x : Dd, c = x.cells) → ∃ l : List Dd, l.length = css.length ∧ css.flatten = deedsC l
  | [], _ => ⟨[], rfl, rfl⟩
  | c :: r, h => by
    obtain ⟨x, rfl⟩ := h c (by simp)
    obtain ⟨l, h1, h2⟩ := deeds_of (css := r) (fun d hd => h d (by simp [hd]))
    exact ⟨x :: l, by simp [h1], by simp only [List.flatten_cons, deedsC, List.flatMap_cons] at *; rw [h2]⟩

def IsDeed (v : Value) : Prop := ∃ d : Dd, v = d.val
def IsDeeds (w : World) (v : Value) : Prop := ∃ l, Ds w v l

section
variable {H : Type} {enc : TypeId × Value → H} {W : World} {base : Nat} {v : Value} {d : DataW H} {p : List MemPlace}
set_option maxRecDepth 10000 in
theorem openDeed (hv : Value.okWide Try.prog W .any base 41 v) (h : DataW.Trod enc Try.prog W 0 (fun _ => true) true 41 v d p) : IsDeed v := by
  obtain ⟨cs, rfl, hk⟩ := flat_value (n := 3) (ks := [.int .i64, .int .i64, .int .i64, .int .u64]) (by kernel_rfl) (.inl ⟨_, Try.underlying41⟩) hv h
  obtain ⟨x, rfl⟩ := deed_of hk
  exact ⟨x, rfl⟩

theorem cells_deed : Try.prog.cellsOf 41 = 4 := by kernel_rfl

end
end Go.Proofs.Ytcegjehoejgofaa
