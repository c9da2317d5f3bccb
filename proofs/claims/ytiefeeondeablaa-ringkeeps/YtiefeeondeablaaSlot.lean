/-
Proved: words for slots of a ring and for slices of slots; what the small functions of package ring return, for every argument. No condition.
-/
import Derived.Test.YtiefeeondeablaaAddr
import Derived.Test.YtiefeeondeablaaFlatEq
import Derived.Test.YtiefeeondeablaaWhole
import Derived.Test.YtiefeeondeablaaRegion
import Derived.Laws.MakeOwn
namespace Go.Proofs.Ytiefeeondeablaa
open Go.ChangeShapes Go.WideShapes Go.ChangeAt Go.RowKit Go.Joins

/-- A slot: where it is, whether it is full, by which node, how long it waits. -/
structure Sw where
  pl : Int
  fu : Bool
  nd : Int
  wt : Int

def eqS (x y : Sw) : Bool := x.pl == y.pl && (x.fu == y.fu && (x.nd == y.nd && x.wt == y.wt))
theorem eqS_iff (x y : Sw) : eqS x y = true ↔ x = y := by
  obtain ⟨a, b, c, d⟩ := x
  obtain ⟨a', b', c', d'⟩ := y
  simp [eqS]
instance : DecidableEq Sw := fun x y => decidable_of_iff (eqS x y = true) (eqS_iff x y)

abbrev Sw.arr (x : Sw) : Array Value := #[.int .i64 x.pl, .bool x.fu, .int .i64 x.nd, .int .i64 x.wt]
abbrev Sw.val (x : Sw) : Value := .agg #[.int .i64 x.pl, .bool x.fu, .int .i64 x.nd, .int .i64 x.wt]
def Sw.cells (x : Sw) : List Value := [.int .i64 x.pl, .bool x.fu, .int .i64 x.nd, .int .i64 x.wt]
def ringC (l : List Sw) : List Value := l.flatMap Sw.cells
/-- The empty slot at node 0. -/
abbrev sw0 : Sw := ⟨0, false, 0, 0⟩

theorem ringC_length (l : List Sw) : (ringC l).length = l.length * 4 := by
  induction l with
  | nil => rfl
  | cons x r ih => simp only [ringC, List.flatMap_cons, List.length_append, List.length_cons] at *; rw [ih]; simp [Sw.cells]; omega

theorem ringC_at {l : List Sw} {k : Nat} {x : Sw} (h : l[k]? = some x) (j : Nat) (hj : j < 4) : (ringC l)[k * 4 + j]? = x.cells[j]? := by
  induction l generalizing k with
  | nil => simp at h
  | cons y r ih =>
    have hy : y.cells.length = 4 := rfl
    simp only [ringC, List.flatMap_cons] at *
    cases k with
    | zero =>
      simp at h
      subst h
      rw [List.getElem?_append_left (by omega)]
      simp
    | succ k =>
      rw [List.getElem?_append_right (by omega), hy]
      have : (k + 1) * 4 + j - 4 = k * 4 + j := by omega
      rw [this]
      exact ih (by simpa using h)

theorem ringC_append (a b : List Sw) : ringC (a ++ b) = ringC a ++ ringC b := List.flatMap_append

theorem ringC_one (l : List Sw) : ∀ u ∈ ringC l, u.oneCell' = true := by
  intro u hu
  simp only [ringC, List.mem_flatMap] at hu
  obtain ⟨x, _, hx⟩ := hu
  simp [Sw.cells] at hx
  rcases hx with rfl | rfl | rfl | rfl <;> rfl

/-- The slice reads as this list of slots. -/
structure Rs (w : World) (v : Value) (l : List Sw) : Prop where
  sl : Sl w w.heap.size 4 v l.length (ringC l)
theorem Rs.call {w w' : World} {v : Value} {l : List Sw} (h : Rs w v l) (hb : Below w.heap.size w w') : Rs w' v l := ⟨Sl.call h.sl hb⟩
theorem Rs.alloc {w : World} {v : Value} {l : List Sw} (h : Rs w v l) (o : Obj) : Rs (w.alloc o) v l := h.call (gAlloc (Below.refl _ _) o)
theorem Rs.drew {w : World} {v : Value} {l : List Sw} (h : Rs w v l) : Rs w.drew v l := h.call (Below.refl _ _).drew
theorem Rs.nil (w : World) : Rs w (.slice none 0 0) [] := ⟨rfl, none, 0, rfl, Nat.le_refl _, Nat.zero_le _, fun h => absurd h (Nat.lt_irrefl 0)⟩
theorem Rs.shape {w : World} {v : Value} {l : List Sw} (h : Rs w v l) : ∃ A c, v = .slice A l.length c := by
  obtain ⟨_, A, c, e, _⟩ := h
  exact ⟨A, c, e⟩

/-- The cells of slot k, in a world that keeps what was there. -/
def SlotAt (w : World) (b o : Nat) (x : Sw) : Prop :=
  w.cell? ⟨b, o, none⟩ = some (.int .i64 x.pl) ∧ w.cell? ⟨b, o + 1, none⟩ = some (.bool x.fu) ∧ w.cell? ⟨b, o + 2, none⟩ = some (.int .i64 x.nd) ∧ w.cell? ⟨b, o + 3, none⟩ = some (.int .i64 x.wt)

theorem slotAt_of {w w' : World} {b o B : Nat} {l : List Sw} {k : Nat} {x : Sw} (hc : ∀ j u, (ringC l)[j]? = some u → w.cell? ⟨b, o + j, none⟩ = some u) (hb : b < B) (low : Below B w w') (h : l[k]? = some x) : SlotAt w' b (o + k * 4) x := by
  have f : ∀ j u, j < 4 → x.cells[j]? = some u → w'.cell? ⟨b, o + k * 4 + j, none⟩ = some u := by
    intro j u hj hu
    refine (low.cell (p := ⟨b, o + k * 4 + j, none⟩) hb).trans ?_
    rw [Nat.add_assoc]
    exact hc _ _ ((ringC_at h j hj).trans hu)
  exact ⟨f 0 _ (by omega) rfl, f 1 _ (by omega) rfl, f 2 _ (by omega) rfl, f 3 _ (by omega) rfl⟩

/-! An argument that is a ring. -/
theorem slot_of {cs : List Value} (h : AllOk [.int .i64, .bool, .int .i64, .int .i64] cs) : ∃ x : Sw, cs = x.cells := by
  obtain ⟨_, _, rfl, ⟨a, rfl, _⟩, h1⟩ := h.cons_
  obtain ⟨_, _, rfl, ⟨b, rfl⟩, h2⟩ := h1.cons_
  obtain ⟨_, _, rfl, ⟨c, rfl, _⟩, h3⟩ := h2.cons_
  obtain ⟨_, _, rfl, ⟨d, rfl, _⟩, h4⟩ := h3.cons_
  obtain rfl := h4.nil_
  exact ⟨⟨a, b, c, d⟩, rfl⟩

theorem slots_of : ∀ {css : List (List Value)}, (∀ c ∈ css, ∃ x : Sw, c = x.cells) → ∃ l : List Sw, l.length = css.length ∧ css.flatten = ringC l
  | [], _ => ⟨[], rfl, rfl⟩
  | c :: r, h => by
    obtain ⟨x, rfl⟩ := h c (by simp)
    obtain ⟨l, h1, h2⟩ := slots_of (css := r) (fun d hd => h d (by simp [hd]))
    exact ⟨x :: l, by simp [h1], by simp only [List.flatten_cons, ringC, List.flatMap_cons] at *; rw [h2]⟩

def IsRing (w : World) (v : Value) : Prop := ∃ l, Rs w v l

section
variable {H : Type} {enc : TypeId × Value → H} {W : World} {base : Nat} {v : Value} {d : DataW H} {p : List MemPlace}
theorem cells_slot : Try.prog.cellsOf 38 = 4 := by kernel_rfl

set_option maxRecDepth 10000 in
theorem openRing (hv : Value.okWide Try.prog W .any base 25 v) (h : DataW.Trod enc Try.prog W 0 (fun _ => true) true 25 v d p) : IsRing W v := by
  obtain ⟨css, sl, hcs⟩ := slice_value Try.underlying25 (by rw [cells_slot]; omega) hv h
  obtain ⟨l, l1, l2⟩ := slots_of (css := css) (fun c hc => by
    obtain ⟨_, m, y, hy⟩ := hcs c hc
    exact slot_of (flat_open 3 38 _ (by kernel_rfl) m c y hy))
  rw [cells_slot, l2, ← l1] at sl
  exact ⟨l, ⟨sl⟩⟩
end

/-! The first slot of which a test holds. -/
def idxS (p : Sw → Bool) (l : List Sw) : Int := match l.findIdx? p with | some k => k | none => -1

theorem idxS_none {p : Sw → Bool} {l : List Sw} (h : ∀ (k : Nat) x, l[k]? = some x → p x = false) : idxS p l = -1 := by
  have : l.findIdx? p = none := by
    rw [List.findIdx?_eq_none_iff]
    intro x hx
    obtain ⟨k, hk, e⟩ := List.getElem_of_mem hx
    exact h k x (by rw [List.getElem?_eq_getElem hk, e])
  rw [idxS, this]

theorem idxS_some {p : Sw → Bool} {l : List Sw} {k : Nat} {x : Sw} (h : ∀ j y, j < k → l[j]? = some y → p y = false) (hk : l[k]? = some x) (hp : p x = true) : idxS p l = k := by
  have : l.findIdx? p = some k := by
    rw [List.findIdx?_eq_some_iff_getElem]
    obtain ⟨hlt, e⟩ := List.getElem?_eq_some_iff.1 hk
    refine ⟨hlt, by rw [e]; exact hp, fun j hj => ?_⟩
    rw [h j _ hj (List.getElem?_eq_getElem (by omega))]
    decide
  rw [idxS, this]

theorem uptoS {p : Sw → Bool} {l : List Sw} {k : Nat} {x : Sw} (h : ∀ j y, j < k → l[j]? = some y → p y = false) (hk : l[k]? = some x) (hp : p x = false) : ∀ j y, j < k + 1 → l[j]? = some y → p y = false := by
  intro j y hj hy
  by_cases e : j < k
  · exact h j y e hy
  · obtain rfl : j = k := by omega
    rw [hk] at hy
    cases hy
    exact hp

theorem allS {p : Sw → Bool} {l : List Sw} {k : Nat} (h : ∀ j y, j < k → l[j]? = some y → p y = false) (hk : ¬ k < l.length) : ∀ (j : Nat) y, l[j]? = some y → p y = false := by
  intro j y hy
  obtain ⟨hj, _⟩ := List.getElem?_eq_some_iff.1 hy
  exact h j y (by omega) hy

theorem idxS_cases (p : Sw → Bool) (l : List Sw) : (idxS p l = -1 ∧ ∀ x ∈ l, p x = false) ∨ ∃ k x, idxS p l = (k : Nat) ∧ l[k]? = some x ∧ p x = true ∧ ∀ j y, j < k → l[j]? = some y → p y = false := by
  cases e : l.findIdx? p with
  | none =>
    refine .inl ⟨by rw [idxS, e], ?_⟩
    rw [List.findIdx?_eq_none_iff] at e
    exact e
  | some k =>
    refine .inr ?_
    have e' := e
    rw [List.findIdx?_eq_some_iff_getElem] at e
    obtain ⟨hk, e1, e2⟩ := e
    refine ⟨k, l[k], by rw [idxS, e'], List.getElem?_eq_getElem hk, e1, fun j y hj hy => ?_⟩
    obtain ⟨hlt, rfl⟩ := List.getElem?_eq_some_iff.1 hy
    simpa using e2 j hj

theorem idxS_any (p : Sw → Bool) (l : List Sw) : decide (0 ≤ idxS p l) = l.any p := by
  rcases idxS_cases p l with ⟨e, h⟩ | ⟨k, x, e, hx, hp, _⟩
  · rw [e, List.any_eq_false.2 (fun x hx => by rw [h x hx]; decide)]; rfl
  · rw [e, List.any_eq_true.2 ⟨x, List.mem_of_getElem? hx, hp⟩]
    exact decide_eq_true (by omega)

/-- slices.IndexFunc, of a test that reads one captured variable. -/
theorem indexSlot (F : Nat) (eg : ∀ args w, (callFunc F args).run Try.prog w = .ok (.enter F args) w) (g : Nat) (p : Sw → Bool) (v : Value) (l : List Sw) (w : World) (h : Rs w v l)
    (C : ∀ x W, Below w.heap.size w W → Calls Try.prog F #[x.val, .pointer (some ⟨g, 0, none⟩)] W fun e w' => e = .returned (.bool (p x)) ∧ Below W.heap.size W w') :
    Calls Try.prog 31 #[v, .func (.func F) #[] #[.pointer (some ⟨g, 0, none⟩)]] w fun e w' => e = .returned (.int .i64 (idxS p l)) ∧ Below w.heap.size w w' := by
  obtain ⟨_, A, c, rfl, h1, h2, h3⟩ := h
  have H3 := Lib.hid h3
  have CC := Lib.hid C
  unfold maxLen at h2
  clear h3 C
  have low := Below.refl w.heap.size w
  go_enter Try.func31, Try.ntmps31
  go_wp2_with fail
  go_loopw [8] (fun i wr => ∃ j : Nat, j ≤ l.length ∧ i = .int .i64 j ∧ Hid (∀ q y, q < j → l[q]? = some y → p y = false) ∧ Below w.heap.size w wr) (fun i _ => l.length - (intOf i).toNat)
  case atStart => exact ⟨0, Nat.zero_le _, rfl, Lib.hid fun q y hq => absurd hq (by omega), low⟩
  case round =>
    clear low
    obtain ⟨j, hj, rfl, hno, low⟩ := hrel
    by_cases hlt : j < l.length
    · obtain ⟨b, o, rfl, hb, hc⟩ := H3.out (by omega)
      have hx : l[j]? = some l[j] := List.getElem?_eq_getElem _
      generalize l[j] = x at hx
      obtain ⟨c0, c1, c2, c3⟩ := slotAt_of hc hb low hx
      have HX := Lib.hid hx
      have S := Lib.hid (CC.out x wr low)
      have j0 : (0 : Int) ≤ j := by omega
      have j1 : (j : Int) < l.length := by omega
      clear hx hc
      generalize hp : p x = B at S
      have HP := Lib.hid hp
      clear hp
      go_wp2_with fail
      (with_reducible refine S.out.mono ?_); rintro e w2 ⟨rfl, hb2⟩
      replace low := gCall low hb2
      clear hb2 c0 c1 c2 c3
      cases B
      · go_wp2_with fail
        go_roundw
        case rel => exact ⟨j + 1, by omega, by go_num, Lib.hid (uptoS hno.out HX.out HP.out), low⟩
        case measure => simp [intOf]; omega
      · go_wp2_with fail
        go_ret
        exact ⟨by rw [idxS_some hno.out HX.out HP.out]; rfl, low⟩
    · go_wp2_with fail
      go_ret
      exact ⟨by rw [idxS_none (allS hno.out hlt)]; rfl, low⟩

theorem containsSlot (F : Nat) (eg : ∀ args w, (callFunc F args).run Try.prog w = .ok (.enter F args) w) (g : Nat) (p : Sw → Bool) (v : Value) (l : List Sw) (w : World) (h : Rs w v l)
    (C : ∀ x W, Below w.heap.size w W → Calls Try.prog F #[x.val, .pointer (some ⟨g, 0, none⟩)] W fun e w' => e = .returned (.bool (p x)) ∧ Below W.heap.size W w') :
    Calls Try.prog 41 #[v, .func (.func F) #[] #[.pointer (some ⟨g, 0, none⟩)]] w fun e w' => e = .returned (.bool (l.any p)) ∧ Below w.heap.size w w' := by
  have I := Lib.hid (indexSlot F eg g p v l w h C)
  obtain ⟨A, c, rfl⟩ := h.shape
  clear h C
  rw [← idxS_any]
  generalize idxS p l = r at I ⊢
  have low := Below.refl w.heap.size w
  go_enter Try.func41, Try.ntmps41
  go_wp2_with fail
  (with_reducible refine (Calls.mono I.out ?_)); rintro e w2 ⟨rfl, hb⟩
  replace low := gCall low hb
  clear hb
  go_wp2_with fail
  go_ret
  exact ⟨rfl, low⟩

/-! Has a node filled a slot? -/
def filS (node : Int) (x : Sw) : Bool := x.fu && x.nd == node
def filB (l : List Sw) (node : Int) : Bool := l.any (filS node)

theorem hasFilled1_any (x : Sw) (node : Int) (g : Nat) (w : World) (hc : w.cell? ⟨g, 0, none⟩ = some (.int .i64 node)) :
    Calls Try.prog 42 #[x.val, .pointer (some ⟨g, 0, none⟩)] w fun e w' => e = .returned (.bool (filS node x)) ∧ Below w.heap.size w w' := by
  obtain ⟨a, f, n, t⟩ := x
  have hg := block_lt_of_cell hc
  unfold filS
  simp only at hg ⊢
  have low := Below.refl w.heap.size w
  cases f
  · go_enter Try.func42, Try.ntmps42
    go_wp2_with fail
    go_ret
    exact ⟨rfl, gAlloc low _⟩
  · generalize hq : (n == node) = B
    go_enter Try.func42, Try.ntmps42
    go_wp2_with fail
    go_ret
    exact ⟨rfl, gAlloc low _⟩

theorem hasFilled_any (v : Value) (l : List Sw) (node : Int) (w : World) (h : Rs w v l) :
    Calls Try.prog 28 #[v, .int .i64 node] w fun e w' => e = .returned (.bool (filB l node)) ∧ Below w.heap.size w w' := by
  have CON := Lib.hid (fun (W : World) (hr : Rs W v l) (hc : Box W w.heap.size 3 #[.int .i64 node]) => containsSlot 42 (fun _ _ => by kernel_rfl) w.heap.size (filS node) v l W hr (fun x W' hb => hasFilled1_any x node w.heap.size W' ((hc.call hb).at_ 0 rfl)))
  obtain ⟨A, c, rfl⟩ := h.shape
  unfold filB
  generalize l.any (filS node) = B at CON ⊢
  have low := Below.refl w.heap.size w
  have nb := boxNext low 3 #[.int .i64 node]
  replace low := gAlloc low (.cells #[.int .i64 node] 3)
  replace h := h.alloc (.cells #[.int .i64 node] 3)
  try simp only [World.size_alloc] at nb
  go_enter Try.func28, Try.ntmps28
  go_wp2_with fail
  (with_reducible refine (CON.out _ h nb).mono ?_); rintro e w2 ⟨rfl, hb⟩
  replace low := gCall low hb
  clear hb
  go_wp2_with fail
  go_ret
  exact ⟨rfl, low⟩

/-! Nodes and waits. -/
def nodB (n k : Int) : Bool := decide (0 ≤ k ∧ k < n)
def waitB (k : Int) : Bool := decide (0 ≤ k ∧ k ≤ 9)
theorem nodB_iff {n k : Int} : nodB n k = true ↔ 0 ≤ k ∧ k < n := by unfold nodB; exact decide_eq_true_iff
theorem waitB_iff {k : Int} : waitB k = true ↔ 0 ≤ k ∧ k ≤ 9 := by unfold waitB; exact decide_eq_true_iff

theorem isNode_any (n s y b k : Int) (w : World) : Calls Try.prog 26 #[cfg n s y b, .int .i64 k] w fun e w' => e = .returned (.bool (nodB n k)) ∧ Below w.heap.size w w' := by
  have h := Below.refl w.heap.size w
  have N := Lib.hid (show nodB n k = (decide (0 ≤ k) && decide (k < n)) by unfold nodB; rw [Bool.decide_and])
  rw [N.out]
  by_cases h0 : 0 ≤ k
  · have e0 : decide (0 ≤ k) = true := decide_eq_true h0
    rw [e0, Bool.true_and]
    generalize hq : decide (k < n) = B
    go_enter Try.func26, Try.ntmps26
    go_wp2_with fail
    go_ret
    exact ⟨rfl, gAlloc h _⟩
  · have e0 : decide (0 ≤ k) = false := decide_eq_false h0
    rw [e0, Bool.false_and]
    go_enter Try.func26, Try.ntmps26
    go_wp2_with fail
    go_ret
    exact ⟨rfl, gAlloc h _⟩

theorem isWait_any (k : Int) (w : World) : Calls Try.prog 27 #[.int .i64 k] w fun e w' => e = .returned (.bool (waitB k)) ∧ w = w' := by
  have N := Lib.hid (show waitB k = (decide (0 ≤ k) && decide (k ≤ 9)) by unfold waitB; rw [Bool.decide_and])
  rw [N.out]
  by_cases h0 : 0 ≤ k
  · have e0 : decide (0 ≤ k) = true := decide_eq_true h0
    rw [e0, Bool.true_and]
    generalize hq : decide (k ≤ 9) = B
    go_enter Try.func27, Try.ntmps27
    go_wp2_with fail
    go_ret
    exact ⟨rfl, rfl⟩
  · have e0 : decide (0 ≤ k) = false := decide_eq_false h0
    rw [e0, Bool.false_and]
    go_enter Try.func27, Try.ntmps27
    go_wp2_with fail
    go_ret
    exact ⟨rfl, rfl⟩
end Go.Proofs.Ytiefeeondeablaa
