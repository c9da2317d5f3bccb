/-
Proved: words for observations (an operation and its result), lists of them, and lists of such lists; arguments that are such. No walk. No condition.
-/
import Derived.Test.YtcegjehoejgofaaOps
import Derived.Test.YtcegjehoejgofaaCells
namespace Go.Proofs.Ytcegjehoejgofaa
open Go.ChangeShapes Go.WideShapes Go.ChangeAt Go.RowKit Go.Joins

/-! Slices of slices of any flat elements. -/
/-- The slice holds these lists. -/
structure El.RR {α : Type} (E : El α) (w : World) (v : Value) (p : List (List α)) : Prop where
  ex : ∃ A c, v = .slice A p.length c ∧ p.length ≤ c ∧ c ≤ maxLen ∧ (0 < p.length → ∃ b o, A = some ⟨b, o, none⟩ ∧ b < w.heap.size ∧ ∀ (k : Nat) l, p[k]? = some l → ∃ A' c', w.cell? ⟨b, o + k, none⟩ = some (.slice A' l.length c') ∧ E.R w (.slice A' l.length c') l)
section
variable {α : Type} {E : El α} {w w' : World} {v : Value} {p : List (List α)}
theorem El.RR.call (h : E.RR w v p) (hb : Below w.heap.size w w') : E.RR w' v p := by
  obtain ⟨A, c, e, h1, h2, h3⟩ := h
  refine ⟨A, c, e, h1, h2, fun h0 => ?_⟩
  obtain ⟨b, o, eA, hlt, hl⟩ := h3 h0
  refine ⟨b, o, eA, Nat.lt_of_lt_of_le hlt hb.size, fun k ss hk => ?_⟩
  obtain ⟨A', c', k1, k2⟩ := hl k ss hk
  exact ⟨A', c', (hb.cell (p := ⟨b, o + k, none⟩) hlt).trans k1, k2.call hb⟩
theorem El.RR.alloc (h : E.RR w v p) (o : Obj) : E.RR (w.alloc o) v p := h.call (gAlloc (Below.refl _ _) o)
theorem El.RR.drew (h : E.RR w v p) : E.RR w.drew v p := h.call (Below.refl _ _).drew
theorem El.RR.shape (h : E.RR w v p) : ∃ A c, v = .slice A p.length c := by
  obtain ⟨A, c, e, _⟩ := h.ex
  exact ⟨A, c, e⟩
theorem elRows_of : ∀ {css : List (List Value)}, (∀ c ∈ css, ∃ s, c = [s] ∧ ∃ l, E.R w s l) →
    ∃ p : List (List α), p.length = css.length ∧ ∀ (k : Nat) l, p[k]? = some l → ∃ A c, css[k]? = some [.slice A l.length c] ∧ E.R w (.slice A l.length c) l
  | [], _ => ⟨[], rfl, fun k t h => by simp at h⟩
  | c :: r, h => by
    obtain ⟨s, rfl, l, ds⟩ := h c (by simp)
    obtain ⟨p, h1, h2⟩ := elRows_of (css := r) (fun d hd => h d (by simp [hd]))
    obtain ⟨A, cp, rfl⟩ := ds.shape
    refine ⟨l :: p, by simp [h1], fun k t hk => ?_⟩
    cases k with
    | zero =>
      simp only [List.getElem?_cons_zero, Option.some.injEq] at hk
      subst hk
      exact ⟨A, cp, rfl, ds⟩
    | succ k =>
      obtain ⟨A', c2, h3, h4⟩ := h2 k t (by simpa using hk)
      exact ⟨A', c2, by simpa using h3, h4⟩
theorem lone_at : ∀ {css : List (List Value)} {k : Nat} {u : Value}, (∀ c ∈ css, c.length = 1) → css[k]? = some [u] → css.flatten[k]? = some u
  | [], k, u, _, h => by simp at h
  | d :: r, 0, u, _, h => by
    simp only [List.getElem?_cons_zero, Option.some.injEq] at h
    subst h
    rfl
  | d :: r, k + 1, u, hl, h => by
    have hd := hl d (by simp)
    rw [List.flatten_cons, List.getElem?_append_right (by omega), hd, Nat.add_sub_cancel]
    exact lone_at (fun c hc => hl c (by simp [hc])) (by simpa using h)
end

/-! Observations. -/
structure Td where
  d : Dd
  v : Int
abbrev Td.cells (x : Td) : List Value := [.int .i64 x.d.nd, .int .i64 x.d.kd, .int .i64 x.d.ad, .int .u64 x.d.vl, .int .u64 x.v]
abbrev Td.arr (x : Td) : Array Value := #[.int .i64 x.d.nd, .int .i64 x.d.kd, .int .i64 x.d.ad, .int .u64 x.d.vl, .int .u64 x.v]
abbrev Td.val (x : Td) : Value := .agg x.arr
theorem info_told : (Try.prog.info? 52).map (fun i => (i.zero, i.size, i.bytes)) = some (some (.agg #[.int .i64 0, .int .i64 0, .int .i64 0, .int .u64 0, .int .u64 0]), 5, 40) := by kernel_rfl
def elT : El Td where
  F := Td.cells
  sz := 5
  t := 52
  len := fun _ => rfl
  pos := by decide
  one := fun x u hu => by
    simp at hu
    rcases hu with rfl | rfl | rfl | rfl | rfl <;> rfl
  size := by kernel_rfl
/-- The cells of observation k, in a world that keeps what was there. -/
structure ToldAt (w : World) (b o : Nat) (x : Td) : Prop where
  c0 : w.cell? ⟨b, o, none⟩ = some (.int .i64 x.d.nd)
  c1 : w.cell? ⟨b, o + 1, none⟩ = some (.int .i64 x.d.kd)
  c2 : w.cell? ⟨b, o + 2, none⟩ = some (.int .i64 x.d.ad)
  c3 : w.cell? ⟨b, o + 3, none⟩ = some (.int .u64 x.d.vl)
  c4 : w.cell? ⟨b, o + 4, none⟩ = some (.int .u64 x.v)
theorem toldAt_of {w w' : World} {b o B : Nat} {l : List Td} {k : Nat} {x : Td} (hc : ∀ j u, (elT.C l)[j]? = some u → w.cell? ⟨b, o + j, none⟩ = some u) (hb : b < B) (low : Below B w w') (h : l[k]? = some x) : ToldAt w' b (o + k * 5) x :=
  ⟨El.R.at_ hc hb low h 0 _ (show 0 < 5 by omega) rfl, El.R.at_ hc hb low h 1 _ (show 1 < 5 by omega) rfl, El.R.at_ hc hb low h 2 _ (show 2 < 5 by omega) rfl,
    El.R.at_ hc hb low h 3 _ (show 3 < 5 by omega) rfl, El.R.at_ hc hb low h 4 _ (show 4 < 5 by omega) rfl⟩

theorem told_of {cs : List Value} (h : AllOk [.int .i64, .int .i64, .int .i64, .int .u64, .int .u64] cs) : ∃ x : Td, cs = x.cells := by
  obtain ⟨_, _, rfl, ⟨a, rfl, _⟩, h1⟩ := h.cons_
  obtain ⟨_, _, rfl, ⟨b, rfl, _⟩, h2⟩ := h1.cons_
  obtain ⟨_, _, rfl, ⟨c, rfl, _⟩, h3⟩ := h2.cons_
  obtain ⟨_, _, rfl, ⟨d, rfl, _⟩, h4⟩ := h3.cons_
  obtain ⟨_, _, rfl, ⟨e, rfl, _⟩, h5⟩ := h4.cons_
  obtain rfl := h5.nil_
  exact ⟨⟨⟨a, b, c, d⟩, e⟩, rfl⟩
theorem tolds_of : ∀ {css : List (List Value)}, (∀ c ∈ css, ∃ x : Td, c = x.cells) → ∃ l : List Td, l.length = css.length ∧ css.flatten = elT.C l
  | [], _ => ⟨[], rfl, rfl⟩
  | c :: r, h => by
    obtain ⟨x, rfl⟩ := h c (by simp)
    obtain ⟨l, h1, h2⟩ := tolds_of (css := r) (fun d hd => h d (by simp [hd]))
    exact ⟨x :: l, by simp [h1], by simp only [List.flatten_cons, El.C, List.flatMap_cons] at *; rw [h2]; rfl⟩

def IsTolds (w : World) (v : Value) : Prop := ∃ l, elT.R w v l
def IsLogs (w : World) (v : Value) : Prop := ∃ p, elT.RR w v p
section
variable {H : Type} {enc : TypeId × Value → H} {W : World} {base : Nat} {v : Value} {d : DataW H} {q : List MemPlace}
theorem cells_told : Try.prog.cellsOf 52 = 5 := by kernel_rfl
set_option maxRecDepth 10000 in
theorem openTolds (hv : Value.okWide Try.prog W .any base 48 v) (h : DataW.Trod enc Try.prog W 0 (fun _ => true) true 48 v d q) : IsTolds W v := by
  obtain ⟨css, sl, hcs⟩ := slice_value Try.underlying48 (by rw [cells_told]; omega) hv h
  obtain ⟨l, l1, l2⟩ := tolds_of (css := css) (fun c hc => by
    obtain ⟨_, m, y, hy⟩ := hcs c hc
    exact told_of (flat_open 4 52 _ (by kernel_rfl) m c y hy))
  rw [cells_told, l2, ← l1] at sl
  exact ⟨l, sl⟩
end
end Go.Proofs.Ytcegjehoejgofaa
