/-
Proved: what the bound of the second form gives of a world: how many sets and ways it has. No condition.
-/
import Derived.Test.YtgdacpcifnpojaaGreatJoined5
namespace Go.Proofs.YtgdacpcifnpojaaGreat
open Go.ChangeShapes Go.WideShapes Go.ChangeAt Go.RowKit Go.Joins
section
variable {H : Type}
theorem bulk_one (d : DataW H) : 1 ≤ Rows.uptoBulk d := by
 cases d with
 | lit l => cases l <;> simp [Rows.uptoBulk]
 | nil => simp [Rows.uptoBulk]
 | ptr d => simp [Rows.uptoBulk]
 | slice elems spare => simp [Rows.uptoBulk]
 | agg parts => simp [Rows.uptoBulk]
 | iface t d => simp [Rows.uptoBulk]
 | map entries => simp [Rows.uptoBulk]
 | held h => simp [Rows.uptoBulk]
theorem bulk_sum (D : Nat → DataW H) (f : Nat → Nat) : ∀ n, (∀ i, i < n → f i ≤ Rows.uptoBulk (D i)) → ((List.range n).map f).sum ≤ Rows.uptoBulkAll ((List.range n).map D)
 | 0, _ => by simp
 | n + 1, h => by
  have ih := bulk_sum D f n fun i hi => h i (by omega)
  have app : ∀ (a b : List (DataW H)), Rows.uptoBulkAll (a ++ b) = Rows.uptoBulkAll a + Rows.uptoBulkAll b := by
   intro a b
   induction a with
   | nil => simp [Rows.uptoBulkAll]
   | cons x a ih => simp only [List.cons_append, Rows.uptoBulkAll, ih]; omega
  rw [List.range_succ, List.map_append, List.map_append, List.sum_append, app]
  have := h n (by omega)
  simp only [List.map_cons, List.map_nil, List.sum_cons, List.sum_nil, Rows.uptoBulkAll]
  omega
theorem bulk_part {d : DataW H} {l : List (DataW H)} (h : d ∈ l) : Rows.uptoBulk d ≤ Rows.uptoBulkAll l := by
 induction l with
 | nil => cases h
 | cons x r ih =>
  simp only [Rows.uptoBulkAll]
  cases List.mem_cons.1 h with
  | inl e => subst e; omega
  | inr e => have := ih e; omega
end
theorem ones : ∀ n, ((List.range n).map fun _ => 1).sum = n
 | 0 => rfl
 | n + 1 => by rw [List.range_succ, List.map_append, List.sum_append, ones n]; rfl
theorem le_sum {x : Nat} : ∀ {l : List Nat}, x ∈ l → x ≤ l.sum
 | a :: r, h => by
  rw [List.sum_cons]
  rcases List.mem_cons.1 h with e | e
  ·omega
  ·have := le_sum e
   omega
def szC (ss : List St) : Nat := (ss.map fun t => t.l.length + 1).sum
def szW (css : List (List St)) : Nat := (css.map szC).sum
theorem sum_plus : ∀ css : List (List St), (css.map fun ss => szC ss + 1).sum = szW css + css.length
 | [] => rfl
 | a :: r => by
  have ih := sum_plus r
  unfold szW at ih ⊢
  simp only [List.map_cons, List.sum_cons, List.length_cons]
  omega
theorem sum_index {α : Type} (l : List α) (f : α → Nat) (d : α) : (l.map f).sum = ((List.range l.length).map fun i => f (l.getD i d)).sum := by
 congr 1
 refine List.ext_getElem (by simp) fun i h1 h2 => ?_
 have hi : i < l.length := by simpa using h1
 simp [List.getD, hi]
section
variable {H : Type} {enc : TypeId × Value → H} {W : World}
theorem ways_bulk {fuel : Nat} {A : Option Addr} {n c : Nat} {x : DataW H × List MemPlace} (h : DataW.trod enc Tryz.prog W 0 (fun _ => true) true fuel 73 [.slice A n c] = some x) : n + 1 ≤ Rows.uptoBulk x.1 := by
 rcases Go.Deep.open_slice Tryz.underlying73 h with ⟨e, rfl⟩ | ⟨a, len, cap, m, k, D, Pl, e, _, _, _, _, rfl, _⟩
 ·simp only [List.cons.injEq, and_true, Value.slice.injEq] at e
  obtain ⟨_, rfl, _⟩ := e
  exact bulk_one _
 ·simp only [List.cons.injEq, and_true, Value.slice.injEq] at e
  obtain ⟨_, rfl, _⟩ := e
  have := bulk_sum D (fun _ => 1) n fun i _ => bulk_one _
  simp only [Rows.uptoBulk]
  have e2 := ones n
  omega
theorem row_bulk {fuel : Nat} {A : Option Addr} {n c : Nat} {r : List Value} {x : DataW H × List MemPlace} (h : DataW.trod enc Tryz.prog W 0 (fun _ => true) true fuel 77 (.slice A n c :: r) = some x) : n + 1 ≤ Rows.uptoBulk x.1 := by
 obtain ⟨xs, m, _, rfl, hl, hxl, hf⟩ := DataW.trod_struct Tryz.underlying77 h
 have hf' : ∀ (i : Nat) (f : Field), _ → _ := fun i f hi => hf i f (by rw [← Array.getElem?_toList]; exact hi)
 have h0 := hf' 0 _ rfl
 dsimp only at h0
 have hx0 : xs[0]? = some (xs[0]'(by simp at hxl; omega)) := List.getElem?_eq_getElem _
 rw [hx0, cells_ways] at h0
 simp only [List.drop_zero, List.take_succ_cons, List.take_zero] at h0
 have := ways_bulk h0
 have hp : Rows.uptoBulk (xs[0]'(by simp at hxl; omega)).1 ≤ Rows.uptoBulkAll (xs.map (·.1)) := bulk_part (List.mem_map.2 ⟨_, List.getElem_mem _, rfl⟩)
 simp only [Rows.uptoBulk]
 omega
theorem cache_bulk {fuel : Nat} {v : Value} {ss : List St} {x : DataW H × List MemPlace} (cs : Cs W v ss) (h : DataW.trod enc Tryz.prog W 0 (fun _ => true) true fuel 72 [v] = some x) : szC ss + 1 ≤ Rows.uptoBulk x.1 := by
 obtain ⟨A, cp, rfl, g1, g2, g3⟩ := cs
 rcases Go.Deep.open_slice Tryz.underlying72 h with ⟨e, rfl⟩ | ⟨a, len, cap, m, k, D, Pl, e, _, _, _, hm, rfl, hi⟩
 ·simp only [List.cons.injEq, and_true, Value.slice.injEq] at e
  obtain rfl : ss = [] := List.eq_nil_of_length_eq_zero e.2.1
  exact bulk_one _
 ·simp only [List.cons.injEq, and_true, Value.slice.injEq] at e
  obtain ⟨rfl, rfl, rfl⟩ := e
  have lm : ss.length ≤ m := by rw [hm]; split <;> omega
  have := bulk_sum D (fun i => (ss.getD i st0).l.length + 1) ss.length fun i hlt => by
   obtain ⟨b, o, e, hb, lies⟩ := g3 (by omega)
   cases e
   have hx : ss[i]? = some ss[i] := List.getElem?_eq_getElem _
   obtain ⟨A', c', ⟨r0, _⟩, _⟩ := lies.at_ i _ hx
   obtain ⟨cs', h1, h2⟩ := hi i (by omega)
   rw [cells_row] at h1
   obtain ⟨_, h3, h4⟩ := World.cells?_some h1
   have h5 := h4 0 (by omega)
   rw [add_at rfl, Nat.add_zero, r0] at h5
   match cs', h3, h5 with
   | [c0, c1, c2, c3], _, h5 =>
    simp only [List.getElem?_cons_zero, Option.some.injEq] at h5
    subst h5
    have := row_bulk h2
    simpa [List.getD, hx] using this
  unfold szC
  rw [sum_index ss _ st0]
  simp only [Rows.uptoBulk]
  omega
theorem world_bulk {fuel : Nat} {v : Value} {m : List Int} {css : List (List St)} {x : DataW H × List MemPlace} (ks : Ks W v css) (h : DataW.trod enc Tryz.prog W 0 (fun _ => true) true fuel 31 (v :: m.map (Value.int .u64)) = some x) : szW css + css.length ≤ Rows.uptoBulk x.1 := by
 obtain ⟨xs, n, _, rfl, hl, hxl, hf⟩ := DataW.trod_struct Tryz.underlying31 h
 have hf' : ∀ (i : Nat) (f : Field), _ → _ := fun i f hi => hf i f (by rw [← Array.getElem?_toList]; exact hi)
 have h0 := hf' 0 _ rfl
 dsimp only at h0
 have hx0 : xs[0]? = some (xs[0]'(by simp at hxl; omega)) := List.getElem?_eq_getElem _
 rw [hx0, cells_caches] at h0
 simp only [List.drop_zero, List.take_succ_cons, List.take_zero] at h0
 have hp : Rows.uptoBulk (xs[0]'(by simp at hxl; omega)).1 ≤ Rows.uptoBulkAll (xs.map (·.1)) := bulk_part (List.mem_map.2 ⟨_, List.getElem_mem _, rfl⟩)
 have main : szW css + css.length ≤ Rows.uptoBulk (xs[0]'(by simp at hxl; omega)).1 := by
  generalize xs[0]'(by simp at hxl; omega) = y at h0
  obtain ⟨A, cp, rfl, g1, g2, g3⟩ := ks
  rcases Go.Deep.open_slice Tryz.underlying24 h0 with ⟨e, rfl⟩ | ⟨a, len, cap, k, q, D, Pl, e, _, _, _, hm, rfl, hi⟩
  ·simp only [List.cons.injEq, and_true, Value.slice.injEq] at e
   obtain rfl : css = [] := List.eq_nil_of_length_eq_zero e.2.1
   exact Nat.zero_le _
  ·simp only [List.cons.injEq, and_true, Value.slice.injEq] at e
   obtain ⟨rfl, rfl, rfl⟩ := e
   have lm : css.length ≤ k := by rw [hm]; split <;> omega
   have := bulk_sum D (fun i => szC (css.getD i []) + 1) css.length fun i hlt => by
    obtain ⟨b, o, e, hb, lies⟩ := g3 (by omega)
    cases e
    have hx : css[i]? = some css[i] := List.getElem?_eq_getElem _
    obtain ⟨A', c', r0, cs⟩ := lies i _ hx
    obtain ⟨cs', h1, h2⟩ := hi i (by omega)
    rw [cells_cache] at h1
    obtain ⟨_, h3, h4⟩ := World.cells?_some h1
    have h5 := h4 0 (by omega)
    rw [add_at rfl, Nat.add_zero, Nat.mul_one, r0] at h5
    match cs', h3, h5 with
    | [c0], _, h5 =>
     simp only [List.getElem?_cons_zero, Option.some.injEq] at h5
     subst h5
     have := cache_bulk cs h2
     simpa [List.getD, hx] using this
   have e3 := sum_plus css
   have e4 := sum_index css (fun ss => szC ss + 1) []
   simp only [Rows.uptoBulk]
   omega
 simp only [Rows.uptoBulk]
 omega
end
theorem szC_length (ss : List St) : ss.length ≤ szC ss := by
 unfold szC
 induction ss with
 | nil => simp
 | cons a r ih => simp only [List.map_cons, List.sum_cons, List.length_cons]; omega
theorem szC_at {ss : List St} {k : Nat} {t : St} (h : ss[k]? = some t) : t.l.length ≤ szC ss := by
 unfold szC
 have := le_sum (l := ss.map fun t => t.l.length + 1) (List.mem_map.2 ⟨t, List.mem_of_getElem? h, rfl⟩)
 omega
theorem szW_at {css : List (List St)} {k : Nat} {ss : List St} (h : css[k]? = some ss) : szC ss ≤ szW css :=
 le_sum (List.mem_map.2 ⟨ss, List.mem_of_getElem? h, rfl⟩)
end Go.Proofs.YtgdacpcifnpojaaGreat
