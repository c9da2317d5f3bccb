/-
Proved: the first steps of the statements on one operation: they hold where Do gives an error. No condition.
-/
import Derived.Test.YtahoadfofleacaaJoined5
import Derived.Test.YtahoadfofleacaaJoined2
import Derived.Test.YtahoadfofleacaaJoined3
/- CacheOpen: Proved: what is known of a cache that can be read. No condition. -/
namespace Go.Proofs.Ytahoadfofleacaa
open Go.ChangeShapes Go.WideShapes Go.ChangeAt Go.RowKit Go.Joins

def IsCache (w : World) (v : Value) : Prop := ∃ ss, Cs w v ss

theorem flatten_at {α : Type} {n : Nat} : ∀ {css : List (List α)} {k : Nat} {c : List α}, (∀ c ∈ css, c.length = n) → css[k]? = some c → ∀ j, j < n → css.flatten[k * n + j]? = c[j]?
  | [], k, c, _, h, j, hj => by simp at h
  | d :: r, 0, c, hl, h, j, hj => by
    simp only [List.getElem?_cons_zero, Option.some.injEq] at h
    subst h
    have := hl d (by simp)
    rw [List.flatten_cons, Nat.zero_mul, Nat.zero_add, List.getElem?_append_left (by omega)]
  | d :: r, k + 1, c, hl, h, j, hj => by
    have hd := hl d (by simp)
    rw [List.flatten_cons, List.getElem?_append_right (by rw [hd, Nat.succ_mul]; omega), hd, show (k + 1) * n + j - n = k * n + j by rw [Nat.succ_mul]; omega]
    exact flatten_at (fun c hc => hl c (by simp [hc])) (by simpa using h) j hj

theorem rows_of {W : World} : ∀ {css : List (List Value)}, (∀ c ∈ css, ∃ s l a b c', c = [s, .bool a, .bool b, .bool c'] ∧ Ws W s l) →
    ∃ ss : List St, ss.length = css.length ∧ ∀ (k : Nat) t, ss[k]? = some t → ∃ A c, css[k]? = some [.slice A t.l.length c, .bool t.a, .bool t.b, .bool t.c] ∧ Ws W (.slice A t.l.length c) t.l
  | [], _ => ⟨[], rfl, fun k t h => by simp at h⟩
  | c :: r, h => by
    obtain ⟨s, l, a, b, c', rfl, ws⟩ := h c (by simp)
    obtain ⟨ss, h1, h2⟩ := rows_of (css := r) (fun d hd => h d (by simp [hd]))
    obtain ⟨A, cp, rfl⟩ : ∃ A c, s = .slice A l.length c := by obtain ⟨_, A, c, e, _⟩ := ws; exact ⟨A, c, e⟩
    refine ⟨⟨l, a, b, c'⟩ :: ss, by simp [h1], fun k t hk => ?_⟩
    cases k with
    | zero =>
      simp only [List.getElem?_cons_zero, Option.some.injEq] at hk
      subst hk
      exact ⟨A, cp, rfl, ws⟩
    | succ k =>
      obtain ⟨A', c2, h3, h4⟩ := h2 k t (by simpa using hk)
      exact ⟨A', c2, by simpa using h3, h4⟩

section
variable {H : Type} {enc : TypeId × Value → H} {W : World} {base : Nat} {v : Value} {d : DataW H} {p : List MemPlace}
theorem cs_of {css : List (List Value)} (sl : Sl W W.heap.size 4 v css.length css.flatten) (hcs : ∀ c ∈ css, ∃ m y, DataW.trod enc Try.prog W 0 (fun _ => true) true m 78 c = some y) : IsCache W v := by
  obtain ⟨ss, h1, h2⟩ := rows_of (W := W) (css := css) (fun c hc => by
    obtain ⟨m, y, hy⟩ := hcs c hc
    exact row_trod hy)
  have hl : ∀ c ∈ css, c.length = 4 := fun c hc => by
    obtain ⟨m, y, hy⟩ := hcs c hc
    obtain ⟨s, l, a, b, c', rfl, _⟩ := row_trod hy
    rfl
  obtain ⟨_, A, cp, rfl, g1, g2, g3⟩ := sl
  refine ⟨ss, A, cp, by rw [h1], by omega, g2, fun h0 => ?_⟩
  obtain ⟨b, o, eA, hb, hc⟩ := g3 (by omega)
  refine ⟨b, o, eA, hb, ⟨fun k t hk => ?_⟩⟩
  obtain ⟨A', c', h3, h4⟩ := h2 k t hk
  have f : ∀ j u, j < 4 → [Value.slice A' t.l.length c', .bool t.a, .bool t.b, .bool t.c][j]? = some u → W.cell? ⟨b, o + k * 4 + j, none⟩ = some u := fun j u hj hu => by
    rw [Nat.add_assoc]
    exact hc _ _ ((flatten_at hl h3 j hj).trans hu)
  exact ⟨A', c', ⟨f 0 _ (by omega) rfl, f 1 _ (by omega) rfl, f 2 _ (by omega) rfl, f 3 _ (by omega) rfl⟩, h4⟩

set_option maxRecDepth 10000 in
theorem openCache (hv : Value.okWide Try.prog W .any base 55 v) (h : DataW.Trod enc Try.prog W 0 (fun _ => true) true 55 v d p) : IsCache W v := by
  obtain ⟨css, h1, h2⟩ := slice_value Try.underlying55 (by rw [cells_row]; omega) hv h
  rw [cells_row] at h1
  exact cs_of h1 (fun c hc => (h2 c hc).2)
end
end Go.Proofs.Ytahoadfofleacaa

/- AgreeOpen: Proved: what is known of a world that can be read. No condition. -/
namespace Go.Proofs.Ytahoadfofleacaa
open Go.ChangeShapes Go.WideShapes Go.ChangeAt Go.RowKit Go.Joins

def IsWorld (w : World) (v : Value) : Prop := ∃ u m css, v = wldV u m ∧ m.length = 64 ∧ Ks w u css

theorem caches_of {W : World} : ∀ {css : List (List Value)}, (∀ c ∈ css, ∃ s, c = [s] ∧ IsCache W s) →
    ∃ ks : List (List St), ks.length = css.length ∧ ∀ (k : Nat) ss, ks[k]? = some ss → ∃ A c, css[k]? = some [.slice A ss.length c] ∧ Cs W (.slice A ss.length c) ss
  | [], _ => ⟨[], rfl, fun k t h => by simp at h⟩
  | c :: r, h => by
    obtain ⟨s, rfl, ss, cs⟩ := h c (by simp)
    obtain ⟨ks, h1, h2⟩ := caches_of (css := r) (fun d hd => h d (by simp [hd]))
    obtain ⟨A, cp, rfl⟩ : ∃ A c, s = .slice A ss.length c := by obtain ⟨A, c, e, _⟩ := cs; exact ⟨A, c, e⟩
    refine ⟨ss :: ks, by simp [h1], fun k t hk => ?_⟩
    cases k with
    | zero =>
      simp only [List.getElem?_cons_zero, Option.some.injEq] at hk
      subst hk
      exact ⟨A, cp, rfl, cs⟩
    | succ k =>
      obtain ⟨A', c2, h3, h4⟩ := h2 k t (by simpa using hk)
      exact ⟨A', c2, by simpa using h3, h4⟩

section
variable {H : Type} {enc : TypeId × Value → H} {W : World} {base : Nat} {v : Value} {d : DataW H} {p : List MemPlace}
theorem cells_cache : Try.prog.cellsOf 55 = 1 := by kernel_rfl
theorem cells_caches : Try.prog.cellsOf 24 = 1 := by kernel_rfl
theorem cells_mem : Try.prog.cellsOf 29 = 64 := by kernel_rfl
theorem cells_world : Try.prog.cellsOf 31 = 65 := by kernel_rfl

theorem ks_of {css : List (List Value)} (sl : Sl W W.heap.size 1 v css.length css.flatten) (hcs : ∀ c ∈ css, ∃ m y, DataW.trod enc Try.prog W 0 (fun _ => true) true m 55 c = some y) : ∃ ks, Ks W v ks := by
  have one : ∀ c ∈ css, ∃ s, c = [s] ∧ IsCache W s := fun c hc => by
    obtain ⟨m, y, hy⟩ := hcs c hc
    obtain ⟨s, css', e, sl', h'⟩ := slice_open Try.underlying55 (by rw [cells_row]; omega) hy
    rw [cells_row] at sl'
    exact ⟨s, e, cs_of sl' (fun c hc => (h' c hc).2)⟩
  obtain ⟨ks, h1, h2⟩ := caches_of one
  have hl : ∀ c ∈ css, c.length = 1 := fun c hc => by
    obtain ⟨s, rfl, _⟩ := one c hc
    rfl
  obtain ⟨_, A, cp, rfl, g1, g2, g3⟩ := sl
  refine ⟨ks, A, cp, by rw [h1], by omega, g2, fun h0 => ?_⟩
  obtain ⟨b, o, eA, hb, hc⟩ := g3 (by omega)
  refine ⟨b, o, eA, hb, fun k ss hk => ?_⟩
  obtain ⟨A', c', h3, h4⟩ := h2 k ss hk
  refine ⟨A', c', hc k _ ?_, h4⟩
  have := flatten_at (n := 1) hl h3 0 (by omega)
  simpa using this

set_option maxRecDepth 10000 in
theorem world_trod {fuel : Nat} {cs : List Value} {x : DataW H × List MemPlace} (h : DataW.trod enc Try.prog W 0 (fun _ => true) true fuel 31 cs = some x) : ∃ (u : Value) (m : List Int) (css : List (List St)), cs = u :: m.map (Value.int .u64) ∧ m.length = 64 ∧ Ks W u css := by
  obtain ⟨xs, m, _, _, hl, hxl, hf⟩ := DataW.trod_struct Try.underlying31 h
  rw [cells_world] at hl
  have hf' : ∀ (i : Nat) (f : Field), _ → _ := fun i f hi => hf i f (by rw [← Array.getElem?_toList]; exact hi)
  have h0 := hf' 0 _ rfl
  have h1 := hf' 1 _ rfl
  dsimp only at h0 h1
  rw [List.getElem?_eq_getElem (by simp at hxl; omega)] at h0 h1
  obtain ⟨u, css, e, sl, hcs⟩ := slice_open Try.underlying24 (by rw [cells_cache]; omega) h0
  have h1' := flat_open 3 29 (List.replicate 64 (.int .u64)) (by kernel_rfl) _ _ _ h1
  obtain ⟨l, hl1, hl2⟩ := words_of h1'
  rw [cells_caches] at e
  rw [cells_mem] at hl1
  rw [cells_cache] at sl
  obtain ⟨ks, hks⟩ := ks_of sl (fun c hc => (hcs c hc).2)
  refine ⟨u, l, ks, ?_, hl2, hks⟩
  cases cs with
  | nil => simp at hl
  | cons a r =>
    simp only [List.drop_zero, List.take_succ_cons, List.take_zero, List.cons.injEq, and_true] at e
    subst e
    simp only [List.drop_succ_cons, List.drop_zero] at hl1
    rw [← hl1, List.take_of_length_le (by simp at hl; omega)]

set_option maxRecDepth 10000 in
theorem openWorld (hv : Value.okWide Try.prog W .any base 31 v) (h : DataW.Trod enc Try.prog W 0 (fun _ => true) true 31 v d p) : IsWorld W v := by
  obtain ⟨cs, rfl⟩ := okWide_agg (.inl ⟨_, Try.underlying31⟩) hv
  obtain ⟨m, h⟩ := h
  obtain ⟨u, l, css, rfl, h1, h2⟩ := world_trod (cs := cs) (by simpa [Value.cells] using h)
  exact ⟨u, l, css, rfl, h1, h2⟩
end
end Go.Proofs.Ytahoadfofleacaa

/- DeedLaw: Proved: the first steps of the statements on one operation: they hold where Do gives an error. No condition. -/
namespace Go.Proofs.Ytahoadfofleacaa
open Go.ChangeShapes Go.WideShapes Go.ChangeAt Go.RowKit Go.Joins

theorem eqDone0 : ∀ w, (Op.equalIn 10000 37 (.agg #[.int .u64 0, .bool false, .int .i64 0, .int .i64 0, .bool false]) (.agg #[.int .u64 0, .bool false, .int .i64 0, .int .i64 0, .bool false])).run Try.prog w = .ok true w := fun w => by kernel_rfl

/-- Do gives an error, or it does not. -/
theorem do_cases {n s y b : Int} {css : List (List St)} {m : List Int} (hm : m.length = 64) (d : Dd) :
    (∃ E : Int, E ≠ 0 ∧ ∀ v w, Ks w v css → Calls Try.prog 9 #[cfg n s y b, wldV v m, d.val] w fun e w' => e = .returned (.tuple #[.agg nilW, .agg done0, .int .i64 E]) ∧ Below w.heap.size w w') ∨
    (findE n s y b css m d = 0 ∧ ∃ i0 L css' out, Plc css d i0 L ∧ Did n s y b css m d i0 L css' out ∧ ∀ v w, Ks w v css → Calls Try.prog 9 #[cfg n s y b, wldV v m, d.val] w (GaveW n s y b css m d i0 L css' out w)) := by
  by_cases he : findE n s y b css m d = 0
  · obtain ⟨i0, L, pl⟩ := plc_of he
    rcases deedDo_is hm he pl with ⟨_, _, h⟩ | ⟨_, css', out, did, h⟩
    · exact .inl ⟨5, by decide, h⟩
    · exact .inr ⟨he, i0, L, css', out, pl, did, h⟩
  · exact .inl ⟨_, he, fun v w h => do_bad n s y b v m css d w h hm he⟩
end Go.Proofs.Ytahoadfofleacaa
