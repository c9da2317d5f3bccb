/-
Proved: what is known of a world that can be read. No condition.
-/
import Derived.Test.YtmodajmjmdigfaaCacheOpen
import Derived.Test.YtmodajmjmdigfaaWorlds
import Derived.Test.YtmodajmjmdigfaaBank2
namespace Go.Proofs.Ytmodajmjmdigfaa
open Go.ChangeShapes Go.WideShapes Go.ChangeAt Go.RowKit Go.Joins

def IsWorld (w : World) (v : Value) : Prop := ∃ u m css, v = wldV u m ∧ m.length = 64 ∧ Ks w u css

theorem caches_of {W : World} : ∀ {css : List (List Value)}, (∀ c ∈ css, ∃ s, c = [s] ∧ IsCache W s) →
    ∃ ks : List (List St), ks.length = css.length ∧ ∀ (k : Nat) ss, ks[k]? = some ss → ∃ A c, css[k]? = some [.slice A ss.length c] ∧ Cs W (.slice A ss.length c) ss
  | [], _ => ⟨[], rfl, fun k t h => by simp at h⟩
  | c :: r, h => by
    obtain ⟨s, rfl, ss, cs⟩ := h c (by simp)
    obtain ⟨ks, h1, h2⟩ := caches_of (css := r) (fun d hd => h d (by simp [hd]))
    obtain ⟨A, cp, rfl⟩ : ∃ A c, s = .slice A ss.length c := by obtain ⟨A, c, e, _⟩ := cs; exact ⟨A, c, e⟩
    refine ⟨ss :: ks, by simp [h1], fun k t hk => ?_⟩
    cases k with
    | zero =>
      simp only [List.getElem?_cons_zero, Option.some.injEq] at hk
      subst hk
      exact ⟨A, cp, rfl, cs⟩
    | succ k =>
      obtain ⟨A', c2, h3, h4⟩ := h2 k t (by simpa using hk)
      exact ⟨A', c2, by simpa using h3, h4⟩

section
variable {H : Type} {enc : TypeId × Value → H} {W : World} {base : Nat} {v : Value} {d : DataW H} {p : List MemPlace}
theorem cells_cache : Try.prog.cellsOf 46 = 1 := by kernel_rfl
theorem cells_caches : Try.prog.cellsOf 75 = 1 := by kernel_rfl
theorem cells_mem : Try.prog.cellsOf 77 = 64 := by kernel_rfl
theorem cells_world : Try.prog.cellsOf 79 = 65 := by kernel_rfl

theorem ks_of {css : List (List Value)} (sl : Sl W W.heap.size 1 v css.length css.flatten) (hcs : ∀ c ∈ css, ∃ m y, DataW.trod enc Try.prog W 0 (fun _ => true) true m 46 c = some y) : ∃ ks, Ks W v ks := by
  have one : ∀ c ∈ css, ∃ s, c = [s] ∧ IsCache W s := fun c hc => by
    obtain ⟨m, y, hy⟩ := hcs c hc
    obtain ⟨s, css', e, sl', h'⟩ := slice_open Try.underlying46 (by rw [cells_row]; omega) hy
    rw [cells_row] at sl'
    exact ⟨s, e, cs_of sl' (fun c hc => (h' c hc).2)⟩
  obtain ⟨ks, h1, h2⟩ := caches_of one
  have hl : ∀ c ∈ css, c.length = 1 := fun c hc => by
    obtain ⟨s, rfl, _⟩ := one c hc
    rfl
  obtain ⟨_, A, cp, rfl, g1, g2, g3⟩ := sl
  refine ⟨ks, A, cp, by rw [h1], by omega, g2, fun h0 => ?_⟩
  obtain ⟨b, o, eA, hb, hc⟩ := g3 (by omega)
  refine ⟨b, o, eA, hb, fun k ss hk => ?_⟩
  obtain ⟨A', c', h3, h4⟩ := h2 k ss hk
  refine ⟨A', c', hc k _ ?_, h4⟩
  have := flatten_at (n := 1) hl h3 0 (by omega)
  simpa using this

set_option maxRecDepth 10000 in
theorem world_trod {fuel : Nat} {cs : List Value} {x : DataW H × List MemPlace} (h : DataW.trod enc Try.prog W 0 (fun _ => true) true fuel 79 cs = some x) : ∃ (u : Value) (m : List Int) (css : List (List St)), cs = u :: m.map (Value.int .u64) ∧ m.length = 64 ∧ Ks W u css := by
  obtain ⟨xs, m, _, _, hl, hxl, hf⟩ := DataW.trod_struct Try.underlying79 h
  rw [cells_world] at hl
  have hf' : ∀ (i : Nat) (f : Field), _ → _ := fun i f hi => hf i f (by rw [← Array.getElem?_toList]; exact hi)
  have h0 := hf' 0 _ rfl
  have h1 := hf' 1 _ rfl
  dsimp only at h0 h1
  rw [List.getElem?_eq_getElem (by simp at hxl; omega)] at h0 h1
  obtain ⟨u, css, e, sl, hcs⟩ := slice_open Try.underlying75 (by rw [cells_cache]; omega) h0
  have h1' := flat_open 3 77 (List.replicate 64 (.int .u64)) (by kernel_rfl) _ _ _ h1
  obtain ⟨l, hl1, hl2⟩ := words_of h1'
  rw [cells_caches] at e
  rw [cells_mem] at hl1
  rw [cells_cache] at sl
  obtain ⟨ks, hks⟩ := ks_of sl (fun c hc => (hcs c hc).2)
  refine ⟨u, l, ks, ?_, hl2, hks⟩
  cases cs with
  | nil => simp at hl
  | cons a r =>
    simp only [List.drop_zero, List.take_succ_cons, List.take_zero, List.cons.injEq, and_true] at e
    subst e
    simp only [List.drop_succ_cons, List.drop_zero] at hl1
    rw [← hl1, List.take_of_length_le (by simp at hl; omega)]

set_option maxRecDepth 10000 in
theorem openWorld (hv : Value.okWide Try.prog W .any base 79 v) (h : DataW.Trod enc Try.prog W 0 (fun _ => true) true 79 v d p) : IsWorld W v := by
  obtain ⟨cs, rfl⟩ := okWide_agg (.inl ⟨_, Try.underlying79⟩) hv
  obtain ⟨m, h⟩ := h
  obtain ⟨u, l, css, rfl, h1, h2⟩ := world_trod (cs := cs) (by simpa [Value.cells] using h)
  exact ⟨u, l, css, rfl, h1, h2⟩
end
end Go.Proofs.Ytmodajmjmdigfaa
