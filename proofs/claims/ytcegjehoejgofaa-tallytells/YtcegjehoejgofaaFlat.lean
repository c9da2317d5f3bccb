/-
Proved: a value of a flat type (ints and bools in structs and arrays) that can be read consists of ints and bools of the right kinds. No condition.
-/
import Derived.Test.YtcegjehoejgofaaMem
import Derived.Deep.Slices
namespace Go.Proofs.Ytcegjehoejgofaa
open Go.ChangeShapes Go.WideShapes Go.ChangeAt Go.RowKit

/-- What a cell of a flat type is. -/
inductive Sc where
  | bool
  | int (k : IntKind)

/-- A cell is of its kind. -/
def ScOk : Sc → Value → Prop
  | .bool, v => ∃ b, v = .bool b
  | .int k, v => ∃ a, v = .int k a ∧ (Lit.int k a).wf = true

def flatFields (P : Program) (r : TypeId → Option (List Sc)) : Nat → List Field → Option (List Sc)
  | _, [] => some []
  | off, f :: fs => match r f.type with
    | none => none
    | some l => if f.offset = off ∧ P.cellsOf f.type = l.length then (flatFields P r (off + l.length) fs).map (l ++ ·) else none

/-- The kinds of a flat type's cells. -/
def flatK (P : Program) : Nat → TypeId → Option (List Sc)
  | 0, _ => none
  | n + 1, t => match P.underlying t with
    | some .bool => some [.bool]
    | some (.int k) => some [.int k]
    | some (.struct fs) => (flatFields P (flatK P n) 0 fs.toList).bind fun l => if l.length = P.cellsOf t then some l else none
    | some (.array m e) => (flatK P n e).bind fun l => if P.cellsOf e = l.length ∧ m * l.length = P.cellsOf t then some (List.replicate m l).flatten else none
    | _ => none

/-- The cells are of their kinds. -/
def AllOk : List Sc → List Value → Prop
  | [], [] => True
  | k :: ks, c :: cs => ScOk k c ∧ AllOk ks cs
  | _, _ => False

theorem AllOk.append {k2 : List Sc} {c2 : List Value} (h2 : AllOk k2 c2) : ∀ {k1 : List Sc} {c1 : List Value}, AllOk k1 c1 → AllOk (k1 ++ k2) (c1 ++ c2)
  | [], [], _ => h2
  | [], _ :: _, h => h.elim
  | _ :: _, [], h => h.elim
  | _ :: _, _ :: _, h => ⟨h.1, AllOk.append h2 h.2⟩

theorem AllOk.length : ∀ {ks : List Sc} {cs : List Value}, AllOk ks cs → cs.length = ks.length
  | [], [], _ => rfl
  | [], _ :: _, h => h.elim
  | _ :: _, [], h => h.elim
  | _ :: _, _ :: _, h => by simp [AllOk.length h.2]

theorem AllOk.cons_ {k : Sc} {ks : List Sc} {cs : List Value} (h : AllOk (k :: ks) cs) : ∃ c r, cs = c :: r ∧ ScOk k c ∧ AllOk ks r := by
  cases cs with
  | nil => exact h.elim
  | cons c r => exact ⟨c, r, rfl, h.1, h.2⟩
theorem AllOk.nil_ {cs : List Value} (h : AllOk [] cs) : cs = [] := by
  cases cs with
  | nil => rfl
  | cons c r => exact h.elim

theorem AllOk.at_ : ∀ {ks : List Sc} {cs : List Value}, AllOk ks cs → ∀ (i : Nat) (k : Sc), ks[i]? = some k → ∃ c, cs[i]? = some c ∧ ScOk k c
  | [], [], _, i, k, h => by simp at h
  | [], _ :: _, h, _, _, _ => h.elim
  | _ :: _, [], h, _, _, _ => h.elim
  | _ :: _, c :: _, h, 0, k, hk => ⟨c, rfl, by simp at hk; subst hk; exact h.1⟩
  | _ :: _, _ :: _, h, i + 1, k, hk => by simpa using AllOk.at_ h.2 i k (by simpa using hk)

section
variable {H : Type} {enc : TypeId × Value → H} {P : Program} {w : World} {base : Nat} {spare : Nat → Bool} {held : Bool}

theorem flat_array {l : List Sc} : ∀ (m : Nat) (cs : List Value), cs.length = m * l.length → (∀ i, i < m → AllOk l ((cs.drop (i * l.length)).take l.length)) → AllOk (List.replicate m l).flatten cs
  | 0, cs, hl, _ => by
    have : cs = [] := List.eq_nil_of_length_eq_zero (by simpa using hl)
    subst this
    trivial
  | m + 1, cs, hl, h => by
    rw [List.replicate_succ, List.flatten_cons, ← List.take_append_drop l.length cs]
    refine AllOk.append (flat_array m _ ?_ fun i hi => ?_) (by simpa using h 0 (by omega))
    · rw [List.length_drop, hl, Nat.succ_mul]; omega
    · have := h (i + 1) (by omega)
      rw [List.drop_drop]
      rw [Nat.succ_mul, Nat.add_comm] at this
      exact this

theorem flat_fields {r : TypeId → Option (List Sc)} {cs : List Value} (hr : ∀ t l c, r t = some l → (∃ m x, DataW.trod enc P w base spare held m t c = some x) → AllOk l c) :
    ∀ (fs : List Field) (off : Nat) (l : List Sc), flatFields P r off fs = some l → (∀ f ∈ fs, ∃ m x, DataW.trod enc P w base spare held m f.type ((cs.drop f.offset).take (P.cellsOf f.type)) = some x) →
      AllOk l ((cs.drop off).take l.length)
  | [], off, l, h, _ => by
    simp [flatFields] at h
    subst h
    simp [AllOk]
  | f :: fs, off, l, h, hf => by
    unfold flatFields at h
    split at h
    · cases h
    · rename_i l1 h1
      split at h
      · rename_i hc
        cases h2 : flatFields P r (off + l1.length) fs with
        | none => rw [h2] at h; cases h
        | some l2 =>
          rw [h2] at h
          simp at h
          subst h
          have a1 := hr f.type l1 _ h1 (hf f (by simp))
          have a2 := flat_fields hr fs (off + l1.length) l2 h2 (fun g hg => hf g (by simp [hg]))
          rw [hc.1, hc.2] at a1
          rw [List.length_append, List.take_add, List.drop_drop]
          exact AllOk.append a2 a1
      · cases h

theorem flat_open : ∀ (n : Nat) (t : TypeId) (ks : List Sc), flatK P n t = some ks → ∀ (m : Nat) (cs : List Value) (x : DataW H × List MemPlace), DataW.trod enc P w base spare held m t cs = some x → AllOk ks cs
  | 0, t, ks, hk, m, cs, x, h => by cases hk
  | n + 1, t, ks, hk, m, cs, x, h => by
    unfold flatK at hk
    split at hk
    · rename_i hu
      cases hk
      obtain ⟨b, rfl, _⟩ := DataW.trod_bool hu h
      exact ⟨⟨b, rfl⟩, trivial⟩
    · rename_i k hu
      cases hk
      obtain ⟨a, rfl, _, hw⟩ := DataW.trod_int hu h
      exact ⟨⟨a, rfl, hw⟩, trivial⟩
    · rename_i fs hu
      cases hl : flatFields P (flatK P n) 0 fs.toList with
      | none => rw [hl] at hk; cases hk
      | some l =>
        rw [hl] at hk
        simp only [Option.bind_some] at hk
        split at hk
        · rename_i hc
          obtain rfl : l = ks := Option.some.inj hk
          obtain ⟨xs, m', rfl, _, hlen, hxl, hg⟩ := DataW.trod_struct hu h
          have := flat_fields (enc := enc) (w := w) (base := base) (spare := spare) (held := held) (cs := cs) (fun t l c ht ⟨m, x, hx⟩ => flat_open n t l ht m c x hx) fs.toList 0 l hl (fun f hf => by
            obtain ⟨i, hi, e⟩ := List.getElem_of_mem hf
            have hi' : i < fs.size := by simpa using hi
            have := hg i f (by rw [Array.getElem?_eq_getElem hi']; simpa using e)
            rw [List.getElem?_eq_getElem (by omega)] at this
            exact ⟨_, _, this⟩)
          rw [List.drop_zero, List.take_of_length_le (by omega)] at this
          exact this
        · cases hk
    · rename_i m0 e hu
      cases hl : flatK P n e with
      | none => rw [hl] at hk; cases hk
      | some l =>
        rw [hl] at hk
        simp only [Option.bind_some] at hk
        split at hk
        · rename_i hc
          cases hk
          obtain ⟨xs, m', rfl, _, hlen, hxl, hg⟩ := DataW.trod_array hu h
          refine flat_array m0 cs (by omega) fun i hi => ?_
          have := hg i hi
          rw [List.getElem?_eq_getElem (by omega), hc.1] at this
          exact flat_open n e l hl m' _ _ this
        · cases hk
    · cases hk

theorem okWide_agg {r : Reach} {b0 : Nat} {t : TypeId} {v : Value} (hs : (∃ fs, P.underlying t = some (.struct fs)) ∨ ∃ n e, P.underlying t = some (.array n e)) (hv : Value.okWide P w r b0 t v) : ∃ cs : List Value, v = .agg ⟨cs⟩ := by
  rcases hs with ⟨fs, hs⟩ | ⟨n, e, hs⟩ <;>
  · simp only [Value.okWide, hs] at hv
    obtain ⟨⟨l⟩, h1, _⟩ := hv
    exact ⟨l, h1⟩

/-- An argument of a flat struct or array type. -/
theorem flat_value {r : Reach} {b0 n : Nat} {t : TypeId} {v : Value} {d : DataW H} {p : List MemPlace} {ks : List Sc} (hk : flatK P n t = some ks) (hs : (∃ fs, P.underlying t = some (.struct fs)) ∨ ∃ n e, P.underlying t = some (.array n e))
    (hv : Value.okWide P w r b0 t v) (h : DataW.Trod enc P w base spare held t v d p) : ∃ cs : List Value, v = .agg ⟨cs⟩ ∧ AllOk ks cs := by
  obtain ⟨cs, rfl⟩ := okWide_agg hs hv
  obtain ⟨m, h⟩ := h
  exact ⟨cs, rfl, flat_open n t ks hk m cs _ (by simpa [Value.cells] using h)⟩

theorem add_at {a : Addr} (h : a.spot = none) (i j : Nat) : (a.add i).add j = ⟨a.block, a.off + i + j, none⟩ := by
  obtain ⟨b, o, s⟩ := a
  simp only at h
  subst h
  unfold Addr.add
  split <;> split <;> simp_all

/-- A slice that can be read: its elements' cells, each of which can be read. -/
theorem slice_open {t e : TypeId} {fuel : Nat} {cs : List Value} {x : DataW H × List MemPlace} (ht : P.underlying t = some (.slice e)) (hC : 0 < P.cellsOf e) (h : DataW.trod enc P w base spare held fuel t cs = some x) :
    ∃ (v : Value) (css : List (List Value)), cs = [v] ∧ Sl w w.heap.size (P.cellsOf e) v css.length css.flatten ∧ ∀ c ∈ css, c.length = P.cellsOf e ∧ ∃ m y, DataW.trod enc P w base spare held m e c = some y := by
  rcases Go.Deep.open_slice ht h with ⟨rfl, _⟩ | ⟨a, len, cap, m, n, D, Pl, rfl, _, hl, hm, hmm, _, hi⟩
  · exact ⟨_, [], rfl, ⟨by simp, none, 0, rfl, Nat.le_refl _, Nat.zero_le _, fun h => absurd h (by simp)⟩, by simp⟩
  · have hlm : len ≤ m := by rw [hmm]; split <;> omega
    have hel : ∀ i, i < len → ∃ c, c.length = P.cellsOf e ∧ (∀ j, j < P.cellsOf e → w.cell? ((a.add (i * P.cellsOf e)).add j) = c[j]?) ∧ ∃ m y, DataW.trod enc P w base spare held m e c = some y := by
      intro i hi'
      obtain ⟨c, h1, h2⟩ := hi i (by omega)
      obtain ⟨_, h3, h4⟩ := World.cells?_some h1
      exact ⟨c, h3, h4, _, _, h2⟩
    have hsp : 0 < len → a.spot = none ∧ a.block < w.heap.size := by
      intro h0
      obtain ⟨c, h1, h2, _⟩ := hel 0 h0
      have := h2 0 hC
      rw [List.getElem?_eq_getElem (by omega)] at this
      simp only [Nat.zero_mul] at this
      have h3 : (a.add 0).add 0 = a := by simp [Addr.add]
      rw [h3] at this
      refine ⟨?_, block_lt_of_cell this⟩
      unfold World.cell? at this
      split at this
      · split at this
        · cases this
        · rename_i hs; simpa using hs
      · cases this
    -- the elements' cells, one after another
    have hex : ∀ k, k ≤ len → ∃ css : List (List Value), css.length = k ∧ (∀ c ∈ css, c.length = P.cellsOf e ∧ ∃ m y, DataW.trod enc P w base spare held m e c = some y) ∧ css.flatten.length = k * P.cellsOf e ∧
        ∀ j u, css.flatten[j]? = some u → w.cell? ⟨a.block, a.off + j, none⟩ = some u := by
      intro k
      induction k with
      | zero => intro _; exact ⟨[], rfl, by simp, by simp, by simp⟩
      | succ k ih =>
        intro hk
        obtain ⟨css, h1, h2, h3, h4⟩ := ih (by omega)
        obtain ⟨c, c1, c2, c3⟩ := hel k (by omega)
        obtain ⟨s1, s2⟩ := hsp (by omega)
        refine ⟨css ++ [c], by simp [h1], ?_, by simp [h3, c1, Nat.succ_mul], ?_⟩
        · intro d hd
          rcases List.mem_append.1 hd with hd | hd
          · exact h2 d hd
          · simp at hd; subst hd; exact ⟨c1, c3⟩
        · intro j u hu
          rw [List.flatten_append] at hu
          by_cases hj : j < css.flatten.length
          · rw [List.getElem?_append_left hj] at hu
            exact h4 j u hu
          · rw [List.getElem?_append_right (by omega)] at hu
            simp only [List.flatten_cons, List.flatten_nil, List.append_nil] at hu
            have hlt : j - css.flatten.length < P.cellsOf e := by
              have := (List.getElem?_eq_some_iff.1 hu).1
              omega
            have := c2 _ hlt
            rw [hu] at this
            rw [← this]
            rw [add_at s1, h3]
            congr 2
            omega
    obtain ⟨css, h1, h2, h3, h4⟩ := hex len (Nat.le_refl _)
    refine ⟨_, css, rfl, ⟨by rw [h3, h1], some a, cap, by rw [h1], by omega, hm, fun h0 => ?_⟩, h2⟩
    obtain ⟨s1, s2⟩ := hsp (by omega)
    obtain ⟨ab, ao, asp⟩ := a
    simp only at s1
    subst s1
    exact ⟨ab, ao, rfl, s2, h4⟩

/-- An argument that is a slice. -/
theorem slice_value {r : Reach} {b0 : Nat} {t e : TypeId} {v : Value} {d : DataW H} {p : List MemPlace} (ht : P.underlying t = some (.slice e)) (hC : 0 < P.cellsOf e) (hv : Value.okWide P w r b0 t v) (h : DataW.Trod enc P w base spare held t v d p) :
    ∃ css : List (List Value), Sl w w.heap.size (P.cellsOf e) v css.length css.flatten ∧ ∀ c ∈ css, c.length = P.cellsOf e ∧ ∃ m y, DataW.trod enc P w base spare held m e c = some y := by
  obtain ⟨a, len, cap, rfl⟩ := okWide_slice ht hv
  obtain ⟨m, h⟩ := h
  obtain ⟨v, css, h1, h2, h3⟩ := slice_open ht hC h
  simp [Value.cells] at h1
  subst h1
  exact ⟨css, h2, h3⟩
end
end Go.Proofs.Ytcegjehoejgofaa
