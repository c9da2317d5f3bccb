/-
Proved: words for the copies of all lines; what collect of package agree returns, for every world that can be read; it changes nothing that was there. No condition.
-/
import Derived.Test.YtmodajmjmdigfaaWorlds
namespace Go.Proofs.Ytmodajmjmdigfaa
open Go.ChangeShapes Go.WideShapes Go.ChangeAt Go.RowKit Go.Joins

/-- The lines that a node has; those of the first nodes; the copies of one line among them. -/
def cpsOf (i : Nat) (ss : List St) : List Cp := (allW ss).map fun x => ⟨i, x⟩
def copN (css : List (List St)) : Nat → List Cp
  | 0 => []
  | k + 1 => copN css k ++ cpsOf k (css.getD k [])
def onL (k : Nat) (P : List Cp) : List Cp := P.filter fun c => c.x.ln == (k : Int)

theorem copN_succ {css : List (List St)} {k : Nat} {ss : List St} (h : css[k]? = some ss) : copN css (k + 1) = copN css k ++ cpsOf k ss := by
  simp [copN, List.getD, h]
theorem onL_ln {k : Nat} {P : List Cp} {c : Cp} (h : c ∈ onL k P) : c.x.ln = k := by
  simpa using (List.mem_filter.1 h).2
theorem onL_same {k : Nat} (P : List Cp) {c : Cp} (h : c.x.ln = (k : Int)) : onL k (P ++ [c]) = onL k P ++ [c] := by
  simp [onL, List.filter_append, h]
theorem onL_other {k : Nat} (P : List Cp) {c : Cp} (h : c.x.ln ≠ (k : Int)) : onL k (P ++ [c]) = onL k P := by
  simp [onL, List.filter_append, h]
theorem onL_length (k : Nat) (P : List Cp) : (onL k P).length ≤ P.length := List.length_filter_le _ _

theorem allW_length {ss : List St} (h : ∀ t ∈ ss, t.l.length ≤ 4) : (allW ss).length ≤ ss.length * 4 := by
  induction ss with
  | nil => simp [allW]
  | cons t r ih =>
    have h1 := h t (by simp)
    have h2 := ih (fun u hu => h u (by simp [hu]))
    have h3 : (t.l.filter heldB).length ≤ t.l.length := List.length_filter_le _ _
    simp only [allW, List.flatMap_cons, List.length_append, List.length_cons] at *
    omega
theorem allW_16 {n s y b : Int} {ss : List St} (h : cacheE n s y b ss = 0) : (allW ss).length ≤ 16 := by
  obtain ⟨h1, h2⟩ := (goodC_iff.1 h).small
  have := allW_length (ss := ss) (fun t ht => by
    obtain ⟨k, hk, e⟩ := List.getElem_of_mem ht
    exact (h2 k t (by rw [List.getElem?_eq_getElem hk, e])).2)
  omega
theorem allW_line {n s y b : Int} {ss : List St} (h : cacheE n s y b ss = 0) {x : Wy} (hx : x ∈ allW ss) : 0 ≤ x.ln ∧ x.ln ≤ 15 := by
  obtain ⟨t, ht, hm⟩ := List.mem_flatMap.1 hx
  obtain ⟨k, hk, e⟩ := List.getElem_of_mem ht
  obtain ⟨j, hj, e'⟩ := List.getElem_of_mem (List.mem_filter.1 hm).1
  exact rowE_line ((goodC_iff.1 h).2.2 k t (by rw [List.getElem?_eq_getElem hk, e])).1 (k := j) (by rw [List.getElem?_eq_getElem hj, e'])

/-- No copies at all. -/
def nil16 : Array Value := (List.replicate 16 (.slice none 0 0)).toArray
theorem nil16_size : nil16.size = 16 := by simp [nil16]
theorem tyCopies : Ty 112 nil16 := ⟨by kernel_rfl, ⟨_, Try.underlying112, rfl⟩, fun w => by kernel_rfl⟩

/-! A row that a call owns, and other blocks. -/
theorem own_ne {w : World} {base size n g : Nat} {e t : TypeId} {v : Value} {xs : List Value} {cs : Array Value} (h : w.ownsRow base e size v n xs) (b : Box w g t cs) (ht : t ≠ e) : some g ≠ v.ownBlock := by
  rcases h.2 with ⟨rfl, _⟩ | ⟨g', cap, cur, rfl, _, hh, _⟩
  · simp [Value.ownBlock]
  · simp only [Value.ownBlock]
    intro e'
    cases e'
    unfold Box at b
    rw [hh] at b
    simp only [Option.some.injEq, Obj.cells.injEq] at b
    exact ht b.2.1.symm
theorem own_stored {w w' : World} {base size n g : Nat} {e : TypeId} {v : Value} {xs : List Value} (h : w.ownsRow base e size v n xs) (st : Stored w g w') (hne : some g ≠ v.ownBlock) : w'.ownsRow base e size v n xs := by
  refine ⟨h.1, ?_⟩
  rcases h.2 with hn | ⟨g', cap, cur, rfl, hb, hgg, rest⟩
  · exact .inl hn
  · exact .inr ⟨g', cap, cur, rfl, hb, (st.heap (fun e => hne (by simp [Value.ownBlock, e]))).trans hgg, rest⟩
theorem Own.grown {w w' : World} {g : Nat} {v : Value} {l : List Wy} {row : Option Nat} (h : Own w g v l) (hg : w.grownBy w' row) (hne : some g ≠ row) : Own w' g v l := by
  obtain ⟨cap, cur, rfl, hb, r⟩ := h
  exact ⟨cap, cur, rfl, hb.grown hg hne, r⟩
theorem Fr.grown {w w' : World} {B C base size n : Nat} {v u : Value} {l : List Wy} {e : TypeId} {xs : List Value} (h : Fr w B C v l) (own : w.ownsRow base e size u n xs) (he : 32 ≠ e) (hg : w.grownBy w' u.ownBlock) : Fr w' B C v l := by
  rcases h with h | ⟨g, h1, h2, h3⟩
  · exact .inl h
  · refine .inr ⟨g, h1, h2, h3.grown hg ?_⟩
    obtain ⟨cap, cur, _, hb, _⟩ := h3
    exact own_ne own hb he
theorem Fr.stored {w w' : World} {B C g : Nat} {v : Value} {l : List Wy} {t : TypeId} {cs : Array Value} (h : Fr w B C v l) (b : Box w g t cs) (ht : 32 ≠ t) (st : Stored w g w') : Fr w' B C v l := by
  rcases h with h | ⟨g', h1, h2, cap, cur, e, hb, r⟩
  · exact .inl h
  · refine .inr ⟨g', h1, h2, cap, cur, e, st.box hb ?_, r⟩
    intro e'
    subst e'
    unfold Box at b hb
    rw [hb] at b
    simp only [Option.some.injEq, Obj.cells.injEq] at b
    exact ht b.2.1

/-- The slices of copies, line by line. -/
structure Held (w : World) (base : Nat) (us : List Value) (P : List Cp) : Prop where
  len : us.length = 16
  own : ∀ (k : Nat) u, us[k]? = some u → w.ownsRow base 118 7 u (onL k P).length (cpsC (onL k P)) ∧ (u = .slice none 0 0 ∨ onL k P ≠ [])

theorem Held.start (w : World) (base : Nat) : Held w base (List.replicate 16 (.slice none 0 0)) [] := by
  refine ⟨by simp, fun k u hu => ?_⟩
  have : u = .slice none 0 0 := List.eq_of_mem_replicate (List.mem_of_getElem? hu)
  subst this
  exact ⟨World.ownsRow_nil _ _ _ _, .inl rfl⟩
theorem Held.call {w w' : World} {base : Nat} {us : List Value} {P : List Cp} (h : Held w base us P) (hb : Below w.heap.size w w') : Held w' base us P :=
  ⟨h.len, fun k u hu => ⟨own_below (h.own k u hu).1 hb, (h.own k u hu).2⟩⟩
theorem Held.alloc {w : World} {base : Nat} {us : List Value} {P : List Cp} (h : Held w base us P) (o : Obj) : Held (w.alloc o) base us P := h.call (gAlloc (Below.refl _ _) o)
theorem Held.drew {w : World} {base : Nat} {us : List Value} {P : List Cp} (h : Held w base us P) : Held w.drew base us P := h.call (Below.refl _ _).drew
theorem Held.stored {w w' : World} {base g : Nat} {us : List Value} {P : List Cp} {t : TypeId} {cs : Array Value} (h : Held w base us P) (b : Box w g t cs) (ht : t ≠ 118) (st : Stored w g w') : Held w' base us P :=
  ⟨h.len, fun k u hu => ⟨own_stored (h.own k u hu).1 st (own_ne (h.own k u hu).1 b ht), (h.own k u hu).2⟩⟩

/-- The line of the first copy that a slice holds. -/
theorem Held.first {w : World} {base : Nat} {us : List Value} {P : List Cp} (h : Held w base us P) {k g : Nat} {u : Value} (hu : us[k]? = some u) (hg : u.ownBlock = some g) : w.cell? ⟨g, 2, none⟩ = some (.int .i64 k) := by
  obtain ⟨h1, h2⟩ := h.own k u hu
  rcases h2 with rfl | h2
  · simp [Value.ownBlock] at hg
  · have e : (⟨g, 0, none⟩ : Addr).add 2 = ⟨g, 2, none⟩ := by simp [Addr.add]
    rw [← e]
    refine h1.cells hg 2 _ ?_
    cases hl : onL k P with
    | nil => exact absurd hl h2
    | cons c r =>
      have hc : c.x.ln = k := onL_ln (P := P) (by rw [hl]; simp)
      have := cpsC_at (l := c :: r) (k := 0) (x := c) rfl 2 (by omega)
      simp only [Nat.zero_mul, Nat.zero_add] at this
      rw [this]
      simp [Cp.cells, hc]

/-- One copy more. -/
theorem Held.push {w w' : World} {base : Nat} {us : List Value} {P : List Cp} (h : Held w base us P) {k : Nat} {u v' : Value} (hu : us[k]? = some u) {c : Cp} (hc : c.x.ln = (k : Int))
    (own : w'.ownsRow base 118 7 v' ((onL k P).length + 1) (cpsC (onL k P) ++ c.cells)) (grow : w.grownBy w' u.ownBlock) : Held w' base (us.set k v') (P ++ [c]) := by
  have hk := (List.getElem?_eq_some_iff.1 hu).1
  refine ⟨by rw [List.length_set]; exact h.len, fun j z hz => ?_⟩
  by_cases e : j = k
  · subst e
    rw [List.getElem?_set_self hk] at hz
    cases hz
    rw [onL_same P hc, cpsC_snoc, List.length_append]
    exact ⟨own, .inr (by simp)⟩
  · rw [List.getElem?_set_ne (fun h => e h.symm)] at hz
    rw [onL_other P (by rw [hc]; omega)]
    refine ⟨(h.own j z hz).1.kept grow ?_, (h.own j z hz).2⟩
    cases hzb : z.ownBlock with
    | none => exact .inl rfl
    | some g =>
      refine .inr fun e' => ?_
      have a1 := h.first hz hzb
      have a2 := h.first hu e'.symm
      rw [a1] at a2
      simp at a2
      omega

/-- What a caller may read. -/
theorem Held.cps {w : World} {base : Nat} {us : List Value} {P : List Cp} (h : Held w base us P) {k : Nat} {u : Value} (hu : us[k]? = some u) : Cps w u (onL k P) := ⟨Sl.ofOwn (h.own k u hu).1⟩
end Go.Proofs.Ytmodajmjmdigfaa
