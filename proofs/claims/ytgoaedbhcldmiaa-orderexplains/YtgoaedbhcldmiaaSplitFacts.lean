/-
Proved: words for operations split by their nodes: the lists, the slices that grow side by side, the first error. No walk. No condition.
-/
import Derived.Test.YtgoaedbhcldmiaaProgs
import Derived.Test.YtgoaedbhcldmiaaOwned
import Derived.Test.YtgoaedbhcldmiaaOpsDelete
namespace Go.Proofs.Ytgoaedbhcldmiaa
open Go.ChangeShapes Go.WideShapes Go.ChangeAt Go.RowKit Go.Joins

/-- The operations of node k. -/
def onD (k : Nat) (l : List Dd) : List Dd := l.filter fun d => d.nd == (k : Int)
def splitL (n : Nat) (l : List Dd) : List (List Dd) := (List.range n).map fun k => onD k l
/-- The first error. -/
def errS (n : Int) : List Dd → Int
  | [] => 0
  | d :: r => if deedE d ≠ 0 then deedE d else if n ≤ d.nd then 4 else errS n r
def splitE (n s y b : Int) (l : List Dd) : Int := if cfgB n s y b = false then 4 else if 200 < l.length then 2 else errS n l

theorem errS_at {n : Int} {l : List Dd} {j : Nat} {d : Dd} (h : l[j]? = some d) : errS n (l.drop j) = if deedE d ≠ 0 then deedE d else if n ≤ d.nd then 4 else errS n (l.drop (j + 1)) := by
  obtain ⟨hk, rfl⟩ := List.getElem?_eq_some_iff.1 h
  rw [List.drop_eq_getElem_cons hk, errS]
theorem errS_zero {n : Int} : ∀ {l : List Dd}, errS n l = 0 ↔ ∀ d ∈ l, deedE d = 0 ∧ d.nd < n
  | [] => by simp [errS]
  | d :: r => by
    have ih := errS_zero (n := n) (l := r)
    unfold errS
    by_cases h1 : deedE d = 0
    · rw [if_neg (by simpa using h1)]
      by_cases h2 : n ≤ d.nd
      · rw [if_pos h2]
        constructor
        · intro h; cases h
        · intro h; have := (h d (by simp)).2; omega
      · rw [if_neg h2, ih]
        constructor
        · intro h e he
          rcases List.mem_cons.1 he with rfl | he
          · exact ⟨h1, by omega⟩
          · exact h e he
        · intro h e he
          exact h e (by simp [he])
    · rw [if_pos h1]
      constructor
      · intro h; exact absurd h h1
      · intro h; exact absurd (h d (by simp)).1 h1

theorem onD_nd {k : Nat} {P : List Dd} {c : Dd} (h : c ∈ onD k P) : c.nd = k := by
  simpa using (List.mem_filter.1 h).2
theorem onD_same {k : Nat} (P : List Dd) {c : Dd} (h : c.nd = (k : Int)) : onD k (P ++ [c]) = onD k P ++ [c] := by
  simp [onD, List.filter_append, h]
theorem onD_other {k : Nat} (P : List Dd) {c : Dd} (h : c.nd ≠ (k : Int)) : onD k (P ++ [c]) = onD k P := by
  simp [onD, List.filter_append, h]
theorem onD_length (k : Nat) (P : List Dd) : (onD k P).length ≤ P.length := List.length_filter_le _ _
theorem splitL_length (n : Nat) (l : List Dd) : (splitL n l).length = n := by simp [splitL]
theorem splitL_at {n : Nat} (l : List Dd) {k : Nat} (h : k < n) : (splitL n l)[k]? = some (onD k l) := by simp [splitL, h]
theorem deed_in {l : List Dd} {x : Dd} (j : Nat) (h : l[0]? = some x) (hj : j < 4) : (deedsC l)[j]? = x.cells[j]? := by
  have := deedsC_at (l := l) (k := 0) h j hj
  simpa using this
theorem deedsC_add (l : List Dd) (x : Dd) : deedsC (l ++ [x]) = deedsC l ++ x.cells := by simp [deedsC]

/-- The slices of operations, node by node. -/
structure HeldD (w : World) (base n : Nat) (us : List Value) (P : List Dd) : Prop where
  len : us.length = n
  own : ∀ (k : Nat) u, us[k]? = some u → w.ownsRow base 36 4 u (onD k P).length (deedsC (onD k P)) ∧ (u = .slice none 0 0 ∨ onD k P ≠ [])

theorem HeldD.start (w : World) (base n : Nat) : HeldD w base n (List.replicate n (.slice none 0 0)) [] := by
  refine ⟨by simp, fun k u hu => ?_⟩
  have : u = .slice none 0 0 := List.eq_of_mem_replicate (List.mem_of_getElem? hu)
  subst this
  exact ⟨World.ownsRow_nil _ _ _ _, .inl rfl⟩
section
variable {w w' : World} {base n : Nat} {us : List Value} {P : List Dd}
theorem HeldD.call (h : HeldD w base n us P) (hb : Below w.heap.size w w') : HeldD w' base n us P :=
  ⟨h.len, fun k u hu => ⟨own_below (h.own k u hu).1 hb, (h.own k u hu).2⟩⟩
theorem HeldD.alloc (h : HeldD w base n us P) (o : Obj) : HeldD (w.alloc o) base n us P := h.call (gAlloc (Below.refl _ _) o)
theorem HeldD.drew (h : HeldD w base n us P) : HeldD w.drew base n us P := h.call (Below.refl _ _).drew
theorem HeldD.stored {g : Nat} {t : TypeId} {cs : Array Value} (h : HeldD w base n us P) (b : Box w g t cs) (ht : t ≠ 36) (st : Stored w g w') : HeldD w' base n us P :=
  ⟨h.len, fun k u hu => ⟨own_stored (h.own k u hu).1 st (own_ne (h.own k u hu).1 b ht), (h.own k u hu).2⟩⟩

/-- The node of the first operation that a slice holds. -/
theorem HeldD.first (h : HeldD w base n us P) {k g : Nat} {u : Value} (hu : us[k]? = some u) (hg : u.ownBlock = some g) : w.cell? ⟨g, 0, none⟩ = some (.int .i64 k) := by
  obtain ⟨h1, h2⟩ := h.own k u hu
  rcases h2 with rfl | h2
  · simp [Value.ownBlock] at hg
  · have e : (⟨g, 0, none⟩ : Addr).add 0 = ⟨g, 0, none⟩ := by simp [Addr.add]
    rw [← e]
    refine h1.cells hg 0 _ ?_
    cases hl : onD k P with
    | nil => exact absurd hl h2
    | cons c r =>
      have hc : c.nd = k := onD_nd (P := P) (by rw [hl]; simp)
      rw [deed_in (l := c :: r) (x := c) 0 rfl (by omega)]
      simp [Dd.cells, hc]

/-- One operation more. -/
theorem HeldD.push (h : HeldD w base n us P) {k : Nat} {u v' : Value} (hu : us[k]? = some u) {c : Dd} (hc : c.nd = (k : Int))
    (own : w'.ownsRow base 36 4 v' ((onD k P).length + 1) (deedsC (onD k P) ++ c.cells)) (grow : w.grownBy w' u.ownBlock) : HeldD w' base n (us.set k v') (P ++ [c]) := by
  have hk := (List.getElem?_eq_some_iff.1 hu).1
  refine ⟨by rw [List.length_set]; exact h.len, fun j z hz => ?_⟩
  by_cases e : j = k
  · subst e
    rw [List.getElem?_set_self hk] at hz
    cases hz
    rw [onD_same P hc, deedsC_add, List.length_append]
    exact ⟨own, .inr (by simp)⟩
  · rw [List.getElem?_set_ne (fun h => e h.symm)] at hz
    rw [onD_other P (by rw [hc]; omega)]
    refine ⟨(h.own j z hz).1.kept grow ?_, (h.own j z hz).2⟩
    cases hzb : z.ownBlock with
    | none => exact .inl rfl
    | some g =>
      refine .inr fun e' => ?_
      have a1 := h.first hz hzb
      have a2 := h.first hu e'.symm
      rw [a1] at a2
      simp at a2
      omega

theorem HeldD.shape (h : HeldD w base n us P) {k : Nat} {u : Value} (hu : us[k]? = some u) : ∃ A c, u = .slice A (onD k P).length c := (Ds.of (Sl.ofOwn (h.own k u hu).1)).el.shape
/-- What a caller may read. -/
theorem HeldD.ps (h : HeldD w base n us P) {g : Nat} (hb : Box w g 41 us.toArray) (hn : n ≤ maxLen) : Ps w (.slice (some ⟨g, 0, none⟩) n n) (splitL n P) := by
  refine ⟨some ⟨g, 0, none⟩, n, by rw [splitL_length], by rw [splitL_length]; exact Nat.le_refl _, hn, fun _ => ⟨g, 0, rfl, hb.lt, fun k l hk => ?_⟩⟩
  have hkn : k < n := by have := (List.getElem?_eq_some_iff.1 hk).1; rwa [splitL_length] at this
  rw [splitL_at P hkn] at hk
  cases hk
  have hu : us[k]? = some (us[k]'(by rw [h.len]; exact hkn)) := List.getElem?_eq_getElem _
  generalize us[k]'(by rw [h.len]; exact hkn) = u at hu
  obtain ⟨A, c, rfl⟩ := h.shape hu
  refine ⟨A, c, ?_, ⟨Sl.ofOwn (h.own k _ hu).1⟩⟩
  rw [Nat.zero_add, hb.cell, List.getElem?_toArray]
  exact hu
end

theorem info_list : (Try.prog.info? 41).map (fun i => (i.zero, i.size, i.bytes)) = some (some (.slice none 0 0), 1, 24) := by kernel_rfl
theorem make_progs (n : Nat) (hn : n ≤ 8) (w : World) : (Instr.makeSlice 27 (.int .i64 n) (.int .i64 n)).run Try.prog w = .ok (.slice (some ⟨w.heap.size, 0, none⟩) n n) (w.alloc (.cells (List.replicate n (.slice none 0 0)).toArray 41)) := by
  obtain ⟨i0, hi, hz0, hz1, hz2⟩ := info_parts info_list
  have := run_make w 27 41 i0 (.slice none 0 0) Try.underlying27 hi hz0 .i64 .i64 n n (by omega) (Int.le_refl _) (by rw [hz2]; omega) (by omega)
  rw [this, hz1]
  have e : madeCells (Value.slice none 0 0).cells n = (List.replicate n (.slice none 0 0)).toArray := by
    apply Array.ext_getElem?
    intro i
    simp [madeCells, Value.cells]
    by_cases h : i < n <;> simp [h, Nat.mod_one]
  simp [e]
end Go.Proofs.Ytgoaedbhcldmiaa
