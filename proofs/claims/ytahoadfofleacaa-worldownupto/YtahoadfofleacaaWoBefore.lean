/-
Proved: words for the slice of slices of ways that the statement WorldOwn gathers. No walk. No condition.
-/
import Derived.Test.YtahoadfofleacaaWoSame
import Derived.Test.YtahoadfofleacaaWoClone
import Derived.Test.YtahoadfofleacaaWoBulk
import Derived.Test.YtahoadfofleacaaWoShape
import Derived.Test.YtahoadfofleacaaWoBuild
import Derived.Test.YtahoadfofleacaaJoined2
namespace Go.Proofs.Ytahoadfofleacaa
open Go.ChangeShapes Go.WideShapes Go.ChangeAt Go.RowKit Go.Joins

/-- The variable in block 'g' is a slice of the call's own that holds these slices of ways, which are new. -/
structure Bf (w : World) (g base : Nat) (ls : List (List Wy)) : Prop where
  ex : ∃ sv xs, Box w g 74 #[sv] ∧ w.ownsRow base 59 1 sv ls.length xs ∧ ∀ (k : Nat) u l, xs[k]? = some u → ls[k]? = some l → ∃ A c, u = .slice A l.length c ∧ Fr w base w.heap.size u l
theorem Bf.start (w : World) (base : Nat) : Bf (w.alloc (.cells #[.slice none 0 0] 74)) w.heap.size base [] :=
  ⟨.slice none 0 0, [], Box.new w _ _, ⟨rfl, .inl ⟨rfl, rfl⟩⟩, fun k u l h => by simp at h⟩
theorem Bf.call {w w' : World} {g base : Nat} {ls : List (List Wy)} (h : Bf w g base ls) (hb : Below w.heap.size w w') : Bf w' g base ls := by
  obtain ⟨sv, xs, h1, h2, h3⟩ := h
  refine ⟨sv, xs, h1.call hb, own_below h2 hb, fun k u l hu hl => ?_⟩
  obtain ⟨A, c, e, fr⟩ := h3 k u l hu hl
  exact ⟨A, c, e, (fr.call hb).more (Nat.le_refl _) hb.size⟩
theorem Bf.bs {w : World} {g base : Nat} {ls : List (List Wy)} (h : Bf w g base ls) : Bs w g ls := by
  obtain ⟨sv, xs, h1, h2, h3⟩ := h
  have sl := Sl.ofOwn h2
  obtain ⟨hl, A, c, rfl, k1, k2, k3⟩ := sl
  refine ⟨A, c, h1.at_ 0 rfl, k1, k2, fun h0 => ?_⟩
  obtain ⟨b, o, e, hb, hc⟩ := k3 h0
  refine ⟨b, o, e, hb, fun k l hk => ?_⟩
  have hlt : k < ls.length := (List.getElem?_eq_some_iff.1 hk).1
  have hx : xs[k]? = some (xs[k]'(by omega)) := List.getElem?_eq_getElem _
  obtain ⟨A', c', e', fr⟩ := h3 k _ l hx hk
  rw [e'] at hx fr
  exact ⟨A', c', hc k _ hx, fr.ws⟩

/-- A new slice of ways and a block that holds it came up. -/
structure NewB (w0 : World) (g : Nat) (A : Option Addr) (c : Nat) (w : World) (l : List Wy) : Prop where
  low : Below w0.heap.size w0 w
  new : w0.heap.size ≤ g
  box : Box w g 59 #[.slice A l.length c]
  fr : Fr w w0.heap.size w.heap.size (.slice A l.length c) l
theorem info_ways : (Try.prog.info? 59).map (fun i => (i.zero, i.size, i.bytes)) = some (some (.slice none 0 0), 1, 24) := by kernel_rfl

theorem rowsL_le (css : List (List St)) : (rowsL css).length ≤ szW css := by
  unfold rowsL szW
  induction css with
  | nil => simp
  | cons a r ih =>
    rw [List.flatMap_cons, List.length_append, List.map_cons, List.sum_cons, List.length_map]
    have := szC_length a
    omega
theorem take_map {ss : List St} {q : Nat} {z : St} (h : ss[q]? = some z) : (ss.take (q + 1)).map (·.l) = (ss.take q).map (·.l) ++ [z.l] := by
  obtain ⟨hq, rfl⟩ := List.getElem?_eq_some_iff.1 h
  rw [List.take_succ_eq_append_getElem hq, List.map_append]
  rfl
theorem rows_upto {css : List (List St)} {j : Nat} {ss : List St} (h : css[j]? = some ss) (q : Nat) : (rowsL (css.take j) ++ (ss.take q).map (·.l)).length ≤ (rowsL css).length := by
  have e : rowsL css = rowsL (css.take (j + 1)) ++ rowsL (css.drop (j + 1)) := by
    unfold rowsL
    rw [← List.flatMap_append, List.take_append_drop]
  rw [e, rowsL_succ h]
  simp only [List.length_append, List.length_map, List.length_take]
  omega

/-- So many worlds lie in block 'gw', their caches in blocks from 'B' on. -/
structure Wls (w : World) (B gw nW : Nat) (cur : Array Value) : Prop where
  box : Box w gw 31 cur
  each : ∀ j, j < nW → ∃ A c k m, m.length = 64 ∧ (∀ i u, (wldA (.slice A k c) m)[i]? = some u → cur[j * 65 + i]? = some u) ∧ ShC w B (.slice A k c) k
theorem Wls.call {w w' : World} {B gw nW : Nat} {cur : Array Value} (h : Wls w B gw nW cur) (hb : Below w.heap.size w w') : Wls w' B gw nW cur :=
  ⟨h.box.call hb, fun j hj => by obtain ⟨A, c, k, m, h1, h2, h3⟩ := h.each j hj; exact ⟨A, c, k, m, h1, h2, h3.call hb⟩⟩
theorem Wls.bump {w w' : World} {B gw nW g' i : Nat} {cur cw : Array Value} {z : Int} (h : Wls w B gw nW cur) (b : Box w g' 51 cw) (b' : Box w' g' 51 (cw.setIfInBounds i (.int .i64 z))) (st : Stored w g' w') : Wls w' B gw nW cur :=
  ⟨st.box h.box (box_ne h.box b (by decide)), fun j hj => by obtain ⟨A, c, k, m, h1, h2, h3⟩ := h.each j hj; exact ⟨A, c, k, m, h1, h2, h3.bump b b' st⟩⟩
theorem Wls.two {w : World} {B gw : Nat} {A A' : Option Addr} {c c' k k' : Nat} {m m' : List Int} (hm : m.length = 64) (hm' : m'.length = 64) (hb : Box w gw 31 (wldA (.slice A k c) m ++ wldA (.slice A' k' c') m')) (h : ShC w B (.slice A k c) k) (h' : ShC w B (.slice A' k' c') k') :
    Wls w B gw 2 (wldA (.slice A k c) m ++ wldA (.slice A' k' c') m') := by
  have s1 : (wldA (.slice A k c) m).size = 65 := by rw [wldA_size, hm]
  refine ⟨hb, fun j hj => ?_⟩
  have : j = 0 ∨ j = 1 := by omega
  rcases this with rfl | rfl
  · refine ⟨A, c, k, m, hm, fun i u hu => ?_, h⟩
    have hi : i < (wldA (.slice A k c) m).size := by
      rcases Nat.lt_or_ge i (wldA (.slice A k c) m).size with h | h
      · exact h
      · rw [Array.getElem?_eq_none h] at hu; cases hu
    rw [Nat.zero_mul, Nat.zero_add, Array.getElem?_append, if_pos hi]
    exact hu
  · refine ⟨A', c', k', m', hm', fun i u hu => ?_, h'⟩
    rw [Array.getElem?_append, if_neg (by omega), s1, show 1 * 65 + i - 65 = i by omega]
    exact hu
/-- One more world is appended. -/
theorem Wls.three {w w' : World} {B gw base : Nat} {cur : Array Value} {A : Option Addr} {c k : Nat} {m : List Int} {v' : Value} {xs : List Value} (h : Wls w B gw 2 cur) (hx : xs = cur.toList) (hs : cur.size = 130) (hm : m.length = 64)
    (own : w'.ownsRow base 31 65 v' 3 (xs ++ (wldA (.slice A k c) m).toList)) (hv : v' ≠ .slice none 0 0) (each : ∀ A c k, ShC w B (.slice A k c) k → ShC w' B (.slice A k c) k) (sh : ShC w' B (.slice A k c) k) :
    ∃ g cap cur', v' = .slice (some ⟨g, 0, none⟩) 3 cap ∧ 3 ≤ cap ∧ cap ≤ maxLen ∧ Wls w' B g 3 cur' := by
  obtain ⟨_, h2⟩ := own
  rcases h2 with ⟨rfl, _⟩ | ⟨g, cap, cur', rfl, _, hh, hn, hmx, hsz, ht⟩
  · exact absurd rfl hv
  · refine ⟨g, cap, cur', rfl, hn, hmx, hh, fun j hj => ?_⟩
    have key : ∀ q u, (xs ++ (wldA (.slice A k c) m).toList)[q]? = some u → cur'[q]? = some u := fun q u hu => by
      rw [← ht] at hu
      rw [List.getElem?_take] at hu
      split at hu
      · rwa [Array.getElem?_toList] at hu
      · cases hu
    by_cases h2 : j < 2
    · obtain ⟨A1, c1, k1, m1, q1, q2, q3⟩ := h.each j h2
      refine ⟨A1, c1, k1, m1, q1, fun i u hu => key _ _ ?_, each _ _ _ q3⟩
      have := q2 i u hu
      have hlt : j * 65 + i < cur.size := by
        rcases Nat.lt_or_ge (j * 65 + i) cur.size with h | h
        · exact h
        · rw [Array.getElem?_eq_none h] at this; cases this
      rw [hx, List.getElem?_append_left (by rw [Array.length_toList]; exact hlt), Array.getElem?_toList]
      exact this
    · obtain rfl : j = 2 := by omega
      refine ⟨A, c, k, m, hm, fun i u hu => key _ _ ?_, sh⟩
      rw [hx, List.getElem?_append_right (by rw [Array.length_toList]; omega), Array.length_toList, hs, show 2 * 65 + i - 130 = i by omega, Array.getElem?_toList]
      exact hu

theorem shareP {M Φ : Nat → Option Addr → Nat → Nat → Wy → Int → World → Prop} {G : Prop} (tree : (∀ g A c k z E w, M g A c k z E w → Φ g A c k z E w) → G) (last : ∀ g A c k z E w, M g A c k z E w → Φ g A c k z E w) : G := tree last
/-- A new variable and a new cache came up. -/
structure NewS (w0 : World) (g : Nat) (A : Option Addr) (c k : Nat) (w : World) : Prop where
  low : Below w0.heap.size w0 w
  new : w0.heap.size ≤ g
  box : Box w g 51 zeroA
  sh : ∀ w', Stored w g w' → ShR w' w0.heap.size (.slice A k c) k
theorem NewS.after {w0 wy : World} {A : Option Addr} {c k : Nat} (near : Below w0.heap.size w0 wy) (sh : ShR wy w0.heap.size (.slice A k c) k) : NewS w0 wy.heap.size A c k (wy.alloc (.cells zeroA 51)) :=
  ⟨gAlloc near _, near.size, Box.new wy _ _, fun _ st => sh.call (st.low (gAlloc (Below.refl _ _) _) (Nat.le_refl _))⟩
theorem NewS.before {w0 wy : World} {g : Nat} {A : Option Addr} {c k : Nat} (near : Below w0.heap.size w0 wy) (hg : w0.heap.size = g) (box : Box wy g 51 zeroA) (sh : ShR wy (g + 1) (.slice A k c) k) : NewS w0 g A c k wy :=
  ⟨near, Nat.le_of_eq hg, box, fun _ st => (sh.past st (Nat.lt_succ_self _)).more (by omega)⟩
/-- The world of two caches. -/
theorem ShC.pair {w : World} {B g : Nat} {A A' : Option Addr} {c c' k k' : Nat} (hg : B ≤ g) (hb : Box w g 55 #[.slice A k c, .slice A' k' c']) (h : ShR w B (.slice A k c) k) (h' : ShR w B (.slice A' k' c') k') : ShC w B (.slice (some ⟨g, 0, none⟩) 2 2) 2 := by
  refine ⟨.inr ⟨g, 2, _, rfl, hg, hb, Nat.le_refl _, by unfold maxLen; omega, fun q hq => ?_⟩⟩
  have : q = 0 ∨ q = 1 := by omega
  rcases this with rfl | rfl
  · exact ⟨_, k, rfl, h⟩
  · exact ⟨_, k', rfl, h'⟩
end Go.Proofs.Ytahoadfofleacaa
