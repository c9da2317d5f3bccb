/-
Proved: what the texts below say at the head of each. No condition but theirs.
-/
import Derived.Test.YtcegjehoejgofaaGreatJoined3
import Derived.Test.YtcegjehoejgofaaGreatJoined1
import Derived.Test.YtcegjehoejgofaaGreatJoined2
import Derived.Maps.RangeWalk
import Derived.Maps.OwnOps
namespace Go.Proofs.YtcegjehoejgofaaGreat
open Go.ChangeShapes Go.WideShapes Go.ChangeAt Go.RowKit Go.Joins
def fnd (ss : List St) (k : Nat) : Option Wy := ((allW ss).filter (fun x => x.ln == (k : Int))).head?
def AtS (ss : List St) (q i : Nat) (x : Wy) : Prop := ∃ t, ss[q]? = some t ∧ t.l[i]? = some x
theorem onL_cps (k i : Nat) (ss : List St) : onL k (cpsOf i ss) = ((allW ss).filter (fun x => x.ln == (k : Int))).map fun x => (⟨(i : Int), x⟩ : Cp) := by
 unfold onL cpsOf
 rw [List.filter_map]
 rfl
section
variable {n s y b : Int} {ss : List St} {k : Nat}
theorem fnd_find (he : cacheE n s y b ss = 0) (hk : k < 16) {z : Wy} {p : Bool} {E : Int} (hf : FindCIs n s y b ss k z p E) :
  E = 0 ∧ (p = false → z = wy0) ∧ fnd ss k = (if p = true then some z else none) ∧ (allW ss).filter (fun x => x.ln == (k : Int)) = (fnd ss k).toList := by
 obtain ⟨h1, h2, h3⟩ := onL_node (i := 0) he hk hf
 rw [onL_cps] at h3
 have h4 : (allW ss).filter (fun x => x.ln == (k : Int)) = if p = true then [z] else [] := by
  cases p
  ·rw [if_neg (by decide)] at h3 ⊢
   simpa using h3
  ·rw [if_pos rfl] at h3 ⊢
   rw [List.map_eq_singleton_iff] at h3
   obtain ⟨a, h5, h6⟩ := h3
   rw [h5]
   cases h6
   rfl
 refine ⟨h1, h2, ?_, ?_⟩
 ·unfold fnd
  rw [h4]
  cases p <;> rfl
 ·unfold fnd
  rw [h4]
  cases p <;> rfl
theorem fnd_list (he : cacheE n s y b ss = 0) (hk : k < 16) : (allW ss).filter (fun x => x.ln == (k : Int)) = (fnd ss k).toList := by
 obtain ⟨z, p, E, hf, _⟩ := cacheFind_is n s y b (.slice none 0 0) ss k
 exact (fnd_find he hk hf).2.2.2
theorem mem_allW {x : Wy} : x ∈ allW ss ↔ x.st ≠ 0 ∧ ∃ q i, AtS ss q i x := by
 unfold allW
 rw [List.mem_flatMap]
 constructor
 ·rintro ⟨t, ht, hx⟩
  obtain ⟨h1, h2⟩ := List.mem_filter.1 hx
  obtain ⟨q, hq, e⟩ := List.getElem_of_mem ht
  obtain ⟨i, hi, e2⟩ := List.getElem_of_mem h1
  exact ⟨by simpa [heldB] using h2, q, i, t, by rw [List.getElem?_eq_getElem hq, e], by rw [List.getElem?_eq_getElem hi, e2]⟩
 ·rintro ⟨h0, q, i, t, h1, h2⟩
  exact ⟨t, List.mem_of_getElem? h1, List.mem_filter.2 ⟨List.mem_of_getElem? h2, by simpa [heldB] using h0⟩⟩
theorem fnd_iff (he : cacheE n s y b ss = 0) (hk : k < 16) {x : Wy} : fnd ss k = some x ↔ hasW k x = true ∧ ∃ q i, AtS ss q i x := by
 have : fnd ss k = some x ↔ x ∈ (allW ss).filter (fun x => x.ln == (k : Int)) := by
  rw [fnd_list he hk, Option.mem_toList]
 rw [this, List.mem_filter, mem_allW, hasW_iff]
 constructor
 ·rintro ⟨⟨h1, h2⟩, h3⟩
  exact ⟨⟨h1, by simpa using h3⟩, h2⟩
 ·rintro ⟨⟨h1, h2⟩, h3⟩
  exact ⟨⟨h1, h3⟩, by simpa using h2⟩
theorem fnd_none (he : cacheE n s y b ss = 0) (hk : k < 16) : fnd ss k = none ↔ ∀ q i x, AtS ss q i x → hasW k x = false := by
 constructor
 ·intro h q i x hx
  cases e : hasW k x
  ·rfl
  ·rw [(fnd_iff he hk).2 ⟨e, q, i, hx⟩] at h
   cases h
 ·intro h
  cases e : fnd ss k with
  | none => rfl
  | some x =>
   obtain ⟨h1, q, i, h2⟩ := (fnd_iff he hk).1 e
   rw [h q i x h2] at h1
   cases h1
theorem fnd_ok (he : cacheE n s y b ss = 0) (hk : k < 16) {x : Wy} (h : fnd ss k = some x) : x.st ≠ 0 ∧ x.ln = k ∧ (1 ≤ x.st ∧ x.st ≤ 4) := by
 obtain ⟨h1, q, i, t, h2, h3⟩ := (fnd_iff he hk).1 h
 obtain ⟨h4, h5⟩ := hasW_iff.1 h1
 have hw := ((goodW_iff t.l).1 (rowE_ok ((goodC_iff.1 he).2.2 q t h2).1).2.2).1 i x h3
 refine ⟨h4, h5, ?_⟩
 unfold wayE at hw
 split at hw
 ·rename_i k1
  have := k1.1
  simp [stB] at this
  omega
 ·omega
theorem at_only (he : cacheE n s y b ss = 0) {m : Int} {q i q' i' : Nat} {x x' : Wy} (h : AtS ss q i x) (h' : AtS ss q' i' x') (hm : hasW m x = true) (hm' : hasW m x' = true) : q' = q ∧ i' = i ∧ x' = x := by
 obtain ⟨t, h1, h2⟩ := h
 obtain ⟨t', h1', h2'⟩ := h'
 have good := goodC_iff.1 he
 obtain ⟨m1, m2⟩ := hasW_iff.1 hm
 obtain ⟨m1', m2'⟩ := hasW_iff.1 hm'
 have e1 := (good.2.2 q t h1).2 i x h2 m1
 have e2 := (good.2.2 q' t' h1').2 i' x' h2' m1'
 rw [m2] at e1
 rw [m2'] at e2
 obtain rfl : q' = q := by omega
 rw [h1] at h1'
 cases h1'
 have gw := (goodW_iff t.l).1 (rowE_ok (good.2.2 q' t h1).1).2.2
 have e3 := gw.at_ h2 hm
 have e4 := gw.at_ h2' hm'
 obtain rfl : i' = i := by omega
 rw [h2] at h2'
 cases h2'
 exact ⟨rfl, rfl, rfl⟩
end
theorem GoodW.upd {l : List Wy} (h : GoodW l) {k : Nat} {x : Wy} (hx : wayE x = 0) (hn : x.st ≠ 0 → ∀ (j : Nat) z, j ≠ k → l[j]? = some z → hasW x.ln z = false) : GoodW (l.set k x) := by
 refine ⟨fun q z hz => ?_, fun p q z u hpq hz hu sz su => ?_⟩
 ·rcases set_get hz with ⟨_, rfl⟩ | ⟨_, hz⟩
  ·exact hx
  ·exact h.1 q z hz
 ·rcases set_get hz with ⟨e1, d1⟩ | ⟨e1, z2⟩ <;> rcases set_get hu with ⟨e2, d2⟩ | ⟨e2, u2⟩
  ·omega
  ·rw [d1]
   rw [d1] at sz
   exact fun e => hasW_no.1 (hn sz q u e2 u2) su e.symm
  ·rw [d2]
   rw [d2] at su
   exact fun e => hasW_no.1 (hn su p z e1 z2) sz e
  ·exact h.2 p q z u hpq z2 u2 sz su
abbrev updC (ss : List St) (r : Nat) (t : St) (j : Nat) (x : Wy) (a b c : Bool) : List St := ss.set r ⟨t.l.set j x, a, b, c⟩
section
variable {n s y b : Int} {ss : List St} {r j : Nat} {t : St} {old x : Wy} {p q p' : Bool}
theorem at_upd (ht : ss[r]? = some t) (hj : t.l[j]? = some old) {k i : Nat} {z : Wy} : AtS (updC ss r t j x p q p') k i z ↔ (k = r ∧ i = j ∧ z = x) ∨ (¬ (k = r ∧ i = j) ∧ AtS ss k i z) := by
 have hl := set_lt hj
 constructor
 ·rintro ⟨u, h1, h2⟩
  rcases st_get h1 with ⟨rfl, rfl⟩ | ⟨h3, h4⟩
  ·rcases set_get h2 with ⟨rfl, rfl⟩ | ⟨h5, h6⟩
   ·exact .inl ⟨rfl, rfl, rfl⟩
   ·exact .inr ⟨fun h => h5 h.2, t, ht, h6⟩
  ·exact .inr ⟨fun h => h3 h.1, u, h4, h2⟩
 ·rintro (⟨rfl, rfl, rfl⟩ | ⟨h1, u, h2, h3⟩)
  ·exact ⟨_, List.getElem?_set_self (st_lt ht), List.getElem?_set_self hl⟩
  ·by_cases e : k = r
   ·subst e
    rw [ht] at h2
    cases h2
    exact ⟨_, List.getElem?_set_self (st_lt ht), by rw [List.getElem?_set_ne (by omega)]; exact h3⟩
   ·exact ⟨u, by rw [List.getElem?_set_ne (fun h => e h.symm)]; exact h2, h3⟩
theorem good_upd (he : cacheE n s y b ss = 0) (ht : ss[r]? = some t) (_hj : t.l[j]? = some old) (hx : wayE x = 0) (hs : x.st ≠ 0 → x.ln % s = r ∧ ∀ (i : Nat) z, i ≠ j → t.l[i]? = some z → hasW x.ln z = false) (htr : treeE p q p' y = 0) :
  cacheE n s y b (updC ss r t j x p q p') = 0 := by
 have good := goodC_iff.1 he
 obtain ⟨_, r2, r3⟩ := rowE_ok (good.2.2 r t ht).1
 refine goodC_iff.2 (good.replace_ (rowE_zero htr (by simpa using r2) (((goodW_iff t.l).1 r3).upd hx fun h0 => (hs h0).2)) fun i z hz sz => ?_)
 rcases set_get hz with ⟨_, rfl⟩ | ⟨_, hz⟩
 ·exact (hs sz).1
 ·exact (good.2.2 r t ht).2 i z hz sz
theorem fnd_upd (he : cacheE n s y b ss = 0) (ha : cacheE n s y b (updC ss r t j x p q p') = 0) (ht : ss[r]? = some t) (hj : t.l[j]? = some old) {k : Nat} (hk : k < 16) :
  fnd (updC ss r t j x p q p') k = if hasW k x = true then some x else if hasW k old = true then none else fnd ss k := by
 by_cases h1 : hasW k x = true
 ·rw [if_pos h1]
  exact (fnd_iff ha hk).2 ⟨h1, r, j, (at_upd ht hj).2 (.inl ⟨rfl, rfl, rfl⟩)⟩
 ·rw [if_neg h1]
  by_cases h2 : hasW k old = true
  ·rw [if_pos h2, fnd_none ha hk]
   intro q' i z hz
   rcases (at_upd ht hj).1 hz with ⟨_, _, rfl⟩ | ⟨h3, h4⟩
   ·simpa using h1
   ·cases e : hasW k z
    ·rfl
    ·obtain ⟨a1, a2, _⟩ := at_only he ⟨t, ht, hj⟩ h4 h2 e
     exact absurd ⟨a1, a2⟩ h3
  ·rw [if_neg h2]
   refine Option.ext fun z => ?_
   rw [fnd_iff ha hk, fnd_iff he hk]
   constructor
   ·rintro ⟨h3, q', i, h4⟩
    rcases (at_upd ht hj).1 h4 with ⟨_, _, rfl⟩ | ⟨_, h5⟩
    ·exact absurd h3 h1
    ·exact ⟨h3, q', i, h5⟩
   ·rintro ⟨h3, q', i, h4⟩
    refine ⟨h3, q', i, (at_upd ht hj).2 (.inr ⟨?_, h4⟩)⟩
    rintro ⟨rfl, rfl⟩
    obtain ⟨t', h5, h6⟩ := h4
    rw [ht] at h5
    cases h5
    rw [hj] at h6
    cases h6
    exact h2 h3
end
def onF (h : Nat → Option Wy) : Nat → List Cp
 | 0 => []
 | j + 1 => onF h j ++ (h j).toList.map fun x => (⟨(j : Int), x⟩ : Cp)
theorem onL_copN {n s y b : Int} {css : List (List St)} (hall : ∀ ss ∈ css, cacheE n s y b ss = 0) {k : Nat} (hk : k < 16) : ∀ {j : Nat}, j ≤ css.length → onL k (copN css j) = onF (fun i => fnd (css.getD i []) k) j
 | 0, _ => by simp [copN, onL, onF]
 | j + 1, hj => by
  have hx : css[j]? = some css[j] := List.getElem?_eq_getElem _
  rw [copN_succ hx, onL_append, onL_copN hall hk (by omega), onL_cps, fnd_list (hall _ (List.mem_of_getElem? hx)) hk, onF]
  simp [List.getD, hx]
section
variable {h : Nat → Option Wy}
theorem mem_onF {c : Cp} : ∀ {N : Nat}, c ∈ onF h N ↔ ∃ i x, i < N ∧ h i = some x ∧ c = ⟨(i : Int), x⟩
 | 0 => by simp [onF]
 | N + 1 => by
  rw [onF, List.mem_append, mem_onF]
  constructor
  ·rintro (⟨i, x, h1, h2, h3⟩ | h1)
   ·exact ⟨i, x, by omega, h2, h3⟩
   ·obtain ⟨x, h2, rfl⟩ := List.mem_map.1 h1
    exact ⟨N, x, by omega, by simpa using h2, rfl⟩
  ·rintro ⟨i, x, h1, h2, rfl⟩
   by_cases e : i = N
   ·subst e
    exact .inr (List.mem_map.2 ⟨x, by simpa using h2, rfl⟩)
   ·exact .inl ⟨i, x, by omega, h2, rfl⟩
theorem pairwise_onF {R : Cp → Cp → Prop} : ∀ {N : Nat}, (onF h N).Pairwise R ↔ ∀ i j x y, j < i → i < N → h i = some x → h j = some y → R ⟨(j : Int), y⟩ ⟨(i : Int), x⟩
 | 0 => by simp [onF]
 | N + 1 => by
  rw [onF, List.pairwise_append, pairwise_onF]
  constructor
  ·rintro ⟨h1, _, h3⟩ i j x y hj hi hx hy
   by_cases e : i = N
   ·subst e
    exact h3 _ (mem_onF.2 ⟨j, y, hj, hy, rfl⟩) _ (List.mem_map.2 ⟨x, by simpa using hx, rfl⟩)
   ·exact h1 i j x y hj (by omega) hx hy
  ·intro hh
   refine ⟨fun i j x y hj hi hx hy => hh i j x y hj (by omega) hx hy, ?_, fun c hc c' hc' => ?_⟩
   ·cases h N <;> simp
   ·obtain ⟨j, y, hj, hy, rfl⟩ := mem_onF.1 hc
    obtain ⟨x, hx, rfl⟩ := List.mem_map.1 hc'
    exact hh N j x y hj (by omega) (by simpa using hx) hy
end
theorem pairsB_pw {l : List Cp} : pairsB l = true ↔ l.Pairwise fun a c => bsB c.x.st a.x.st = true := by
 rw [pairsB_iff, List.pairwise_iff_getElem]
 constructor
 ·intro h i j hi hj hij
  have := h j i hj hij
  rwa [stA_at (List.getElem?_eq_getElem hj), stA_at (List.getElem?_eq_getElem hi)] at this
 ·intro h i j hi hj
  rw [stA_at (List.getElem?_eq_getElem hi), stA_at (List.getElem?_eq_getElem (by omega))]
  exact h j i (by omega) hi hj
theorem bsB_comm (s t : Int) : bsB s t = bsB t s := by
 unfold bsB
 refine decide_eq_decide.2 ?_
 omega
theorem sameD_all {l : List Cp} : sameD l = true ↔ ∀ c ∈ l, ∀ c' ∈ l, c.x.dat = c'.x.dat := by
 constructor
 ·intro h c hc c' hc'
  rw [val_of (d := ⟨0, 0, 0, 0⟩) h hc, val_of (d := ⟨0, 0, 0, 0⟩) h hc']
 ·intro h
  rw [sameD_iff]
  intro i hi
  rw [datA_at (List.getElem?_eq_getElem hi), datA_at (List.getElem?_eq_getElem (show 0 < l.length by omega))]
  exact eq4_iff.2 (h _ (List.getElem_mem _) _ (List.getElem_mem _))
theorem lnE_zero {l : List Cp} {d : L4} : lnE l d = 0 ↔ pairsB l = true ∧ sameD l = true ∧ (ownN l < 0 → valL l d = d) := by
 refine ⟨lnE_ok, fun ⟨h1, h2, h3⟩ => ?_⟩
 unfold lnE
 rw [if_neg (by simp [h1]), if_neg (by simp [h2]), if_neg]
 rintro ⟨h4, h5⟩
 rw [h3 h4, eq4_refl] at h5
 cases h5
structure LnOk (h : Nat → Option Wy) (N : Nat) (d : L4) : Prop where
 bs : ∀ i j x y, i < N → j < N → i ≠ j → h i = some x → h j = some y → bsB x.st y.st = true
 dat : ∀ i j x y, i < N → j < N → h i = some x → h j = some y → x.dat = y.dat
 own : (∀ i x, i < N → h i = some x → owB x.st = false) → ∀ i x, i < N → h i = some x → x.dat = d
section
variable {h : Nat → Option Wy} {N : Nat} {d : L4}
theorem ownN_onF : (ownN (onF h N) = -1 ∧ ∀ i x, i < N → h i = some x → owB x.st = false) ∨ ∃ i x, i < N ∧ h i = some x ∧ owB x.st = true ∧ ownN (onF h N) = i := by
 unfold ownN
 cases e : (onF h N).find? (fun c => owB c.x.st) with
 | none =>
  left
  refine ⟨rfl, fun i x hi hx => ?_⟩
  have := List.find?_eq_none.1 e ⟨i, x⟩ (mem_onF.2 ⟨i, x, hi, hx, rfl⟩)
  simpa using this
 | some c =>
  right
  obtain ⟨i, x, hi, hx, rfl⟩ := mem_onF.1 (List.mem_of_find?_eq_some e)
  have := List.find?_some e
  exact ⟨i, x, hi, hx, this, rfl⟩
theorem valL_none (hn : ∀ i, i < N → h i = none) : valL (onF h N) d = d := by
 have : onF h N = [] := by
  rw [List.eq_nil_iff_forall_not_mem]
  intro c hc
  obtain ⟨i, x, hi, hx, _⟩ := mem_onF.1 hc
  rw [hn i hi] at hx
  cases hx
 rw [this]
 rfl
theorem valL_some (hd : ∀ i j x y, i < N → j < N → h i = some x → h j = some y → x.dat = y.dat) {i : Nat} {x : Wy} (hi : i < N) (hx : h i = some x) : valL (onF h N) d = x.dat := by
 have hs : sameD (onF h N) = true := sameD_all.2 fun c hc c' hc' => by
  obtain ⟨i, x, hi, hx, rfl⟩ := mem_onF.1 hc
  obtain ⟨j, y, hj, hy, rfl⟩ := mem_onF.1 hc'
  exact hd i j x y hi hj hx hy
 exact (val_of hs (mem_onF.2 ⟨i, x, hi, hx, rfl⟩)).symm
theorem lnE_iff : lnE (onF h N) d = 0 ↔ LnOk h N d := by
 rw [lnE_zero, pairsB_pw, pairwise_onF, sameD_all]
 constructor
 ·rintro ⟨h1, h2, h3⟩
  have hd : ∀ i j x y, i < N → j < N → h i = some x → h j = some y → x.dat = y.dat := fun i j x y hi hj hx hy => h2 _ (mem_onF.2 ⟨i, x, hi, hx, rfl⟩) _ (mem_onF.2 ⟨j, y, hj, hy, rfl⟩)
  refine ⟨fun i j x y hi hj hij hx hy => ?_, hd, fun hno i x hi hx => ?_⟩
  ·by_cases e : j < i
   ·exact h1 i j x y e hi hx hy
   ·rw [bsB_comm]
    exact h1 j i y x (by omega) hj hy hx
  ·rcases ownN_onF (h := h) (N := N) with ⟨h4, _⟩ | ⟨i', x', h4, h5, h6, _⟩
   ·rw [← h3 (by omega), valL_some hd hi hx]
   ·rw [hno i' x' h4 h5] at h6
    cases h6
 ·rintro ⟨h1, h2, h3⟩
  refine ⟨fun i j x y hj hi hx hy => h1 i j x y hi (by omega) (by omega) hx hy, fun c hc c' hc' => ?_, fun ho => ?_⟩
  ·obtain ⟨i, x, hi, hx, rfl⟩ := mem_onF.1 hc
   obtain ⟨j, y, hj, hy, rfl⟩ := mem_onF.1 hc'
   exact h2 i j x y hi hj hx hy
  ·rcases ownN_onF (h := h) (N := N) with ⟨_, h4⟩ | ⟨i', x', h4, h5, h6, h7⟩
   ·by_cases hn : ∀ i, i < N → h i = none
    ·exact valL_none hn
    ·have hn' : ∃ i, i < N ∧ h i ≠ none := Classical.byContradiction fun hc => hn fun i hi => Classical.byContradiction fun hne => hc ⟨i, hi, hne⟩
     obtain ⟨i, hi, hne⟩ := hn'
     obtain ⟨x, hx⟩ := Option.ne_none_iff_exists'.1 hne
     rw [valL_some h2 hi hx]
     exact h3 h4 i x hi hx
   ·omega
end
theorem cohE_iff {n s y b : Int} {css : List (List St)} {m : List Int} : cohE n s y b css m = 0 ↔
  (cfgB n s y b = true ∧ (css.length : Int) = n ∧ ∀ ss ∈ css, cacheE n s y b ss = 0) ∧ ∀ k, k < 16 → LnOk (fun i => fnd (css.getD i []) k) css.length (l4 m k) := by
 constructor
 ·intro h
  obtain ⟨h1, h2⟩ := cohE_ok h
  have h3 := formE_ok h1
  refine ⟨h3, fun k hk => ?_⟩
  have := h2 k hk
  rw [onL_copN h3.2.2 hk (Nat.le_refl _)] at this
  exact lnE_iff.1 this
 ·rintro ⟨h1, h2⟩
  have h3 : formE n s y b css = 0 := by
   unfold formE
   rw [if_neg (by simp [h1.1]), if_neg (by simp [h1.2.1])]
   have : ∀ l : List (List St), (∀ ss ∈ l, cacheE n s y b ss = 0) → cachesE n s y b l = 0 := by
    intro l
    induction l with
    | nil => intro _; rfl
    | cons a r ih =>
     intro hl
     rw [cachesE, if_neg (by simp [hl a (by simp)])]
     exact ih fun ss hs => hl ss (by simp [hs])
   exact this css h1.2.2
  unfold cohE
  rw [if_neg (by simp [h3]), badL_none]
  intro j hj
  rw [onL_copN h1.2.2 hj (Nat.le_refl _)]
  exact lnE_iff.2 (h2 j hj)
theorem flat_line {n s y b : Int} {css : List (List St)} {m : List Int} (hall : ∀ ss ∈ css, cacheE n s y b ss = 0) {k : Nat} (hk : k < 16) :
  l4 (flatN (copN css css.length) m 16) k = valL (onF (fun i => fnd (css.getD i []) k) css.length) (l4 m k) := by
 rw [flatN_at _ _ 16 (Nat.le_refl _) k hk, onL_copN hall hk (Nat.le_refl _)]
end Go.Proofs.YtcegjehoejgofaaGreat
namespace Go.Proofs.YtcegjehoejgofaaGreat
open Go.ChangeShapes Go.WideShapes Go.ChangeAt Go.RowKit Go.Joins
def doM (l : List Int) (d : Dd) : List Int := if setsB d.kd = true then pokeL l d.ad.toNat d.vl else l
def doV (l : List Int) (d : Dd) : Int := if tellsB d.kd = true then wd l d.ad.toNat else 0
theorem doM_length {l : List Int} (d : Dd) (h : l.length = 64) : (doM l d).length = 64 := by
 unfold doM
 split
 ·rw [pokeL_length, h]
 ·exact h
theorem results_mem3 {fn : Func} {tmps : Array Value} {i j k g : Nat} {l : List Int} {v u : Value} {w : World} (hr : fn.results = #[.cell i 29, .tmp j, .tmp k]) (hi : tmps.getD i undef = .pointer (some ⟨g, 0, none⟩)) (hj : tmps.getD j undef = v) (hk : tmps.getD k undef = u) (hb : Mb w g l) :
  (results fn tmps).run Tryz.prog w = .ok (.tuple #[memV l, v, u]) w := by
 rw [Array.getD_eq_getD_getElem?] at hi hj hk
 simp [results, hr, hi, hj, hk, asAddr, hb.load]
set_option maxHeartbeats 2000000 in
theorem atomicDo_ok (l : List Int) (hl : l.length = 64) (d : Dd) (h : deedE d = 0) (w : World) : Calls Tryz.prog 24 #[memV l, d.val] w fun e w' =>
  e = .returned (.tuple #[memV (doM l d), .int .u64 (doV l d), .int .i64 0]) ∧ Below w.heap.size w w' := by
 have R := Lib.hid fun W => atomicRight_any d W
 rw [h] at R
 obtain ⟨-, -, i, hi, ha⟩ := deedE_ok h
 obtain ⟨n, k, a, v⟩ := d
 simp only at ha
 subst ha
 have W1 := Lib.hid fun W => bankWord_ok l hl i hi W
 have P := Lib.hid fun W => bankPoke_ok l hl i hi v W
 have S := Lib.hid fun W => sets_any k W
 have T := Lib.hid fun W => tells_any k W
 have hp : (pokeL l i v).length = 64 := by rw [pokeL_length, hl]
 have eM : doM l ⟨n, k, i, v⟩ = if setsB k = true then pokeL l i v else l := by simp [doM]
 have eV : doV l ⟨n, k, i, v⟩ = if tellsB k = true then wd l i else 0 := by simp [doV]
 rw [eM, eV]
 generalize wd l i = wi at *
 generalize pokeL l i v = m at *
 clear h hi eM eV
 cases hs : setsB k <;> cases ht : tellsB k
 all_goals
  rw [hs] at S
  rw [ht] at T
  clear hs ht
  have low := Below.refl w.heap.size w
  have xb := boxNext low 29 (memA l)
  replace low := gAlloc low (.cells (memA l) 29)
  try simp only [World.size_alloc] at xb
  have db := boxNext low 49 #[.int .i64 n, .int .i64 k, .int .i64 i, .int .u64 v]
  replace low := gAlloc low (.cells #[.int .i64 n, .int .i64 k, .int .i64 i, .int .u64 v] 49)
  replace xb := xb.alloc (.cells #[.int .i64 n, .int .i64 k, .int .i64 i, .int .u64 v] 49)
  try simp only [World.size_alloc] at db
  have ob := boxNext low 29 (memA zeroL)
  replace low := gAlloc low (.cells (memA zeroL) 29)
  replace xb := xb.alloc (.cells (memA zeroL) 29)
  replace db := db.alloc (.cells (memA zeroL) 29)
  try simp only [World.size_alloc] at ob
  have mb : Mb _ _ l := ⟨xb, hl⟩
  clear xb
  go_enter Tryz.func24, Tryz.ntmps24
  have db_0 := db.at_ 0 rfl
  have db_1 := db.at_ 1 rfl
  have db_2 := db.at_ 2 rfl
  have db_3 := db.at_ 3 rfl
  go_wp2_with (with_reducible refine wp_newMem ?_)
  (with_reducible refine (R.out _).mono ?_); rintro e w1 ⟨rfl, hb⟩
  replace ob := ob.call hb
  replace mb := mb.call hb
  replace db := db.call hb
  replace low := gCall low hb
  clear hb
  clear db_0 db_1 db_2 db_3
  have db_0 := db.at_ 0 rfl
  have db_1 := db.at_ 1 rfl
  have db_2 := db.at_ 2 rfl
  have db_3 := db.at_ 3 rfl
  go_wp2_with ((with_reducible refine wp_loadMem (mb) ?_ ?_ ?_); rfl; rfl)
  (with_reducible refine (W1.out _).mono ?_); rintro e w2 ⟨rfl, hb⟩
  replace ob := ob.call hb
  replace mb := mb.call hb
  replace db := db.call hb
  replace low := gCall low hb
  clear hb
  clear db_0 db_1 db_2 db_3
  have db_0 := db.at_ 0 rfl
  have db_1 := db.at_ 1 rfl
  have db_2 := db.at_ 2 rfl
  have db_3 := db.at_ 3 rfl
  go_wp2_with fail
  (with_reducible refine (S.out _).mono ?_); rintro e w' ⟨rfl, rfl⟩
 ·go_wp2_with fail
  (with_reducible refine (T.out _).mono ?_); rintro e w' ⟨rfl, rfl⟩
  have hl2 := mb.2
  go_wp2_with (first | ((with_reducible refine wp_loadMem (mb) ?_ ?_ ?_); rfl; rfl) | ((with_reducible refine wp_storeMem (⟨ob, zeroL_length⟩) (hl2) ?_ ?_ ?_); rfl; rfl))
  intro w7 m7 st
  replace low := st.low low (by omega)
  clear st ob mb db
  go_wp2_with fail
  refine bodyPost_ret (v := .tuple #[memV (l), .int .u64 (0), .int .i64 0]) (results_mem3 Tryz.results24 rfl rfl rfl m7) rfl ⟨rfl, low⟩
 ·go_wp2_with fail
  (with_reducible refine (T.out _).mono ?_); rintro e w' ⟨rfl, rfl⟩
  have hl2 := mb.2
  go_wp2_with (first | ((with_reducible refine wp_loadMem (mb) ?_ ?_ ?_); rfl; rfl) | ((with_reducible refine wp_storeMem (⟨ob, zeroL_length⟩) (hl2) ?_ ?_ ?_); rfl; rfl))
  intro w7 m7 st
  replace low := st.low low (by omega)
  clear st ob mb db
  go_wp2_with fail
  refine bodyPost_ret (v := .tuple #[memV (l), .int .u64 (wi), .int .i64 0]) (results_mem3 Tryz.results24 rfl rfl rfl m7) rfl ⟨rfl, low⟩
 ·go_wp2_with ((with_reducible refine wp_loadMem (mb) ?_ ?_ ?_); rfl; rfl)
  (with_reducible refine (P.out _).mono ?_); rintro e w3 ⟨rfl, hb⟩
  replace ob := ob.call hb
  replace mb := mb.call hb
  replace db := db.call hb
  replace low := gCall low hb
  clear hb
  clear db_0 db_1 db_2 db_3
  go_wp2_with ((with_reducible refine wp_storeMem (mb) (hp) ?_ ?_ ?_); rfl; rfl)
  intro w4 m4 st
  replace low := st.low low (by omega)
  replace ob := st.box ob (by omega)
  replace db := st.box db (by omega)
  replace mb := m4
  clear st m4
  have db_0 := db.at_ 0 rfl
  have db_1 := db.at_ 1 rfl
  have db_2 := db.at_ 2 rfl
  have db_3 := db.at_ 3 rfl
  go_wp2_with fail
  (with_reducible refine (T.out _).mono ?_); rintro e w' ⟨rfl, rfl⟩
  have hl2 := mb.2
  go_wp2_with (first | ((with_reducible refine wp_loadMem (mb) ?_ ?_ ?_); rfl; rfl) | ((with_reducible refine wp_storeMem (⟨ob, zeroL_length⟩) (hl2) ?_ ?_ ?_); rfl; rfl))
  intro w7 m7 st
  replace low := st.low low (by omega)
  clear st ob mb db
  go_wp2_with fail
  refine bodyPost_ret (v := .tuple #[memV (m), .int .u64 (0), .int .i64 0]) (results_mem3 Tryz.results24 rfl rfl rfl m7) rfl ⟨rfl, low⟩
 ·go_wp2_with ((with_reducible refine wp_loadMem (mb) ?_ ?_ ?_); rfl; rfl)
  (with_reducible refine (P.out _).mono ?_); rintro e w3 ⟨rfl, hb⟩
  replace ob := ob.call hb
  replace mb := mb.call hb
  replace db := db.call hb
  replace low := gCall low hb
  clear hb
  clear db_0 db_1 db_2 db_3
  go_wp2_with ((with_reducible refine wp_storeMem (mb) (hp) ?_ ?_ ?_); rfl; rfl)
  intro w4 m4 st
  replace low := st.low low (by omega)
  replace ob := st.box ob (by omega)
  replace db := st.box db (by omega)
  replace mb := m4
  clear st m4
  have db_0 := db.at_ 0 rfl
  have db_1 := db.at_ 1 rfl
  have db_2 := db.at_ 2 rfl
  have db_3 := db.at_ 3 rfl
  go_wp2_with fail
  (with_reducible refine (T.out _).mono ?_); rintro e w' ⟨rfl, rfl⟩
  have hl2 := mb.2
  go_wp2_with (first | ((with_reducible refine wp_loadMem (mb) ?_ ?_ ?_); rfl; rfl) | ((with_reducible refine wp_storeMem (⟨ob, zeroL_length⟩) (hl2) ?_ ?_ ?_); rfl; rfl))
  intro w7 m7 st
  replace low := st.low low (by omega)
  clear st ob mb db
  go_wp2_with fail
  refine bodyPost_ret (v := .tuple #[memV (m), .int .u64 (wi), .int .i64 0]) (results_mem3 Tryz.results24 rfl rfl rfl m7) rfl ⟨rfl, low⟩
end Go.Proofs.YtcegjehoejgofaaGreat
namespace Go.Proofs.YtcegjehoejgofaaGreat
open Go.ChangeShapes Go.WideShapes Go.ChangeAt Go.RowKit Go.Joins
set_option maxHeartbeats 1000000 in
theorem agreeCheck_any (n s y b : Int) (v : Value) (m : List Int) (css : List (List St)) (w : World) (h : Ks w v css) (hm : m.length = 64) :
  Calls Tryz.prog 44 #[cfg n s y b, wldV v m] w fun e w' => e = .returned (.tuple #[.int .i64 (cohE n s y b css m), .int .i64 (cohL n s y b css m)]) ∧ Below w.heap.size w w' := by
 by_cases he : cohE n s y b css m = 0
 ·have F := Lib.hid fun w hw => coherent_ok n s y b v m css w hw hm he
  have hl : cohL n s y b css m = 0 := by
   obtain ⟨h1, h2⟩ := cohE_ok he
   unfold cohL
   rw [if_neg (by simp [h1]), badL_none h2]
  rw [he, hl]
  clear he hl
  have low := Below.refl w.heap.size w
  have cb := boxNext low 23 (cfgA n s y b)
  replace low := gAlloc low (.cells (cfgA n s y b) 23)
  replace h := h.alloc (.cells (cfgA n s y b) 23)
  try simp only [World.size_alloc] at cb
  have wb := boxNext low 31 (wldA v m)
  replace low := gAlloc low (.cells (wldA v m) 31)
  replace cb := cb.alloc (.cells (wldA v m) 31)
  replace h := h.alloc (.cells (wldA v m) 31)
  try simp only [World.size_alloc] at wb
  have wr := wb.range
  go_enter Tryz.func44, Tryz.ntmps44
  go_wp2_with (first | ((with_reducible refine wp_loadW (tyWorld) (wr) (wld_size hm) ?_ ?_ ?_); rfl; rfl))
  (with_reducible refine (F.out _ h).mono ?_); rintro e w1 ⟨⟨us, rfl, hds⟩, hb⟩
  replace low := gCall low hb
  clear hb cb wb wr
  have u16 := hds.size
  have one := hds.one
  have hb := boxNext low 73 us.toArray
  replace low := gAlloc low (.cells us.toArray 73)
  try simp only [World.size_alloc] at hb
  go_wp2_with (first | (with_reducible refine wp_newW (tyCopies) ?_) | ((with_reducible refine wp_freshW (tyCopies) (rfl) (u16) (one) ?_ ?_ ?_); rfl; rfl))
  go_ret2
  exact ⟨rfl, low⟩
 ·have F := Lib.hid fun w hw => coherent_bad n s y b v m css w hw hm he
  generalize cohE n s y b css m = E at F he ⊢
  generalize cohL n s y b css m = L at F ⊢
  clear he
  have low := Below.refl w.heap.size w
  have cb := boxNext low 23 (cfgA n s y b)
  replace low := gAlloc low (.cells (cfgA n s y b) 23)
  replace h := h.alloc (.cells (cfgA n s y b) 23)
  try simp only [World.size_alloc] at cb
  have wb := boxNext low 31 (wldA v m)
  replace low := gAlloc low (.cells (wldA v m) 31)
  replace cb := cb.alloc (.cells (wldA v m) 31)
  replace h := h.alloc (.cells (wldA v m) 31)
  try simp only [World.size_alloc] at wb
  have wr := wb.range
  go_enter Tryz.func44, Tryz.ntmps44
  go_wp2_with (first | ((with_reducible refine wp_loadW (tyWorld) (wr) (wld_size hm) ?_ ?_ ?_); rfl; rfl))
  (with_reducible refine (F.out _ h).mono ?_); rintro e w1 ⟨rfl, hb⟩
  replace low := gCall low hb
  clear hb cb wb wr
  have hb := boxNext low 73 nil16
  replace low := gAlloc low (.cells nil16 73)
  try simp only [World.size_alloc] at hb
  go_wp2_with (first | (with_reducible refine wp_newW (tyCopies) ?_) | ((with_reducible refine wp_freshW (tyCopies) (rfl) (rfl) (nil16_one) ?_ ?_ ?_); rfl; rfl))
  go_ret2
  exact ⟨rfl, low⟩
def locB (s k : Int) : Bool := if k = 1 then rdB s else if k = 4 then !owB s else wrB s
def keepM (m : List Int) (x : Wy) : List Int := if owB x.st = true then writeL m x.ln.toNat x.a x.b x.c x.d else m
theorem keepM_length {m : List Int} (h : m.length = 64) (x : Wy) : (keepM m x).length = 64 := by
 unfold keepM
 split
 ·rw [writeL_length, h]
 ·exact h
theorem isLocal_any (s k : Int) (w : World) (h1 : 1 ≤ k) (h2 : k ≤ 4) : Calls Tryz.prog 113 #[.int .i64 s, .int .i64 k] w fun e w' => e = .returned (.bool (locB s k)) ∧ w = w' := by
 have R := Lib.hid fun w => reads_any s w
 have W := Lib.hid fun w => writes_any s w
 have O := Lib.hid fun w => owns_any s w
 obtain rfl | rfl | rfl | rfl : k = 1 ∨ k = 2 ∨ k = 3 ∨ k = 4 := by omega
 ·show Calls _ _ _ _ fun e w' => e = .returned (.bool (rdB s)) ∧ w = w'
  go_enter Tryz.func113, Tryz.ntmps113
  go_wp2_with fail
  (with_reducible refine (R.out _).mono ?_); rintro e w' ⟨rfl, rfl⟩
  go_wp2_with fail
  go_ret
  exact ⟨rfl, rfl⟩
 ·show Calls _ _ _ _ fun e w' => e = .returned (.bool (wrB s)) ∧ w = w'
  go_enter Tryz.func113, Tryz.ntmps113
  go_wp2_with fail
  (with_reducible refine (W.out _).mono ?_); rintro e w' ⟨rfl, rfl⟩
  go_wp2_with fail
  go_ret
  exact ⟨rfl, rfl⟩
 ·show Calls _ _ _ _ fun e w' => e = .returned (.bool (wrB s)) ∧ w = w'
  go_enter Tryz.func113, Tryz.ntmps113
  go_wp2_with fail
  (with_reducible refine (W.out _).mono ?_); rintro e w' ⟨rfl, rfl⟩
  go_wp2_with fail
  go_ret
  exact ⟨rfl, rfl⟩
 ·show Calls _ _ _ _ fun e w' => e = .returned (.bool (!owB s)) ∧ w = w'
  generalize owB s = o at O ⊢
  go_enter Tryz.func113, Tryz.ntmps113
  go_wp2_with fail
  (with_reducible refine (O.out _).mono ?_); rintro e w' ⟨rfl, rfl⟩
  go_wp2_with fail
  go_ret
  exact ⟨rfl, rfl⟩
set_option maxHeartbeats 1000000 in
theorem keep_any (m : List Int) (hm : m.length = 64) (x : Wy) (hx : owB x.st = true → 0 ≤ x.ln ∧ x.ln ≤ 15) (w : World) : Calls Tryz.prog 110 #[memV m, x.val] w fun e w' =>
  e = .returned (.tuple #[memV (keepM m x), .int .i64 0]) ∧ Below w.heap.size w w' := by
 have O := Lib.hid fun w => owns_any x.st w
 have hk := keepM_length hm x
 generalize hK : keepM m x = K at *
 unfold keepM at hK
 have low := Below.refl w.heap.size w
 have mb := boxNext low 29 (memA m)
 replace low := gAlloc low (.cells (memA m) 29)
 try simp only [World.size_alloc] at mb
 have xb := boxNext low 114 x.arr
 replace low := gAlloc low (.cells x.arr 114)
 replace mb := mb.alloc (.cells x.arr 114)
 try simp only [World.size_alloc] at xb
 simp only [Wy.arr] at xb
 have ob := boxNext low 29 (memA zeroL)
 replace low := gAlloc low (.cells (memA zeroL) 29)
 replace mb := mb.alloc (.cells (memA zeroL) 29)
 replace xb := xb.alloc (.cells (memA zeroL) 29)
 try simp only [World.size_alloc] at ob
 cases ho : owB x.st
 ·rw [ho] at O hK
  obtain rfl : m = K := by simpa using hK
  clear hx hK ho
  go_enter Tryz.func110, Tryz.ntmps110
  have xb_0 := xb.at_ 0 rfl
  go_wp2_with (with_reducible refine wp_newMem ?_)
  (with_reducible refine (O.out _).mono ?_); rintro e w' ⟨rfl, rfl⟩
  go_wp2_with (first | ((with_reducible refine wp_loadMem (⟨mb, hm⟩) ?_ ?_ ?_); rfl; rfl) | ((with_reducible refine wp_storeMem (⟨ob, zeroL_length⟩) (hm) ?_ ?_ ?_); rfl; rfl))
  intro w3 m3 st
  replace low := st.low low (by omega)
  clear st ob mb
  go_wp2_with fail
  refine bodyPost_ret (v := .tuple #[memV m, .int .i64 0]) (results_mem2 Tryz.results110 rfl rfl m3) rfl ⟨rfl, low⟩
 ·rw [ho] at O hK
  rw [if_pos rfl] at hK
  obtain ⟨h1, h2⟩ := hx ho
  obtain ⟨s0, l0, a0, b0, c0, d0⟩ := x
  simp only at *
  obtain ⟨k, rfl⟩ : ∃ k : Nat, l0 = k := ⟨l0.toNat, by omega⟩
  have hk16 : k < 16 := by omega
  rw [Int.toNat_natCast] at hK
  have W := Lib.hid fun w => bankWrite_ok m hm k hk16 a0 b0 c0 d0 w
  rw [hK] at W
  clear hx hK ho h1 h2
  go_enter Tryz.func110, Tryz.ntmps110
  have xb_0 := xb.at_ 0 rfl
  have xb_1 := xb.at_ 1 rfl
  have xb_2 := xb.at_ 2 rfl
  have xb_3 := xb.at_ 3 rfl
  have xb_4 := xb.at_ 4 rfl
  have xb_5 := xb.at_ 5 rfl
  go_wp2_with (with_reducible refine wp_newMem ?_)
  (with_reducible refine (O.out _).mono ?_); rintro e w' ⟨rfl, rfl⟩
  go_wp2_with ((with_reducible refine wp_loadMem (⟨mb, hm⟩) ?_ ?_ ?_); rfl; rfl)
  (with_reducible refine (W.out _).mono ?_); rintro e w2 ⟨rfl, hb⟩
  clear xb_0 xb_1 xb_2 xb_3 xb_4 xb_5
  replace ob := ob.call hb
  replace low := gCall low hb
  clear hb mb xb
  go_wp2_with ((with_reducible refine wp_storeMem (⟨ob, zeroL_length⟩) (hk) ?_ ?_ ?_); rfl; rfl)
  intro w3 m3 st
  replace low := st.low low (by omega)
  clear st ob
  go_wp2_with fail
  refine bodyPost_ret (v := .tuple #[memV K, .int .i64 0]) (results_mem2 Tryz.results110 rfl rfl m3) rfl ⟨rfl, low⟩
def flatW (css : List (List St)) (m : List Int) : List Int := flatN (copN css css.length) m 16
set_option maxRecDepth 10000 in
set_option maxHeartbeats 2000000 in
theorem plain_ok (n s y b : Int) (v : Value) (m : List Int) (css : List (List St)) (d : Dd) (k : Nat) (w : World) (h : Ks w v css) (hm : m.length = 64) (he : cohE n s y b css m = 0) (hd : deedE d = 0) (hk : k < 16) :
  Calls Tryz.prog 107 #[cfg n s y b, wldV v m, d.val, .int .i64 k] w fun e w' =>
   e = .returned (.tuple #[(l4 (doM (flatW css m) d) k).val, .int .u64 (doV (flatW css m) d), .int .i64 0]) ∧ Below w.heap.size w w' := by
 have F := Lib.hid fun w hw => flat_ok n s y b v m css w hw hm he
 have fl : (flatW css m).length = 64 := flatN_length _ _ _
 unfold flatW at *
 generalize flatN (copN css css.length) m 16 = L at F fl ⊢
 have D := Lib.hid fun w => atomicDo_ok L fl d hd w
 have gl := doM_length d fl
 generalize doM L d = G at D gl ⊢
 generalize doV L d = u at D ⊢
 have R := Lib.hid fun w => bankRead_ok G gl k hk w
 show Calls _ _ _ _ fun e w' => e = .returned (.tuple #[lineAt G k, .int .u64 u, .int .i64 0]) ∧ _
 unfold lineAt at R ⊢
 generalize wd G (k * 4) = q0 at R ⊢
 generalize wd G (k * 4 + 1) = q1 at R ⊢
 generalize wd G (k * 4 + 2) = q2 at R ⊢
 generalize wd G (k * 4 + 3) = q3 at R ⊢
 clear he hd
 obtain ⟨dn, dk, da, dv⟩ := d
 have low := Below.refl w.heap.size w
 have cb := boxNext low 23 (cfgA n s y b)
 replace low := gAlloc low (.cells (cfgA n s y b) 23)
 replace h := h.alloc (.cells (cfgA n s y b) 23)
 try simp only [World.size_alloc] at cb
 have wb := boxNext low 31 (wldA v m)
 replace low := gAlloc low (.cells (wldA v m) 31)
 replace cb := cb.alloc (.cells (wldA v m) 31)
 replace h := h.alloc (.cells (wldA v m) 31)
 try simp only [World.size_alloc] at wb
 have db := boxNext low 49 #[.int .i64 dn, .int .i64 dk, .int .i64 da, .int .u64 dv]
 replace low := gAlloc low (.cells #[.int .i64 dn, .int .i64 dk, .int .i64 da, .int .u64 dv] 49)
 replace cb := cb.alloc (.cells #[.int .i64 dn, .int .i64 dk, .int .i64 da, .int .u64 dv] 49)
 replace wb := wb.alloc (.cells #[.int .i64 dn, .int .i64 dk, .int .i64 da, .int .u64 dv] 49)
 replace h := h.alloc (.cells #[.int .i64 dn, .int .i64 dk, .int .i64 da, .int .u64 dv] 49)
 try simp only [World.size_alloc] at db
 have ob := boxNext low 27 ln0
 replace low := gAlloc low (.cells ln0 27)
 replace cb := cb.alloc (.cells ln0 27)
 replace wb := wb.alloc (.cells ln0 27)
 replace db := db.alloc (.cells ln0 27)
 replace h := h.alloc (.cells ln0 27)
 try simp only [World.size_alloc] at ob
 have wr := wb.range
 go_enter Tryz.func107, Tryz.ntmps107
 go_wp2_with (first | (with_reducible refine wp_newW (tyLine) ?_) | ((with_reducible refine wp_loadW (tyWorld) (wr) (wld_size hm) ?_ ?_ ?_); rfl; rfl))
 (with_reducible refine (F.out _ h).mono ?_); rintro e w1 ⟨rfl, hb⟩
 replace db := db.call hb
 replace ob := ob.call hb
 replace low := gCall low hb
 clear hb cb wb wr h F
 have fb := boxNext low 29 (memA L)
 replace low := gAlloc low (.cells (memA L) 29)
 replace db := db.alloc (.cells (memA L) 29)
 replace ob := ob.alloc (.cells (memA L) 29)
 try simp only [World.size_alloc] at fb
 have db_0 := db.at_ 0 rfl
 have db_1 := db.at_ 1 rfl
 have db_2 := db.at_ 2 rfl
 have db_3 := db.at_ 3 rfl
 go_wp2_with (first | (with_reducible refine wp_newMem ?_) | ((with_reducible refine wp_storeNew (zeroL_length) (fl) ?_ ?_ ?_); rfl; rfl) | ((with_reducible refine wp_loadMem (⟨fb, fl⟩) ?_ ?_ ?_); rfl; rfl))
 (with_reducible refine (D.out _).mono ?_); rintro e w2 ⟨rfl, hb⟩
 clear db_0 db_1 db_2 db_3
 replace ob := ob.call hb
 replace low := gCall low hb
 clear hb db fb D
 have gb := boxNext low 29 (memA G)
 replace low := gAlloc low (.cells (memA G) 29)
 replace ob := ob.alloc (.cells (memA G) 29)
 try simp only [World.size_alloc] at gb
 go_wp2_with (first | (with_reducible refine wp_newMem ?_) | ((with_reducible refine wp_storeNew (zeroL_length) (gl) ?_ ?_ ?_); rfl; rfl) | ((with_reducible refine wp_loadMem (⟨gb, gl⟩) ?_ ?_ ?_); rfl; rfl))
 (with_reducible refine (R.out _).mono ?_); rintro e w3 ⟨rfl, hb⟩
 replace ob := ob.call hb
 replace low := gCall low hb
 clear hb gb R
 have qb := boxNext low 27 #[.int .u64 q0, .int .u64 q1, .int .u64 q2, .int .u64 q3]
 replace low := gAlloc low (.cells #[.int .u64 q0, .int .u64 q1, .int .u64 q2, .int .u64 q3] 27)
 replace ob := ob.alloc (.cells #[.int .u64 q0, .int .u64 q1, .int .u64 q2, .int .u64 q3] 27)
 try simp only [World.size_alloc] at qb
 have qr := qb.range
 have one := lnA_one ⟨q0, q1, q2, q3⟩
 have q4 : (lnA ⟨q0, q1, q2, q3⟩).size = ln0.size := rfl
 go_wp2_with (first | (with_reducible refine wp_newW (tyLine) ?_) | ((with_reducible refine wp_freshW (tyLine) (rfl) (q4) (one) ?_ ?_ ?_); rfl; rfl) | ((with_reducible refine wp_loadW (tyLine) (qr) (q4) ?_ ?_ ?_); rfl; rfl) | ((with_reducible refine wp_storeW (tyLine) (ob) (rfl) (q4) (one) ?_ ?_ ?_); rfl; rfl))
 intro w4 ob4 st
 replace low := st.low low (by omega)
 clear st ob qb qr
 go_wp2_with fail
 exact bodyPost_ret (v := .tuple #[line q0 q1 q2 q3, .int .u64 u, .int .i64 0]) (results_first3 tyLine Tryz.results107 rfl rfl rfl ob4 rfl) rfl ⟨rfl, low⟩
end Go.Proofs.YtcegjehoejgofaaGreat
namespace Go.Proofs.YtcegjehoejgofaaGreat
open Go.ChangeShapes Go.WideShapes Go.ChangeAt Go.RowKit Go.Joins
def stO : Option Wy → Int
 | some x => x.st
 | none => 0
theorem dat_mk (s l : Int) (q : L4) : (⟨s, l, q.a, q.b, q.c, q.d⟩ : Wy).dat = q := rfl
theorem as_dat (x : Wy) (s : Int) : (x.as s).dat = x.dat := rfl
structure OtherIs (n s y b : Int) (ss : List St) (L : Nat) (kd : Int) (sa : List St) : Prop where
 good : cacheE n s y b sa = 0
 here : fnd sa L = (fnd ss L).bind fun x => if otS x.st kd = 0 then none else some (x.as (otS x.st kd))
 rest : ∀ k, k < 16 → k ≠ L → fnd sa k = fnd ss k
 same : (∀ x, fnd ss L = some x → otS x.st kd = x.st) → sa = ss
structure OwnIs (n s y b : Int) (ss : List St) (L : Nat) (kd : Int) (alone : Bool) (q : L4) (sa : List St) (out : Wy) : Prop where
 good : cacheE n s y b sa = 0
 here : fnd sa L = if kd = 4 then none else some ⟨ownS (stO (fnd ss L)) kd alone, L, q.a, q.b, q.c, q.d⟩
 rest : ∀ k, k < 16 → k ≠ L → fnd sa k = if hasW k out = true then none else fnd ss k
 left : out.st ≠ 0 → ∃ k, k < 16 ∧ out.ln = (k : Nat) ∧ fnd ss k = some out
 put : kd = 4 → fnd ss L = some out
 other : kd ≠ 4 → hasW L out = false
 kept : kd ≠ 4 → fnd ss L ≠ none → out = wy0
section
variable {h h' : Nat → Option Wy} {N i0 : Nat} {D D' : L4}
theorem onF_congr : ∀ {N : Nat}, (∀ i, i < N → h' i = h i) → onF h' N = onF h N
 | 0, _ => rfl
 | N + 1, hh => by rw [onF, onF, onF_congr (fun i hi => hh i (by omega)), hh N (by omega)]
theorem line_less (ok : LnOk h N D) {out : Wy} (hi0 : i0 < N) (h0 : h i0 = some out) (hn : h' i0 = none) (hs : ∀ i, i < N → i ≠ i0 → h' i = h i) (hD : D' = if owB out.st = true then out.dat else D) :
  LnOk h' N D' ∧ valL (onF h' N) D' = valL (onF h N) D := by
 have key : ∀ i x, i < N → h' i = some x → i ≠ i0 ∧ h i = some x := fun i x hi hx => by
  by_cases e : i = i0
  ·subst e; rw [hn] at hx; cases hx
  ·exact ⟨e, by rw [← hs i hi e]; exact hx⟩
 have hd : ∀ i j x y, i < N → j < N → h' i = some x → h' j = some y → x.dat = y.dat := fun i j x y hi hj hx hy => ok.dat i j x y hi hj (key i x hi hx).2 (key j y hj hy).2
 have hv : valL (onF h N) D = out.dat := valL_some ok.dat hi0 h0
 have hno : (∀ i x, i < N → h' i = some x → owB x.st = false) → owB out.st = false → out.dat = D := fun hno ho => by
  refine ok.own (fun i x hi hx => ?_) i0 out hi0 h0
  by_cases e : i = i0
  ·subst e; rw [h0] at hx; cases hx; exact ho
  ·exact hno i x hi (by rw [hs i hi e]; exact hx)
 have hown : (∀ i x, i < N → h' i = some x → owB x.st = false) → out.dat = D' := fun k => by
  rw [hD]
  cases ho : owB out.st
  ·rw [if_neg (by decide)]; exact hno k ho
  ·rw [if_pos rfl]
 refine ⟨⟨fun i j x y hi hj hij hx hy => ok.bs i j x y hi hj hij (key i x hi hx).2 (key j y hj hy).2, hd, fun k i x hi hx => ?_⟩, ?_⟩
 ·rw [← hown k]
  exact ok.dat i i0 x out hi hi0 (key i x hi hx).2 h0
 ·rw [hv]
  by_cases hall : ∀ i, i < N → h' i = none
  ·rw [valL_none hall, hown fun i x hi hx => by rw [hall i hi] at hx; cases hx]
  ·have hn' : ∃ i, i < N ∧ h' i ≠ none := Classical.byContradiction fun hc => hall fun i hi => Classical.byContradiction fun hne => hc ⟨i, hi, hne⟩
   obtain ⟨i, hi, hne⟩ := hn'
   obtain ⟨x, hx⟩ := Option.ne_none_iff_exists'.1 hne
   rw [valL_some hd hi hx]
   exact ok.dat i i0 x out hi hi0 (key i x hi hx).2 h0
theorem line_one {x : Wy} (hi0 : i0 < N) (h0 : h' i0 = some x) (hx : x.st = 4) (hs : ∀ i, i < N → i ≠ i0 → h' i = none) : LnOk h' N D ∧ valL (onF h' N) D = x.dat := by
 have key : ∀ i z, i < N → h' i = some z → i = i0 ∧ z = x := fun i z hi hz => by
  by_cases e : i = i0
  ·subst e; rw [h0] at hz; cases hz; exact ⟨rfl, rfl⟩
  ·rw [hs i hi e] at hz; cases hz
 have hd : ∀ i j x y, i < N → j < N → h' i = some x → h' j = some y → x.dat = y.dat := fun i j x y hi hj hx hy => by rw [(key i x hi hx).2, (key j y hj hy).2]
 refine ⟨⟨fun i j x y hi hj hij hx hy => ?_, hd, fun k => ?_⟩, valL_some hd hi0 h0⟩
 ·have := (key i x hi hx).1
  have := (key j y hj hy).1
  omega
 ·have := k i0 x hi0 h0
  rw [hx] at this
  exact absurd this (by decide)
theorem line_load (ok : LnOk h N D) {x : Wy} {al : Bool} (hst : ∀ i z, i < N → h i = some z → 1 ≤ z.st ∧ z.st ≤ 4) (hal : al = true ↔ ∀ i, i < N → i ≠ i0 → h i = none) (hi0 : i0 < N) (h0 : h' i0 = some x) (hx : x.st = loS (stO (h i0)) al) (hv : x.dat = valL (onF h N) D)
  (hs : ∀ i, i < N → i ≠ i0 → h' i = (h i).bind fun z => if saS z.st = 0 then none else some (z.as (saS z.st))) : LnOk h' N D ∧ valL (onF h' N) D = valL (onF h N) D := by
 have sa0 : ∀ z : Wy, 1 ≤ z.st ∧ z.st ≤ 4 → saS z.st ≠ 0 ∧ owB (saS z.st) = owB z.st := fun z hz => by
  obtain e | e | e | e : z.st = 1 ∨ z.st = 2 ∨ z.st = 3 ∨ z.st = 4 := by omega
  all_goals rw [e]; decide
 have key : ∀ i z, i < N → h' i = some z → (i = i0 ∧ z = x) ∨ (i ≠ i0 ∧ ∃ z0, h i = some z0 ∧ z = z0.as (saS z0.st) ∧ 1 ≤ z0.st ∧ z0.st ≤ 4) := fun i z hi hz => by
  by_cases e : i = i0
  ·subst e; rw [h0] at hz; cases hz; exact .inl ⟨rfl, rfl⟩
  ·right
   refine ⟨e, ?_⟩
   rw [hs i hi e] at hz
   cases h1 : h i with
   | none => rw [h1] at hz; cases hz
   | some z0 =>
    rw [h1] at hz
    have h2 := hst i z0 hi h1
    simp only [Option.bind_some, if_neg (sa0 z0 h2).1] at hz
    cases hz
    exact ⟨z0, rfl, rfl, h2⟩
 have hd : ∀ i j z u, i < N → j < N → h' i = some z → h' j = some u → z.dat = u.dat := by
  have one : ∀ i z, i < N → h' i = some z → z.dat = valL (onF h N) D := fun i z hi hz => by
   rcases key i z hi hz with ⟨_, rfl⟩ | ⟨_, z0, k1, rfl, _⟩
   ·exact hv
   ·rw [as_dat]; exact (valL_some ok.dat hi k1).symm
  intro i j z u hi hj hz hu
  rw [one i z hi hz, one j u hj hu]
 have bsx : ∀ i z0, i < N → i ≠ i0 → h i = some z0 → bsB x.st (saS z0.st) = true := fun i z0 hi e k1 => by
  have h2 := hst i z0 hi k1
  rw [hx]
  cases h3 : h i0 with
  | none =>
   have hna : al = false := by
    cases al
    ·rfl
    ·have := hal.1 rfl i hi e
     rw [k1] at this
     cases this
   subst hna
   obtain e | e | e | e : z0.st = 1 ∨ z0.st = 2 ∨ z0.st = 3 ∨ z0.st = 4 := by omega
   all_goals rw [e]; decide
  | some y0 =>
   have h4 := hst i0 y0 hi0 h3
   have h5 := ok.bs i0 i y0 z0 hi0 hi (Ne.symm e) h3 k1
   show bsB (loS y0.st al) (saS z0.st) = true
   have h6 : loS y0.st al = y0.st := by
    unfold loS
    rw [if_pos (show rdB y0.st = true from decide_eq_true h4)]
   rw [h6]
   simp [bsB] at h5
   have h7 : saS z0.st = z0.st := by
    unfold saS
    rw [if_neg (by omega), if_neg (by omega)]
   rw [h7]
   simp [bsB]
   omega
 refine ⟨⟨fun i j z u hi hj hij hz hu => ?_, hd, fun k i z hi hz => ?_⟩, ?_⟩
 ·rcases key i z hi hz with ⟨e1, d1⟩ | ⟨e1, z0, k1, d1, k2⟩ <;> rcases key j u hj hu with ⟨e2, d2⟩ | ⟨e2, u0, k3, d2, k4⟩
  ·omega
  ·rw [d1, d2]
   exact bsx j u0 hj e2 k3
  ·rw [d1, d2, bsB_comm]
   exact bsx i z0 hi e1 k1
  ·have := ok.bs i j z0 u0 hi hj hij k1 k3
   rw [d1, d2]
   show bsB (saS z0.st) (saS u0.st) = true
   simp [bsB] at this
   have h7 : saS z0.st = z0.st := by unfold saS; rw [if_neg (by omega), if_neg (by omega)]
   have h8 : saS u0.st = u0.st := by unfold saS; rw [if_neg (by omega), if_neg (by omega)]
   rw [h7, h8]
   simp [bsB]
   omega
 ·have hno : ∀ i z, i < N → h i = some z → owB z.st = false := fun i z hi hz => by
   by_cases e : i = i0
   ·subst e
    have h4 := hst i z hi hz
    have := k i x hi h0
    rw [hx, hz] at this
    have h6 : loS z.st al = z.st := by
     unfold loS
     rw [if_pos (show rdB z.st = true from decide_eq_true h4)]
    have h7 : owB (loS z.st al) = false := this
    rwa [h6] at h7
   ·have h4 := hst i z hi hz
    have := k i (z.as (saS z.st)) hi (by rw [hs i hi e, hz]; simp only [Option.bind_some, if_neg (sa0 z h4).1])
    rw [← (sa0 z h4).2]
    exact this
  have : valL (onF h N) D = D := by
   have := (lnE_zero.1 (lnE_iff.2 ok)).2.2
   apply this
   rcases ownN_onF (h := h) (N := N) with ⟨h4, _⟩ | ⟨i', x', h4, h5, h6, _⟩
   ·omega
   ·rw [hno i' x' h4 h5] at h6; cases h6
  rw [← this, ← hv]
  exact hd i i0 z x hi hi0 hz h0
 ·rw [valL_some hd hi0 h0, hv]
end
theorem mem_ext {F G : List Int} (hF : F.length = 64) (hG : G.length = 64) (h : ∀ k, k < 16 → l4 F k = l4 G k) : F = G := by
 refine List.ext_getElem (hF.trans hG.symm) fun i hi hi' => ?_
 have h1 := h (i / 4) (by omega)
 simp only [l4, L4.mk.injEq] at h1
 obtain ⟨h2, h3, h4, h5⟩ := h1
 have e : ∀ (l : List Int) (hl : i < l.length), wd l i = l[i] := fun l hl => by simp [wd, List.getD, hl]
 rw [← e F hi, ← e G hi']
 have hm : i % 4 = 0 ∨ i % 4 = 1 ∨ i % 4 = 2 ∨ i % 4 = 3 := by omega
 rcases hm with hm | hm | hm | hm
 ·rwa [show i / 4 * 4 = i by omega] at h2
 ·rwa [show i / 4 * 4 + 1 = i by omega] at h3
 ·rwa [show i / 4 * 4 + 2 = i by omega] at h4
 ·rwa [show i / 4 * 4 + 3 = i by omega] at h5
theorem l4_do {F : List Int} (hF : F.length = 64) {d : Dd} {L r : Nat} (hr : r < 4) (hL : L < 16) (ha : d.ad = ((L * 4 + r : Nat) : Int)) {k : Nat} (hk : k ≠ L ∨ setsB d.kd = false) : l4 (doM F d) k = l4 F k := by
 unfold doM
 by_cases h : setsB d.kd = true
 ·rw [if_pos h]
  have hk' : k ≠ L := by
   rcases hk with hk | hk
   ·exact hk
   ·rw [h] at hk; cases hk
  have e : d.ad.toNat = L * 4 + r := by rw [ha]; exact Int.toNat_natCast _
  unfold l4 pokeL
  rw [e, wd_set _ _ _ _ (by omega), wd_set _ _ _ _ (by omega), wd_set _ _ _ _ (by omega), wd_set _ _ _ _ (by omega), if_neg (by omega), if_neg (by omega), if_neg (by omega), if_neg (by omega)]
 ·rw [if_neg h]
theorem l4_keep {m : List Int} (hm : m.length = 64) {out : Wy} (ho : owB out.st = true → ∃ k : Nat, k < 16 ∧ out.ln = k) (k : Nat) : l4 (keepM m out) k = if owB out.st = true ∧ out.ln = (k : Int) then out.dat else l4 m k := by
 unfold keepM
 by_cases h : owB out.st = true
 ·obtain ⟨q, hq, e⟩ := ho h
  rw [if_pos h]
  have := l4_write m hm q hq ⟨out.a, out.b, out.c, out.d⟩ k
  rw [e, Int.toNat_natCast]
  refine this.trans ?_
  by_cases ek : k = q
  ·rw [if_pos ek, if_pos ⟨h, by omega⟩]; rfl
  ·rw [if_neg ek, if_neg fun c => ek (by omega)]
 ·rw [if_neg h, if_neg fun c => h c.1]
set_option maxHeartbeats 1000000 in
theorem step_ok {n s y b : Int} {css css' : List (List St)} {m : List Int} {d : Dd} {i0 L r : Nat} {al : Bool} {out : Wy} (hm : m.length = 64) (hc : cohE n s y b css m = 0) (hd : deedE d = 0) (hi0 : i0 < css.length) (hr : r < 4) (hL : L < 16) (ha : d.ad = ((L * 4 + r : Nat) : Int))
  (hlen : css'.length = css.length) (hal : al = true ↔ ∀ i, i < css.length → i ≠ i0 → fnd (css.getD i []) L = none)
  (oth : ∀ i, i < css.length → i ≠ i0 → OtherIs n s y b (css.getD i []) L d.kd (css'.getD i [])) (own : OwnIs n s y b (css.getD i0 []) L d.kd al (l4 (doM (flatW css m) d) L) (css'.getD i0 []) out) :
  cohE n s y b css' (keepM m out) = 0 ∧ flatW css' (keepM m out) = doM (flatW css m) d := by
 obtain ⟨⟨g1, g2, g3⟩, g4⟩ := cohE_iff.1 hc
 have hF : (flatW css m).length = 64 := flatN_length _ _ _
 have get : ∀ i, i < css.length → css.getD i [] ∈ css := fun i hi => by
  simp only [List.getD, List.getElem?_eq_getElem hi, Option.getD_some]
  exact List.getElem_mem _
 have all' : ∀ ss ∈ css', cacheE n s y b ss = 0 := fun ss hs => by
  obtain ⟨i, hi, e⟩ := List.getElem_of_mem hs
  have e' : css'.getD i [] = ss := by simp [List.getD, hi, e]
  by_cases ei : i = i0
  ·subst ei; rw [← e']; exact own.good
  ·rw [← e']; exact (oth i (by omega) ei).good
 have hst : ∀ k, k < 16 → ∀ i z, i < css.length → fnd (css.getD i []) k = some z → 1 ≤ z.st ∧ z.st ≤ 4 := fun k hk i z hi hz => (fnd_ok (g3 _ (get i hi)) hk hz).2.2
 have hkd := (deedE_ok hd).2.1
 have ho : owB out.st = true → ∃ k : Nat, k < 16 ∧ out.ln = k := fun h => by
  obtain ⟨k, h1, h2, _⟩ := own.left (fun e => by rw [e] at h; revert h; decide)
  exact ⟨k, h1, h2⟩
 -- line by line
 have main : ∀ k, k < 16 → LnOk (fun i => fnd (css'.getD i []) k) css.length (l4 (keepM m out) k) ∧ valL (onF (fun i => fnd (css'.getD i []) k) css.length) (l4 (keepM m out) k) = l4 (doM (flatW css m) d) k := by
  intro k hk
  have ok := g4 k hk
  have fl : l4 (flatW css m) k = valL (onF (fun i => fnd (css.getD i []) k) css.length) (l4 m k) := flat_line (m := m) g3 hk
  rw [l4_keep hm ho]
  -- a copy leaves
  have less : hasW k out = true → fnd (css.getD i0 []) k = some out → fnd (css'.getD i0 []) k = none → (∀ i, i < css.length → i ≠ i0 → fnd (css'.getD i []) k = fnd (css.getD i []) k) → l4 (doM (flatW css m) d) k = l4 (flatW css m) k →
    LnOk (fun i => fnd (css'.getD i []) k) css.length (if owB out.st = true ∧ out.ln = (k : Int) then out.dat else l4 m k) ∧ valL (onF (fun i => fnd (css'.getD i []) k) css.length) (if owB out.st = true ∧ out.ln = (k : Int) then out.dat else l4 m k) = l4 (doM (flatW css m) d) k := by
   intro k1 k2 k3 k4 k5
   obtain ⟨w1, w2⟩ := hasW_iff.1 k1
   have := line_less (h' := fun i => fnd (css'.getD i []) k) (D' := if owB out.st = true ∧ out.ln = (k : Int) then out.dat else l4 m k) ok hi0 k2 k3 k4 (by
    by_cases h : owB out.st = true
    ·rw [if_pos ⟨h, w2⟩, if_pos h]
    ·rw [if_neg (fun c => h c.1), if_neg h])
   refine ⟨this.1, this.2.trans ?_⟩
   rw [k5]
   exact fl.symm
  by_cases hkL : k = L
  ·subst hkL
   by_cases h4 : d.kd = 4
   ·have hp := own.put h4
    obtain ⟨f1, f2, _⟩ := fnd_ok (g3 _ (get i0 hi0)) hk hp
    refine less (hasW_iff.2 ⟨f1, f2⟩) hp (by rw [own.here, if_pos h4]) (fun i hi hne => ?_) (l4_do hF hr hL ha (.inr (by rw [h4]; decide)))
    rw [(oth i hi hne).here, h4]
    cases e : fnd (css.getD i []) k with
    | none => rfl
    | some z =>
     have hz := hst k hk i z hi e
     have e2 : otS z.st 4 = z.st := by
      obtain e | e | e | e : z.st = 1 ∨ z.st = 2 ∨ z.st = 3 ∨ z.st = 4 := by omega
      all_goals rw [e]; decide
     simp only [Option.bind_some, e2]
     rw [if_neg (by omega)]
   ·have hno := own.other h4
    have hm2 : (if owB out.st = true ∧ out.ln = (k : Int) then out.dat else l4 m k) = l4 m k := by
     refine if_neg fun c => ?_
     have : hasW k out = true := hasW_iff.2 ⟨fun e => by rw [e] at c; exact absurd c.1 (by decide), c.2⟩
     rw [this] at hno
     cases hno
    rw [hm2]
    have h0 := own.here
    rw [if_neg h4] at h0
    by_cases h1 : d.kd = 1
    ·have e5 : l4 (doM (flatW css m) d) k = l4 (flatW css m) k := l4_do hF hr hL ha (.inr (by rw [h1]; decide))
     rw [e5] at h0 ⊢
     have := line_load (h' := fun i => fnd (css'.getD i []) k) ok (hst k hk) hal hi0 h0 (by
      have hst0 : stB (stO (fnd (css.getD i0 []) k)) = true := by
       cases e : fnd (css.getD i0 []) k with
       | none => decide
       | some z => have := hst k hk i0 z hi0 e; exact decide_eq_true (by show 0 ≤ z.st ∧ z.st ≤ 4; omega)
      show ownS _ d.kd al = _
      unfold ownS
      rw [if_pos hst0, if_pos h1]) ((dat_mk _ _ _).trans fl) (fun i hi hne => by
       show fnd (css'.getD i []) k = _
       rw [(oth i hi hne).here, h1]
       cases e : fnd (css.getD i []) k with
       | none => rfl
       | some z =>
        have hz := hst k hk i z hi e
        have e2 : otS z.st 1 = saS z.st := by
         obtain e | e | e | e : z.st = 1 ∨ z.st = 2 ∨ z.st = 3 ∨ z.st = 4 := by omega
         all_goals rw [e]; decide
        simp only [Option.bind_some, e2])
     exact ⟨this.1, this.2.trans fl.symm⟩
    ·have h23 : d.kd = 2 ∨ d.kd = 3 := by omega
     have := line_one (h' := fun i => fnd (css'.getD i []) k) (D := l4 m k) hi0 h0 (by
      have hst0 : stB (stO (fnd (css.getD i0 []) k)) = true := by
       cases e : fnd (css.getD i0 []) k with
       | none => decide
       | some z => have := hst k hk i0 z hi0 e; exact decide_eq_true (by show 0 ≤ z.st ∧ z.st ≤ 4; omega)
      show ownS _ d.kd al = _
      unfold ownS
      rw [if_pos hst0, if_neg h1, if_pos h23]) (fun i hi hne => by
       show fnd (css'.getD i []) k = _
       rw [(oth i hi hne).here]
       cases e : fnd (css.getD i []) k with
       | none => rfl
       | some z =>
        have e2 : otS z.st d.kd = 0 := by
         unfold otS
         rw [if_neg h1, if_neg h4]
         split <;> rfl
        simp only [Option.bind_some, e2]
        rfl)
     exact ⟨this.1, this.2.trans (dat_mk _ _ _)⟩
  ·have e5 : l4 (doM (flatW css m) d) k = l4 (flatW css m) k := l4_do hF hr hL ha (.inl hkL)
   have h0 := own.rest k hk hkL
   have hs : ∀ i, i < css.length → i ≠ i0 → fnd (css'.getD i []) k = fnd (css.getD i []) k := fun i hi hne => (oth i hi hne).rest k hk hkL
   by_cases hw : hasW k out = true
   ·rw [if_pos hw] at h0
    obtain ⟨w1, w2⟩ := hasW_iff.1 hw
    obtain ⟨q, hq, e1, e2⟩ := own.left w1
    obtain rfl : q = k := by omega
    exact less hw e2 h0 hs e5
   ·rw [if_neg hw] at h0
    have hm2 : (if owB out.st = true ∧ out.ln = (k : Int) then out.dat else l4 m k) = l4 m k := by
     refine if_neg fun c => hw (hasW_iff.2 ⟨fun e => by rw [e] at c; exact absurd c.1 (by decide), c.2⟩)
    rw [hm2, e5]
    have e6 : onF (fun i => fnd (css'.getD i []) k) css.length = onF (fun i => fnd (css.getD i []) k) css.length := onF_congr fun i hi => by
     by_cases e : i = i0
     ·subst e; exact h0
     ·exact hs i hi e
    refine ⟨lnE_iff.1 ?_, ?_⟩
    ·rw [e6]; exact lnE_iff.2 ok
    ·rw [e6]; exact fl.symm
 refine ⟨cohE_iff.2 ⟨⟨g1, by rw [hlen]; exact g2, all'⟩, fun k hk => ?_⟩, mem_ext (flatN_length _ _ _) (doM_length d hF) fun k hk => ?_⟩
 ·rw [hlen]; exact (main k hk).1
 ·refine (flat_line all' hk).trans ?_
  rw [hlen]
  exact (main k hk).2
end Go.Proofs.YtcegjehoejgofaaGreat
namespace Go.Proofs.YtcegjehoejgofaaGreat
open Go.ChangeShapes Go.WideShapes Go.ChangeAt Go.RowKit Go.Joins Go.Maps
abbrev bits (a b c : Bool) : Value := .agg #[.bool a, .bool b, .bool c]
end Go.Proofs.YtcegjehoejgofaaGreat
namespace Go.Proofs.YtcegjehoejgofaaGreat
open Go.ChangeShapes Go.WideShapes Go.ChangeAt Go.RowKit Go.Joins Go.Maps
end Go.Proofs.YtcegjehoejgofaaGreat
namespace Go.Proofs.YtcegjehoejgofaaGreat
open Go.ChangeShapes Go.WideShapes Go.ChangeAt Go.RowKit Go.Joins Go.Maps
end Go.Proofs.YtcegjehoejgofaaGreat
namespace Go.Proofs.YtcegjehoejgofaaGreat
open Go.ChangeShapes Go.WideShapes Go.ChangeAt Go.RowKit Go.Joins Go.Maps
end Go.Proofs.YtcegjehoejgofaaGreat
namespace Go.Proofs.YtcegjehoejgofaaGreat
open Go.ChangeShapes Go.WideShapes Go.ChangeAt Go.RowKit Go.Joins
end Go.Proofs.YtcegjehoejgofaaGreat
namespace Go.Proofs.YtcegjehoejgofaaGreat
open Go.ChangeShapes Go.WideShapes Go.ChangeAt Go.RowKit Go.Joins
end Go.Proofs.YtcegjehoejgofaaGreat
namespace Go.Proofs.YtcegjehoejgofaaGreat
open Go.ChangeShapes Go.WideShapes Go.ChangeAt Go.RowKit Go.Joins
abbrev t0 : Bool × Bool × Bool := (false, false, false)
def PutIs (l : List Wy) (a b c : Bool) (n : Int) (x : Wy) (la : List Wy) (t : Bool × Bool × Bool) (y : Wy) (E : Int) : Prop :=
 E = putE l a b c n x ∧ ((E ≠ 0 ∧ la = [] ∧ t = t0 ∧ y = wy0) ∨ (E = 0 ∧ ∃ k : Nat, roomN l a b c n = k ∧ l[k]? = some y ∧ la = l.set k x ∧ t = touchT a b c n k))
def TakeIs (l : List Wy) (a b c : Bool) (n m : Int) (la : List Wy) (t : Bool × Bool × Bool) (y : Wy) (E : Int) : Prop :=
 E = takeE l a b c n m ∧ ((E ≠ 0 ∧ la = [] ∧ t = t0 ∧ y = wy0) ∨ (E = 0 ∧ ∃ k : Nat, idxP (hasW m) l = k ∧ l[k]? = some y ∧ la = l.set k wy0 ∧ t = (a, b, c)))
def SetIs (l : List Wy) (a b c : Bool) (n : Int) (x : Wy) (la : List Wy) (t : Bool × Bool × Bool) (E : Int) : Prop :=
 E = setE l a b c n x ∧ ((E ≠ 0 ∧ la = [] ∧ t = t0) ∨ (E = 0 ∧ ∃ k : Nat, idxP (hasW x.ln) l = k ∧ k < l.length ∧ la = l.set k x ∧ t = touchT a b c n k))
end Go.Proofs.YtcegjehoejgofaaGreat
namespace Go.Proofs.YtcegjehoejgofaaGreat
open Go.ChangeShapes Go.WideShapes Go.ChangeAt Go.RowKit Go.Joins
theorem share {M Φ : Nat → Nat → Option Addr → Nat → World → Prop} {G : Prop} (tree : (∀ ga gb A c w, M ga gb A c w → Φ ga gb A c w) → G) (last : ∀ ga gb A c w, M ga gb A c w → Φ ga gb A c w) : G := tree last
theorem share1 {M Φ : Nat → Option Addr → Nat → World → Prop} {G : Prop} (tree : (∀ ga A c w, M ga A c w → Φ ga A c w) → G) (last : ∀ ga A c w, M ga A c w → Φ ga A c w) : G := tree last
structure Mid (w0 : World) (ta : TypeId) (ca : Array Value) (tb : TypeId) (cb : Array Value) (w : World) (pa pb : Option Nat) (r : Option (Value × List Wy)) : Prop where
 low : Below w0.heap.size w0 w
 fa : ∀ g, pa = some g → w0.heap.size ≤ g ∧ Box w g ta ca
 fb : ∀ g, pb = some g → w0.heap.size ≤ g ∧ Box w g tb cb
 ne : ∀ g g', pa = some g → pb = some g' → g ≠ g'
 fr : ∀ u l, r = some (u, l) → ∃ B C, w0.heap.size ≤ B ∧ C ≤ w.heap.size ∧ Fr w B C u l ∧ ∀ g, pa = some g ∨ pb = some g → g < B ∨ C ≤ g
section
variable {w0 w w' : World} {ta tb : TypeId} {ca cb : Array Value} {pa pb : Option Nat} {r : Option (Value × List Wy)} {u : Value} {l : List Wy}
theorem Mid.start (w : World) (ta : TypeId) (ca : Array Value) (tb : TypeId) (cb : Array Value) : Mid w ta ca tb cb w none none none :=
 ⟨Below.refl _ _, fun _ h => (by cases h), fun _ h => (by cases h), fun _ _ h => (by cases h), fun _ _ h => (by cases h)⟩
theorem Mid.allocA (h : Mid w0 ta ca tb cb w none pb r) : Mid w0 ta ca tb cb (w.alloc (.cells ca ta)) (some w.heap.size) pb r := by
 have hs := h.low.size
 refine ⟨gAlloc h.low _, fun g e => ?_, fun g e => ?_, fun g g' e e' => ?_, fun u l e => ?_⟩
 ·cases e; exact ⟨hs, Box.new w ta ca⟩
 ·obtain ⟨h1, h2⟩ := h.fb g e; exact ⟨h1, h2.alloc _⟩
 ·cases e; have := (h.fb g' e').2.lt; omega
 ·obtain ⟨B, C, h1, h2, h3, h4⟩ := h.fr u l e
  refine ⟨B, C, h1, by simp; omega, h3.alloc _, fun g hg => ?_⟩
  rcases hg with hg | hg
  ·cases hg; exact .inr h2
  ·exact h4 g (.inr hg)
theorem Mid.allocB (h : Mid w0 ta ca tb cb w pa none r) : Mid w0 ta ca tb cb (w.alloc (.cells cb tb)) pa (some w.heap.size) r := by
 have hs := h.low.size
 refine ⟨gAlloc h.low _, fun g e => ?_, fun g e => ?_, fun g g' e e' => ?_, fun u l e => ?_⟩
 ·obtain ⟨h1, h2⟩ := h.fa g e; exact ⟨h1, h2.alloc _⟩
 ·cases e; exact ⟨hs, Box.new w tb cb⟩
 ·cases e'; have := (h.fa g e).2.lt; omega
 ·obtain ⟨B, C, h1, h2, h3, h4⟩ := h.fr u l e
  refine ⟨B, C, h1, by simp; omega, h3.alloc _, fun g hg => ?_⟩
  rcases hg with hg | hg
  ·exact h4 g (.inl hg)
  ·cases hg; exact .inr h2
theorem Mid.call (h : Mid w0 ta ca tb cb w pa pb none) (hb : Below w.heap.size w w') (fr : Fr w' w.heap.size w'.heap.size u l) : Mid w0 ta ca tb cb w' pa pb (some (u, l)) := by
 have hs := h.low.size
 refine ⟨gCall h.low hb, fun g e => ?_, fun g e => ?_, h.ne, fun u' l' e => ?_⟩
 ·obtain ⟨h1, h2⟩ := h.fa g e; exact ⟨h1, h2.call hb⟩
 ·obtain ⟨h1, h2⟩ := h.fb g e; exact ⟨h1, h2.call hb⟩
 ·cases e
  refine ⟨_, _, hs, Nat.le_refl _, fr, fun g hg => .inl ?_⟩
  rcases hg with hg | hg
  ·exact (h.fa g hg).2.lt
  ·exact (h.fb g hg).2.lt
end
def GivesF (F : Nat) (args : Array Value) (w : World) (la : List Wy) (t : Bool × Bool × Bool) (y : Wy) (E : Int) : Prop :=
 Calls Tryz.prog F args w fun e w' => (∃ A cp, e = .returned (.tuple #[rowV (.slice A la.length cp) t.1 t.2.1 t.2.2, y.val, .int .i64 E]) ∧ Fr w' w.heap.size w'.heap.size (.slice A la.length cp) la) ∧ Below w.heap.size w w'
def GivesF2 (F : Nat) (args : Array Value) (w : World) (la : List Wy) (t : Bool × Bool × Bool) (E : Int) : Prop :=
 Calls Tryz.prog F args w fun e w' => (∃ A cp, e = .returned (.tuple #[rowV (.slice A la.length cp) t.1 t.2.1 t.2.2, .int .i64 E]) ∧ Fr w' w.heap.size w'.heap.size (.slice A la.length cp) la) ∧ Below w.heap.size w w'
theorem put_fr (v : Value) (l : List Wy) (a b c : Bool) (n : Int) (x : Wy) : ∃ la t y E, PutIs l a b c n x la t y E ∧ ∀ w, Ws w v l → GivesF 159 #[rowV v a b c, .int .i64 n, x.val] w la t y E := by
 by_cases he : putE l a b c n x = 0
 ·obtain ⟨k, y, hk, hy⟩ := room_in (putE_ok he).1
  refine ⟨l.set k x, touchT a b c n k, y, 0, ⟨he.symm, .inr ⟨rfl, k, hk, hy, rfl, rfl⟩⟩, fun w h => ?_⟩
  refine (rowPut_ok v l a b c n x k y w h he hk hy).mono ?_
  rintro e w' ⟨⟨v', rfl, fr⟩, hb⟩
  obtain ⟨A, cp, rfl⟩ := fr.shape
  exact ⟨⟨A, cp, rfl, fr⟩, hb⟩
 ·refine ⟨[], t0, wy0, _, ⟨rfl, .inl ⟨he, rfl, rfl, rfl⟩⟩, fun w h => ?_⟩
  refine (rowPut_bad v l a b c n x w h he).mono ?_
  rintro e w' ⟨rfl, hb⟩
  exact ⟨⟨none, 0, rfl, Fr.nil _ _ _⟩, hb⟩
theorem take_fr (v : Value) (l : List Wy) (a b c : Bool) (n m : Int) : ∃ la t y E, TakeIs l a b c n m la t y E ∧ ∀ w, Ws w v l → GivesF 156 #[rowV v a b c, .int .i64 n, .int .i64 m] w la t y E := by
 by_cases he : takeE l a b c n m = 0
 ·obtain ⟨h1, h2⟩ := takeE_ok he
  obtain ⟨k, y, hk, hy, _⟩ := idxP_there h2
  refine ⟨l.set k wy0, (a, b, c), y, 0, ⟨he.symm, .inr ⟨rfl, k, hk, hy, rfl, rfl⟩⟩, fun w h => ?_⟩
  refine (rowTake_ok v l a b c n m k y w h h1 hk hy).mono ?_
  rintro e w' ⟨⟨v', rfl, fr⟩, hb⟩
  obtain ⟨A, cp, rfl⟩ := fr.shape
  exact ⟨⟨A, cp, rfl, fr⟩, hb⟩
 ·refine ⟨[], t0, wy0, _, ⟨rfl, .inl ⟨he, rfl, rfl, rfl⟩⟩, fun w h => ?_⟩
  refine (rowTake_bad v l a b c n m w h he).mono ?_
  rintro e w' ⟨rfl, hb⟩
  exact ⟨⟨none, 0, rfl, Fr.nil _ _ _⟩, hb⟩
theorem set_fr (v : Value) (l : List Wy) (a b c : Bool) (n : Int) (x : Wy) : ∃ la t E, SetIs l a b c n x la t E ∧ ∀ w, Ws w v l → GivesF2 160 #[rowV v a b c, .int .i64 n, x.val] w la t E := by
 by_cases he : setE l a b c n x = 0
 ·obtain ⟨h1, h2, h3⟩ := setE_ok he
  obtain ⟨k, y, hk, hy, _⟩ := idxP_there h3
  refine ⟨l.set k x, touchT a b c n k, 0, ⟨he.symm, .inr ⟨rfl, k, hk, set_lt hy, rfl, rfl⟩⟩, fun w h => ?_⟩
  refine (rowSet_ok v l a b c n x k w h h1 h2 hk (set_lt hy)).mono ?_
  rintro e w' ⟨⟨v', rfl, fr⟩, hb⟩
  obtain ⟨A, cp, rfl⟩ := fr.shape
  exact ⟨⟨A, cp, rfl, fr⟩, hb⟩
 ·refine ⟨[], t0, _, ⟨rfl, .inl ⟨he, rfl, rfl⟩⟩, fun w h => ?_⟩
  refine (rowSet_bad v l a b c n x w h he).mono ?_
  rintro e w' ⟨rfl, hb⟩
  exact ⟨⟨none, 0, rfl, Fr.nil _ _ _⟩, hb⟩
end Go.Proofs.YtcegjehoejgofaaGreat
namespace Go.Proofs.YtcegjehoejgofaaGreat
open Go.ChangeShapes Go.WideShapes Go.ChangeAt Go.RowKit Go.Joins
theorem cacheReplace_l (v : Value) (ss : List St) (k : Nat) (A : Option Addr) (c : Nat) (l : List Wy) (p q r : Bool) (w : World) (B : Nat) (h : Cs w v ss) (hk : k < ss.length) (hn : ss.length ≤ 4 ∧ ∀ (q : Nat) t, ss[q]? = some t → 0 < t.l.length ∧ t.l.length ≤ 4)
  (fr : Fr w B w.heap.size (.slice A l.length c) l) (hB : B ≤ w.heap.size) :
  Calls Tryz.prog 157 #[v, .int .i64 k, rowV (.slice A l.length c) p q r] w fun e w' => (∃ A' c', e = .returned (.slice A' ss.length c') ∧ CFr w' B w'.heap.size (.slice A' ss.length c') (ss.set k ⟨l, p, q, r⟩)) ∧ Below w.heap.size w w' := by
 refine (cacheReplace_any v ss k A c ⟨l, p, q, r⟩ w B h hk hn.1 hn.2 fr hB).mono ?_
 rintro e w' ⟨⟨v', rfl, fr⟩, hb⟩
 obtain ⟨A', c', e⟩ := fr.shape
 rw [List.length_set] at e
 subst e
 exact ⟨⟨A', c', rfl, fr⟩, hb⟩
set_option maxRecDepth 10000 in
set_option maxHeartbeats 2000000 in
theorem cachePut_in (n s y b : Int) (v : Value) (ss : List St) (x : Wy) (k : Nat) (t : St) (w : World) (h : Cs w v ss) (he : wayCE n s y b ss x = 0) (hk : x.ln % s = k) (ht : ss[k]? = some t) :
  ∃ la tt z E, PutIs t.l t.a t.b t.c y x la tt z E ∧ Calls Tryz.prog 136 #[cfg n s y b, v, x.val] w fun e w' =>
   ((E ≠ 0 ∧ e = .returned (.tuple #[.slice none 0 0, zeroV, .int .i64 E])) ∨ (E = 0 ∧ ∃ A c, e = .returned (.tuple #[.slice A ss.length c, z.val, .int .i64 0]) ∧ CFr w' w.heap.size w'.heap.size (.slice A ss.length c) (ss.set k ⟨la, tt.1, tt.2.1, tt.2.2⟩))) ∧ Below w.heap.size w w' := by
 obtain ⟨g1, g2⟩ := wayCE_ok he
 have good := goodC_iff.1 g1
 have SM := Lib.hid good.small
 have kl := st_lt ht
 obtain ⟨A, cp, rfl, h1, h2, h3⟩ := h.ex
 obtain ⟨bb, o, rfl, hb, hc⟩ := h3 (by omega)
 obtain ⟨A', c', ra, ws⟩ := hc.at_ k t ht
 obtain ⟨la, tt, z, E, PI, P⟩ := put_fr (.slice A' t.l.length c') t.l t.a t.b t.c y x
 refine ⟨la, tt, z, E, PI, ?_⟩
 unfold GivesF at P
 have CT := Lib.hid P
 have C := Lib.hid fun w hw => setOfWay_ok n s y b (.slice (some ⟨bb, o, none⟩) ss.length cp) ss x w hw he
 rw [hk] at C
 have kc : (k : Int) < ss.length := by omega
 have k0 : (0 : Int) ≤ k := by omega
 clear P PI h1 h2 h3 hc good g1 g2 he hk ht
 have low := Below.refl w.heap.size w
 have cb := boxNext low 23 (cfgA n s y b)
 replace low := gAlloc low (.cells (cfgA n s y b) 23)
 replace h := h.alloc (.cells (cfgA n s y b) 23)
 try simp only [World.size_alloc] at cb
 have xb := boxNext low 114 x.arr
 replace low := gAlloc low (.cells x.arr 114)
 replace h := h.alloc (.cells x.arr 114)
 replace cb := cb.alloc (.cells x.arr 114)
 try simp only [World.size_alloc] at xb
 simp only [Wy.arr] at xb
 have ob := boxNext low 114 zeroA
 replace low := gAlloc low (.cells zeroA 114)
 replace h := h.alloc (.cells zeroA 114)
 replace cb := cb.alloc (.cells zeroA 114)
 replace xb := xb.alloc (.cells zeroA 114)
 try simp only [World.size_alloc] at ob
 simp only [zeroA] at ob
 go_enter Tryz.func136, Tryz.ntmps136
 go_wp2_with fail
 (with_reducible refine (C.out _ h).mono ?_); rintro e w1 ⟨rfl, hb⟩
 replace ob := ob.call hb
 replace cb := cb.call hb
 replace xb := xb.call hb
 replace h := h.call hb
 replace low := gCall low hb
 clear hb
 clear C
 obtain ⟨r0, r1, r2, r3⟩ := rowAt_of ra hb low
 obtain ⟨x0, x1, x2, x3, x4, x5⟩ := xb.wayC
 have q2 := cb.at_ 2 rfl
 replace ws := ws.call low
 have z1 : w.heap.size + 1 + 1 < w1.heap.size := ob.lt
 clear ra
 go_wp2_with fail
 refine wp_region_noPanic ?_
 refine wp_region_held_drew (S := fun w' => w'.cell? ⟨bb, o + k * 4, none⟩ = some (.slice A' t.l.length c') ∧ w'.cell? ⟨bb, o + k * 4 + 1, none⟩ = some (.bool t.a) ∧ w'.cell? ⟨bb, o + k * 4 + 2, none⟩ = some (.bool t.b) ∧ w'.cell? ⟨bb, o + k * 4 + 3, none⟩ = some (.bool t.c) ∧ w'.cell? ⟨w.heap.size, 2, none⟩ = some (.int .i64 y) ∧ w'.cell? ⟨w.heap.size + 1, 0, none⟩ = some (.int .i64 x.st) ∧ w'.cell? ⟨w.heap.size + 1, 1, none⟩ = some (.int .i64 x.ln) ∧ w'.cell? ⟨w.heap.size + 1, 2, none⟩ = some (.int .u64 x.a) ∧ w'.cell? ⟨w.heap.size + 1, 3, none⟩ = some (.int .u64 x.b) ∧ w'.cell? ⟨w.heap.size + 1, 4, none⟩ = some (.int .u64 x.c) ∧ w'.cell? ⟨w.heap.size + 1, 5, none⟩ = some (.int .u64 x.d)) (by kernel_rfl) ⟨drewC r0, drewC r1, drewC r2, drewC r3, drewC q2, drewC x0, drewC x1, drewC x2, drewC x3, drewC x4, drewC x5⟩ (fun hHeld => ?_)
 clear r0 r1 r2 r3 x0 x1 x2 x3 x4 x5 q2 cb xb
 have z1 : w.heap.size + 1 + 1 < w1.drew.heap.size := z1
 replace ws := ws.drew
 replace ob := ob.drew
 replace h := h.drew
 replace low := low.drew
 generalize w1.drew = wN at *
 have WS := Lib.hid ws
 clear ws
 refine takeA 0 ?_ rfl ?_ ?_; rotate_left
 ·(intro w hSw; go_simp; try (with_reducible rfl))
 try simp only [Act.put, List.setIfInBounds_toArray, List.set_cons_zero, List.set_cons_succ]
 refine takeA 1 ?_ rfl ?_ ?_; rotate_left
 ·(intro w hSw; go_simp; try (with_reducible rfl))
 try simp only [Act.put, List.setIfInBounds_toArray, List.set_cons_zero, List.set_cons_succ]
 refine takeA 2 ?_ rfl ?_ ?_; rotate_left
 ·(intro w hSw; go_simp; try (with_reducible rfl))
 try simp only [Act.put, List.setIfInBounds_toArray, List.set_cons_zero, List.set_cons_succ]
 refine takeA 3 ?_ rfl ?_ ?_; rotate_left
 ·(intro w hSw; go_simp; try (with_reducible rfl))
 try simp only [Act.put, List.setIfInBounds_toArray, List.set_cons_zero, List.set_cons_succ]
 refine takeA 4 ?_ rfl ?_ ?_; rotate_left
 ·(intro w hSw; go_simp; try (with_reducible rfl))
 try simp only [Act.put, List.setIfInBounds_toArray, List.set_cons_zero, List.set_cons_succ]
 refine takeA 5 ?_ rfl ?_ ?_; rotate_left
 ·(intro w hSw; go_simp; try (with_reducible rfl))
 try simp only [Act.put, List.setIfInBounds_toArray, List.set_cons_zero, List.set_cons_succ]
 refine takeA 6 ?_ rfl ?_ ?_; rotate_left
 ·(intro w hSw; go_simp; try (with_reducible rfl))
 try simp only [Act.put, List.setIfInBounds_toArray, List.set_cons_zero, List.set_cons_succ]
 apply share (M := fun ga gb A c wz => Mid wN 193 (rowA (.slice none 0 0) false false false) 114 zeroA wz (some ga) (some gb) (some (.slice A la.length c, la)))
 ·intro hE
  have mid := Mid.start wN 193 (rowA (.slice none 0 0) false false false) 114 zeroA
  refine stepThree (i1 := 7) (i2 := 12) (i3 := 13) (by kernel_rfl) rfl rfl rfl (by rfl) (by rfl) (by rfl) (fun K hK => ?_) (fun K hK => ?_) (fun K hK => ?_)
  ·go_simp
   (with_reducible refine (Calls.mono (CT.out _ (WS.out.call mid.low)) ?_)); rintro e wx ⟨⟨Az, cz, rfl, frz⟩, hbz⟩
   replace mid := mid.call hbz frz
   clear hbz frz
   try clear hNow
   have hNow := (And.intro (callC mid.low hHeld.1) (And.intro (callC mid.low hHeld.2.1) (And.intro (callC mid.low hHeld.2.2.1) (And.intro (callC mid.low hHeld.2.2.2.1) (And.intro (callC mid.low hHeld.2.2.2.2.1) (And.intro (callC mid.low hHeld.2.2.2.2.2.1) (And.intro (callC mid.low hHeld.2.2.2.2.2.2.1) (And.intro (callC mid.low hHeld.2.2.2.2.2.2.2.1) (And.intro (callC mid.low hHeld.2.2.2.2.2.2.2.2.1) (And.intro (callC mid.low hHeld.2.2.2.2.2.2.2.2.2.1) (callC mid.low hHeld.2.2.2.2.2.2.2.2.2.2)))))))))))
   refine hK.out _ _ hNow ?_
   clear hK K
   try simp only [Act.put]
   try simp only [List.setIfInBounds_toArray, List.set_cons_zero, List.set_cons_succ]
   refine takeA 8 ?_ rfl ?_ ?_; rotate_left
   ·(intro w hSw; go_simp; try (with_reducible rfl))
   try simp only [Act.put, List.setIfInBounds_toArray, List.set_cons_zero, List.set_cons_succ]
   refine takeA 9 ?_ rfl ?_ ?_; rotate_left
   ·(intro w hSw; go_simp; try (with_reducible rfl))
   try simp only [Act.put, List.setIfInBounds_toArray, List.set_cons_zero, List.set_cons_succ]
   refine takeA 10 ?_ rfl ?_ ?_; rotate_left
   ·(intro w hSw; go_simp; try (with_reducible rfl))
   try simp only [Act.put, List.setIfInBounds_toArray, List.set_cons_zero, List.set_cons_succ]
   refine takeA 11 ?_ rfl ?_ ?_; rotate_left
   ·(intro w hSw; go_simp; try (with_reducible rfl))
   try simp only [Act.put, List.setIfInBounds_toArray, List.set_cons_zero, List.set_cons_succ]
   refine stepTwo (i1 := 12) (i2 := 13) (by kernel_rfl) rfl rfl (by rfl) (by rfl) (fun K hK => ?_) (fun K hK => ?_)
   ·go_simp
    replace mid := mid.allocA
    try clear hNow
    have hNow := (And.intro (callC mid.low hHeld.1) (And.intro (callC mid.low hHeld.2.1) (And.intro (callC mid.low hHeld.2.2.1) (And.intro (callC mid.low hHeld.2.2.2.1) (And.intro (callC mid.low hHeld.2.2.2.2.1) (And.intro (callC mid.low hHeld.2.2.2.2.2.1) (And.intro (callC mid.low hHeld.2.2.2.2.2.2.1) (And.intro (callC mid.low hHeld.2.2.2.2.2.2.2.1) (And.intro (callC mid.low hHeld.2.2.2.2.2.2.2.2.1) (And.intro (callC mid.low hHeld.2.2.2.2.2.2.2.2.2.1) (callC mid.low hHeld.2.2.2.2.2.2.2.2.2.2)))))))))))
    refine hK.out _ _ hNow ?_
    clear hK K
    try simp only [Act.put]
    try simp only [List.setIfInBounds_toArray, List.set_cons_zero, List.set_cons_succ]
    generalize wx.heap.size = ga at mid ⊢
    generalize wx.alloc (.cells (rowA (.slice none 0 0) false false false) 193) = wy at mid ⊢
    refine stepNext (i := 13) (by kernel_rfl) rfl (by rfl) (fun K hK => ?_)
    go_simp
    replace mid := mid.allocB
    try clear hNow
    have hNow := (And.intro (callC mid.low hHeld.1) (And.intro (callC mid.low hHeld.2.1) (And.intro (callC mid.low hHeld.2.2.1) (And.intro (callC mid.low hHeld.2.2.2.1) (And.intro (callC mid.low hHeld.2.2.2.2.1) (And.intro (callC mid.low hHeld.2.2.2.2.2.1) (And.intro (callC mid.low hHeld.2.2.2.2.2.2.1) (And.intro (callC mid.low hHeld.2.2.2.2.2.2.2.1) (And.intro (callC mid.low hHeld.2.2.2.2.2.2.2.2.1) (And.intro (callC mid.low hHeld.2.2.2.2.2.2.2.2.2.1) (callC mid.low hHeld.2.2.2.2.2.2.2.2.2.2)))))))))))
    refine hK.out _ _ hNow ?_
    clear hK K
    try simp only [Act.put]
    try simp only [List.setIfInBounds_toArray, List.set_cons_zero, List.set_cons_succ]
    generalize wy.heap.size = gb at mid ⊢
    generalize wy.alloc (.cells zeroA 114) = wz at mid ⊢
    refine relist (l2 := #[true, true, true, true, true, true, true, true, true, true, true, true, true, true, false, false, false]) (by kernel_rfl) ?_
    exact hE _ _ _ _ _ mid
   ·go_simp
    replace mid := mid.allocB
    try clear hNow
    have hNow := (And.intro (callC mid.low hHeld.1) (And.intro (callC mid.low hHeld.2.1) (And.intro (callC mid.low hHeld.2.2.1) (And.intro (callC mid.low hHeld.2.2.2.1) (And.intro (callC mid.low hHeld.2.2.2.2.1) (And.intro (callC mid.low hHeld.2.2.2.2.2.1) (And.intro (callC mid.low hHeld.2.2.2.2.2.2.1) (And.intro (callC mid.low hHeld.2.2.2.2.2.2.2.1) (And.intro (callC mid.low hHeld.2.2.2.2.2.2.2.2.1) (And.intro (callC mid.low hHeld.2.2.2.2.2.2.2.2.2.1) (callC mid.low hHeld.2.2.2.2.2.2.2.2.2.2)))))))))))
    refine hK.out _ _ hNow ?_
    clear hK K
    try simp only [Act.put]
    try simp only [List.setIfInBounds_toArray, List.set_cons_zero, List.set_cons_succ]
    generalize wx.heap.size = gb at mid ⊢
    generalize wx.alloc (.cells zeroA 114) = wy at mid ⊢
    refine stepNext (i := 12) (by kernel_rfl) rfl (by rfl) (fun K hK => ?_)
    go_simp
    replace mid := mid.allocA
    try clear hNow
    have hNow := (And.intro (callC mid.low hHeld.1) (And.intro (callC mid.low hHeld.2.1) (And.intro (callC mid.low hHeld.2.2.1) (And.intro (callC mid.low hHeld.2.2.2.1) (And.intro (callC mid.low hHeld.2.2.2.2.1) (And.intro (callC mid.low hHeld.2.2.2.2.2.1) (And.intro (callC mid.low hHeld.2.2.2.2.2.2.1) (And.intro (callC mid.low hHeld.2.2.2.2.2.2.2.1) (And.intro (callC mid.low hHeld.2.2.2.2.2.2.2.2.1) (And.intro (callC mid.low hHeld.2.2.2.2.2.2.2.2.2.1) (callC mid.low hHeld.2.2.2.2.2.2.2.2.2.2)))))))))))
    refine hK.out _ _ hNow ?_
    clear hK K
    try simp only [Act.put]
    try simp only [List.setIfInBounds_toArray, List.set_cons_zero, List.set_cons_succ]
    generalize wy.heap.size = ga at mid ⊢
    generalize wy.alloc (.cells (rowA (.slice none 0 0) false false false) 193) = wz at mid ⊢
    refine relist (l2 := #[true, true, true, true, true, true, true, true, true, true, true, true, true, true, false, false, false]) (by kernel_rfl) ?_
    exact hE _ _ _ _ _ mid
  ·go_simp
   replace mid := mid.allocA
   try clear hNow
   have hNow := (And.intro (callC mid.low hHeld.1) (And.intro (callC mid.low hHeld.2.1) (And.intro (callC mid.low hHeld.2.2.1) (And.intro (callC mid.low hHeld.2.2.2.1) (And.intro (callC mid.low hHeld.2.2.2.2.1) (And.intro (callC mid.low hHeld.2.2.2.2.2.1) (And.intro (callC mid.low hHeld.2.2.2.2.2.2.1) (And.intro (callC mid.low hHeld.2.2.2.2.2.2.2.1) (And.intro (callC mid.low hHeld.2.2.2.2.2.2.2.2.1) (And.intro (callC mid.low hHeld.2.2.2.2.2.2.2.2.2.1) (callC mid.low hHeld.2.2.2.2.2.2.2.2.2.2)))))))))))
   refine hK.out _ _ hNow ?_
   clear hK K
   try simp only [Act.put]
   try simp only [List.setIfInBounds_toArray, List.set_cons_zero, List.set_cons_succ]
   generalize wN.heap.size = ga at mid ⊢
   generalize wN.alloc (.cells (rowA (.slice none 0 0) false false false) 193) = wx at mid ⊢
   refine stepTwo (i1 := 7) (i2 := 13) (by kernel_rfl) rfl rfl (by rfl) (by rfl) (fun K hK => ?_) (fun K hK => ?_)
   ·go_simp
    (with_reducible refine (Calls.mono (CT.out _ (WS.out.call mid.low)) ?_)); rintro e wy ⟨⟨Az, cz, rfl, frz⟩, hbz⟩
    replace mid := mid.call hbz frz
    clear hbz frz
    try clear hNow
    have hNow := (And.intro (callC mid.low hHeld.1) (And.intro (callC mid.low hHeld.2.1) (And.intro (callC mid.low hHeld.2.2.1) (And.intro (callC mid.low hHeld.2.2.2.1) (And.intro (callC mid.low hHeld.2.2.2.2.1) (And.intro (callC mid.low hHeld.2.2.2.2.2.1) (And.intro (callC mid.low hHeld.2.2.2.2.2.2.1) (And.intro (callC mid.low hHeld.2.2.2.2.2.2.2.1) (And.intro (callC mid.low hHeld.2.2.2.2.2.2.2.2.1) (And.intro (callC mid.low hHeld.2.2.2.2.2.2.2.2.2.1) (callC mid.low hHeld.2.2.2.2.2.2.2.2.2.2)))))))))))
    refine hK.out _ _ hNow ?_
    clear hK K
    try simp only [Act.put]
    try simp only [List.setIfInBounds_toArray, List.set_cons_zero, List.set_cons_succ]
    refine takeA 8 ?_ rfl ?_ ?_; rotate_left
    ·(intro w hSw; go_simp; try (with_reducible rfl))
    try simp only [Act.put, List.setIfInBounds_toArray, List.set_cons_zero, List.set_cons_succ]
    refine takeA 9 ?_ rfl ?_ ?_; rotate_left
    ·(intro w hSw; go_simp; try (with_reducible rfl))
    try simp only [Act.put, List.setIfInBounds_toArray, List.set_cons_zero, List.set_cons_succ]
    refine takeA 10 ?_ rfl ?_ ?_; rotate_left
    ·(intro w hSw; go_simp; try (with_reducible rfl))
    try simp only [Act.put, List.setIfInBounds_toArray, List.set_cons_zero, List.set_cons_succ]
    refine takeA 11 ?_ rfl ?_ ?_; rotate_left
    ·(intro w hSw; go_simp; try (with_reducible rfl))
    try simp only [Act.put, List.setIfInBounds_toArray, List.set_cons_zero, List.set_cons_succ]
    refine stepNext (i := 13) (by kernel_rfl) rfl (by rfl) (fun K hK => ?_)
    go_simp
    replace mid := mid.allocB
    try clear hNow
    have hNow := (And.intro (callC mid.low hHeld.1) (And.intro (callC mid.low hHeld.2.1) (And.intro (callC mid.low hHeld.2.2.1) (And.intro (callC mid.low hHeld.2.2.2.1) (And.intro (callC mid.low hHeld.2.2.2.2.1) (And.intro (callC mid.low hHeld.2.2.2.2.2.1) (And.intro (callC mid.low hHeld.2.2.2.2.2.2.1) (And.intro (callC mid.low hHeld.2.2.2.2.2.2.2.1) (And.intro (callC mid.low hHeld.2.2.2.2.2.2.2.2.1) (And.intro (callC mid.low hHeld.2.2.2.2.2.2.2.2.2.1) (callC mid.low hHeld.2.2.2.2.2.2.2.2.2.2)))))))))))
    refine hK.out _ _ hNow ?_
    clear hK K
    try simp only [Act.put]
    try simp only [List.setIfInBounds_toArray, List.set_cons_zero, List.set_cons_succ]
    generalize wy.heap.size = gb at mid ⊢
    generalize wy.alloc (.cells zeroA 114) = wz at mid ⊢
    refine relist (l2 := #[true, true, true, true, true, true, true, true, true, true, true, true, true, true, false, false, false]) (by kernel_rfl) ?_
    exact hE _ _ _ _ _ mid
   ·go_simp
    replace mid := mid.allocB
    try clear hNow
    have hNow := (And.intro (callC mid.low hHeld.1) (And.intro (callC mid.low hHeld.2.1) (And.intro (callC mid.low hHeld.2.2.1) (And.intro (callC mid.low hHeld.2.2.2.1) (And.intro (callC mid.low hHeld.2.2.2.2.1) (And.intro (callC mid.low hHeld.2.2.2.2.2.1) (And.intro (callC mid.low hHeld.2.2.2.2.2.2.1) (And.intro (callC mid.low hHeld.2.2.2.2.2.2.2.1) (And.intro (callC mid.low hHeld.2.2.2.2.2.2.2.2.1) (And.intro (callC mid.low hHeld.2.2.2.2.2.2.2.2.2.1) (callC mid.low hHeld.2.2.2.2.2.2.2.2.2.2)))))))))))
    refine hK.out _ _ hNow ?_
    clear hK K
    try simp only [Act.put]
    try simp only [List.setIfInBounds_toArray, List.set_cons_zero, List.set_cons_succ]
    generalize wx.heap.size = gb at mid ⊢
    generalize wx.alloc (.cells zeroA 114) = wy at mid ⊢
    refine stepNext (i := 7) (by kernel_rfl) rfl (by rfl) (fun K hK => ?_)
    go_simp
    (with_reducible refine (Calls.mono (CT.out _ (WS.out.call mid.low)) ?_)); rintro e wz ⟨⟨Az, cz, rfl, frz⟩, hbz⟩
    replace mid := mid.call hbz frz
    clear hbz frz
    try clear hNow
    have hNow := (And.intro (callC mid.low hHeld.1) (And.intro (callC mid.low hHeld.2.1) (And.intro (callC mid.low hHeld.2.2.1) (And.intro (callC mid.low hHeld.2.2.2.1) (And.intro (callC mid.low hHeld.2.2.2.2.1) (And.intro (callC mid.low hHeld.2.2.2.2.2.1) (And.intro (callC mid.low hHeld.2.2.2.2.2.2.1) (And.intro (callC mid.low hHeld.2.2.2.2.2.2.2.1) (And.intro (callC mid.low hHeld.2.2.2.2.2.2.2.2.1) (And.intro (callC mid.low hHeld.2.2.2.2.2.2.2.2.2.1) (callC mid.low hHeld.2.2.2.2.2.2.2.2.2.2)))))))))))
    refine hK.out _ _ hNow ?_
    clear hK K
    try simp only [Act.put]
    try simp only [List.setIfInBounds_toArray, List.set_cons_zero, List.set_cons_succ]
    refine takeA 8 ?_ rfl ?_ ?_; rotate_left
    ·(intro w hSw; go_simp; try (with_reducible rfl))
    try simp only [Act.put, List.setIfInBounds_toArray, List.set_cons_zero, List.set_cons_succ]
    refine takeA 9 ?_ rfl ?_ ?_; rotate_left
    ·(intro w hSw; go_simp; try (with_reducible rfl))
    try simp only [Act.put, List.setIfInBounds_toArray, List.set_cons_zero, List.set_cons_succ]
    refine takeA 10 ?_ rfl ?_ ?_; rotate_left
    ·(intro w hSw; go_simp; try (with_reducible rfl))
    try simp only [Act.put, List.setIfInBounds_toArray, List.set_cons_zero, List.set_cons_succ]
    refine takeA 11 ?_ rfl ?_ ?_; rotate_left
    ·(intro w hSw; go_simp; try (with_reducible rfl))
    try simp only [Act.put, List.setIfInBounds_toArray, List.set_cons_zero, List.set_cons_succ]
    refine relist (l2 := #[true, true, true, true, true, true, true, true, true, true, true, true, true, true, false, false, false]) (by kernel_rfl) ?_
    exact hE _ _ _ _ _ mid
  ·go_simp
   replace mid := mid.allocB
   try clear hNow
   have hNow := (And.intro (callC mid.low hHeld.1) (And.intro (callC mid.low hHeld.2.1) (And.intro (callC mid.low hHeld.2.2.1) (And.intro (callC mid.low hHeld.2.2.2.1) (And.intro (callC mid.low hHeld.2.2.2.2.1) (And.intro (callC mid.low hHeld.2.2.2.2.2.1) (And.intro (callC mid.low hHeld.2.2.2.2.2.2.1) (And.intro (callC mid.low hHeld.2.2.2.2.2.2.2.1) (And.intro (callC mid.low hHeld.2.2.2.2.2.2.2.2.1) (And.intro (callC mid.low hHeld.2.2.2.2.2.2.2.2.2.1) (callC mid.low hHeld.2.2.2.2.2.2.2.2.2.2)))))))))))
   refine hK.out _ _ hNow ?_
   clear hK K
   try simp only [Act.put]
   try simp only [List.setIfInBounds_toArray, List.set_cons_zero, List.set_cons_succ]
   generalize wN.heap.size = gb at mid ⊢
   generalize wN.alloc (.cells zeroA 114) = wx at mid ⊢
   refine stepTwo (i1 := 7) (i2 := 12) (by kernel_rfl) rfl rfl (by rfl) (by rfl) (fun K hK => ?_) (fun K hK => ?_)
   ·go_simp
    (with_reducible refine (Calls.mono (CT.out _ (WS.out.call mid.low)) ?_)); rintro e wy ⟨⟨Az, cz, rfl, frz⟩, hbz⟩
    replace mid := mid.call hbz frz
    clear hbz frz
    try clear hNow
    have hNow := (And.intro (callC mid.low hHeld.1) (And.intro (callC mid.low hHeld.2.1) (And.intro (callC mid.low hHeld.2.2.1) (And.intro (callC mid.low hHeld.2.2.2.1) (And.intro (callC mid.low hHeld.2.2.2.2.1) (And.intro (callC mid.low hHeld.2.2.2.2.2.1) (And.intro (callC mid.low hHeld.2.2.2.2.2.2.1) (And.intro (callC mid.low hHeld.2.2.2.2.2.2.2.1) (And.intro (callC mid.low hHeld.2.2.2.2.2.2.2.2.1) (And.intro (callC mid.low hHeld.2.2.2.2.2.2.2.2.2.1) (callC mid.low hHeld.2.2.2.2.2.2.2.2.2.2)))))))))))
    refine hK.out _ _ hNow ?_
    clear hK K
    try simp only [Act.put]
    try simp only [List.setIfInBounds_toArray, List.set_cons_zero, List.set_cons_succ]
    refine takeA 8 ?_ rfl ?_ ?_; rotate_left
    ·(intro w hSw; go_simp; try (with_reducible rfl))
    try simp only [Act.put, List.setIfInBounds_toArray, List.set_cons_zero, List.set_cons_succ]
    refine takeA 9 ?_ rfl ?_ ?_; rotate_left
    ·(intro w hSw; go_simp; try (with_reducible rfl))
    try simp only [Act.put, List.setIfInBounds_toArray, List.set_cons_zero, List.set_cons_succ]
    refine takeA 10 ?_ rfl ?_ ?_; rotate_left
    ·(intro w hSw; go_simp; try (with_reducible rfl))
    try simp only [Act.put, List.setIfInBounds_toArray, List.set_cons_zero, List.set_cons_succ]
    refine takeA 11 ?_ rfl ?_ ?_; rotate_left
    ·(intro w hSw; go_simp; try (with_reducible rfl))
    try simp only [Act.put, List.setIfInBounds_toArray, List.set_cons_zero, List.set_cons_succ]
    refine stepNext (i := 12) (by kernel_rfl) rfl (by rfl) (fun K hK => ?_)
    go_simp
    replace mid := mid.allocA
    try clear hNow
    have hNow := (And.intro (callC mid.low hHeld.1) (And.intro (callC mid.low hHeld.2.1) (And.intro (callC mid.low hHeld.2.2.1) (And.intro (callC mid.low hHeld.2.2.2.1) (And.intro (callC mid.low hHeld.2.2.2.2.1) (And.intro (callC mid.low hHeld.2.2.2.2.2.1) (And.intro (callC mid.low hHeld.2.2.2.2.2.2.1) (And.intro (callC mid.low hHeld.2.2.2.2.2.2.2.1) (And.intro (callC mid.low hHeld.2.2.2.2.2.2.2.2.1) (And.intro (callC mid.low hHeld.2.2.2.2.2.2.2.2.2.1) (callC mid.low hHeld.2.2.2.2.2.2.2.2.2.2)))))))))))
    refine hK.out _ _ hNow ?_
    clear hK K
    try simp only [Act.put]
    try simp only [List.setIfInBounds_toArray, List.set_cons_zero, List.set_cons_succ]
    generalize wy.heap.size = ga at mid ⊢
    generalize wy.alloc (.cells (rowA (.slice none 0 0) false false false) 193) = wz at mid ⊢
    refine relist (l2 := #[true, true, true, true, true, true, true, true, true, true, true, true, true, true, false, false, false]) (by kernel_rfl) ?_
    exact hE _ _ _ _ _ mid
   ·go_simp
    replace mid := mid.allocA
    try clear hNow
    have hNow := (And.intro (callC mid.low hHeld.1) (And.intro (callC mid.low hHeld.2.1) (And.intro (callC mid.low hHeld.2.2.1) (And.intro (callC mid.low hHeld.2.2.2.1) (And.intro (callC mid.low hHeld.2.2.2.2.1) (And.intro (callC mid.low hHeld.2.2.2.2.2.1) (And.intro (callC mid.low hHeld.2.2.2.2.2.2.1) (And.intro (callC mid.low hHeld.2.2.2.2.2.2.2.1) (And.intro (callC mid.low hHeld.2.2.2.2.2.2.2.2.1) (And.intro (callC mid.low hHeld.2.2.2.2.2.2.2.2.2.1) (callC mid.low hHeld.2.2.2.2.2.2.2.2.2.2)))))))))))
    refine hK.out _ _ hNow ?_
    clear hK K
    try simp only [Act.put]
    try simp only [List.setIfInBounds_toArray, List.set_cons_zero, List.set_cons_succ]
    generalize wx.heap.size = ga at mid ⊢
    generalize wx.alloc (.cells (rowA (.slice none 0 0) false false false) 193) = wy at mid ⊢
    refine stepNext (i := 7) (by kernel_rfl) rfl (by rfl) (fun K hK => ?_)
    go_simp
    (with_reducible refine (Calls.mono (CT.out _ (WS.out.call mid.low)) ?_)); rintro e wz ⟨⟨Az, cz, rfl, frz⟩, hbz⟩
    replace mid := mid.call hbz frz
    clear hbz frz
    try clear hNow
    have hNow := (And.intro (callC mid.low hHeld.1) (And.intro (callC mid.low hHeld.2.1) (And.intro (callC mid.low hHeld.2.2.1) (And.intro (callC mid.low hHeld.2.2.2.1) (And.intro (callC mid.low hHeld.2.2.2.2.1) (And.intro (callC mid.low hHeld.2.2.2.2.2.1) (And.intro (callC mid.low hHeld.2.2.2.2.2.2.1) (And.intro (callC mid.low hHeld.2.2.2.2.2.2.2.1) (And.intro (callC mid.low hHeld.2.2.2.2.2.2.2.2.1) (And.intro (callC mid.low hHeld.2.2.2.2.2.2.2.2.2.1) (callC mid.low hHeld.2.2.2.2.2.2.2.2.2.2)))))))))))
    refine hK.out _ _ hNow ?_
    clear hK K
    try simp only [Act.put]
    try simp only [List.setIfInBounds_toArray, List.set_cons_zero, List.set_cons_succ]
    refine takeA 8 ?_ rfl ?_ ?_; rotate_left
    ·(intro w hSw; go_simp; try (with_reducible rfl))
    try simp only [Act.put, List.setIfInBounds_toArray, List.set_cons_zero, List.set_cons_succ]
    refine takeA 9 ?_ rfl ?_ ?_; rotate_left
    ·(intro w hSw; go_simp; try (with_reducible rfl))
    try simp only [Act.put, List.setIfInBounds_toArray, List.set_cons_zero, List.set_cons_succ]
    refine takeA 10 ?_ rfl ?_ ?_; rotate_left
    ·(intro w hSw; go_simp; try (with_reducible rfl))
    try simp only [Act.put, List.setIfInBounds_toArray, List.set_cons_zero, List.set_cons_succ]
    refine takeA 11 ?_ rfl ?_ ?_; rotate_left
    ·(intro w hSw; go_simp; try (with_reducible rfl))
    try simp only [Act.put, List.setIfInBounds_toArray, List.set_cons_zero, List.set_cons_succ]
    refine relist (l2 := #[true, true, true, true, true, true, true, true, true, true, true, true, true, true, false, false, false]) (by kernel_rfl) ?_
    exact hE _ _ _ _ _ mid
 intro ga gb Az cz w6 mid
 obtain ⟨hga, ab⟩ := mid.fa ga rfl
 obtain ⟨hgb, yb⟩ := mid.fb gb rfl
 have gne := mid.ne ga gb rfl rfl
 obtain ⟨Bz, Cz, hBz, hCz, frz, hfar⟩ := mid.fr _ _ rfl
 have fa1 := hfar ga (.inl rfl)
 have fa2 := hfar gb (.inr rfl)
 have near := mid.low
 clear hfar mid
 obtain ⟨hh0, hh1, hh2, hh3, hh4, hh5, hh6, hh7, hh8, hh9, hh10⟩ := hHeld
 have hHeld := (And.intro (callC near hh0) (And.intro (callC near hh1) (And.intro (callC near hh2) (And.intro (callC near hh3) (And.intro (callC near hh4) (And.intro (callC near hh5) (And.intro (callC near hh6) (And.intro (callC near hh7) (And.intro (callC near hh8) (And.intro (callC near hh9) (callC near hh10)))))))))))
 clear hh0 hh1 hh2 hh3 hh4 hh5 hh6 hh7 hh8 hh9 hh10
 replace ob := ob.call near
 replace low := gCall low near
 refine stepNext (i := 14) (by kernel_rfl) rfl (by rfl) (fun K hK => ?_)
 refine wp_store_box 193 (.tmp 11) (.tmp 33) rfl _ _ rfl rfl ab size_row rfl (by simp [Value.oneCell']) ?_
 intro w7 ab st
 replace yb := st.box yb (by omega)
 replace ob := st.box ob (by omega)
 replace frz := st.fr frz fa1
 replace low := st.low low (by omega)
 replace near := st.low near (by omega)
 have z7 := st.size
 obtain ⟨hh0, hh1, hh2, hh3, hh4, hh5, hh6, hh7, hh8, hh9, hh10⟩ := hHeld
 have hHeld := (And.intro (st.cell (by dsimp only; omega) hh0) (And.intro (st.cell (by dsimp only; omega) hh1) (And.intro (st.cell (by dsimp only; omega) hh2) (And.intro (st.cell (by dsimp only; omega) hh3) (And.intro (st.cell (by dsimp only; omega) hh4) (And.intro (st.cell (by dsimp only; omega) hh5) (And.intro (st.cell (by dsimp only; omega) hh6) (And.intro (st.cell (by dsimp only; omega) hh7) (And.intro (st.cell (by dsimp only; omega) hh8) (And.intro (st.cell (by dsimp only; omega) hh9) (st.cell (by dsimp only; omega) hh10)))))))))))
 clear hh0 hh1 hh2 hh3 hh4 hh5 hh6 hh7 hh8 hh9 hh10
 clear st
 refine hK.out _ _ hHeld ?_
 clear hK K
 try simp only [Act.put]
 try simp only [List.setIfInBounds_toArray, List.set_cons_zero, List.set_cons_succ]
 refine stepNext (i := 15) (by kernel_rfl) rfl (by rfl) (fun K hK => ?_)
 refine wp_store_box 114 (.tmp 12) (.tmp 34) rfl _ _ rfl rfl yb size_way rfl (by simp [Value.oneCell']) ?_
 intro w8 yb st
 replace ab := st.box ab (by omega)
 replace ob := st.box ob (by omega)
 replace frz := st.fr frz fa2
 replace low := st.low low (by omega)
 replace near := st.low near (by omega)
 have z8 := st.size
 obtain ⟨hh0, hh1, hh2, hh3, hh4, hh5, hh6, hh7, hh8, hh9, hh10⟩ := hHeld
 have hHeld := (And.intro (st.cell (by dsimp only; omega) hh0) (And.intro (st.cell (by dsimp only; omega) hh1) (And.intro (st.cell (by dsimp only; omega) hh2) (And.intro (st.cell (by dsimp only; omega) hh3) (And.intro (st.cell (by dsimp only; omega) hh4) (And.intro (st.cell (by dsimp only; omega) hh5) (And.intro (st.cell (by dsimp only; omega) hh6) (And.intro (st.cell (by dsimp only; omega) hh7) (And.intro (st.cell (by dsimp only; omega) hh8) (And.intro (st.cell (by dsimp only; omega) hh9) (st.cell (by dsimp only; omega) hh10)))))))))))
 clear hh0 hh1 hh2 hh3 hh4 hh5 hh6 hh7 hh8 hh9 hh10
 clear st
 refine hK.out _ _ hHeld ?_
 clear hK K
 try simp only [Act.put]
 try simp only [List.setIfInBounds_toArray, List.set_cons_zero, List.set_cons_succ]
 refine stepNext (i := 16) (by kernel_rfl) rfl (by rfl) (fun K hK => ?_)
 go_simp
 refine hK.out _ _ hHeld ?_
 clear hK K
 try simp only [Act.put]
 try simp only [List.setIfInBounds_toArray, List.set_cons_zero, List.set_cons_succ]
 refine wpAnyH_done (by kernel_rfl) ?_ _
 refine NoPanic.normal ?_
 clear hHeld WS CT
 replace h := h.call near
 cases hE : (E != 0)
 rotate_left
 ·have hE' : E ≠ 0 := by simpa using hE
  have ob_0 := ob.at_ 0 rfl
  have ob_1 := ob.at_ 1 rfl
  have ob_2 := ob.at_ 2 rfl
  have ob_3 := ob.at_ 3 rfl
  have ob_4 := ob.at_ 4 rfl
  have ob_5 := ob.at_ 5 rfl
  have ob_f0 := ob.frozen 0
  have ob_f1 := ob.frozen 1
  have ob_f2 := ob.frozen 2
  have ob_f3 := ob.frozen 3
  have ob_f4 := ob.frozen 4
  have ob_f5 := ob.frozen 5
  have z9 : w.heap.size + 1 + 1 < w8.heap.size := ob.lt
  go_wp2_with fail
  refine bodyPost_ret (v := .tuple #[.slice none 0 0, zeroV, .int .i64 E]) (by simp [results, Tryz.results136, go_sem, ob_0, ob_1, ob_2, ob_3, ob_4, ob_5]) rfl ⟨.inl ⟨hE', rfl⟩, ?_⟩
  repeat (refine gSet ?_ (by dsimp only; omega) _)
  exact low
 ·obtain rfl : E = 0 := by simpa using hE
  obtain ⟨a0, a1, a2, a3⟩ := ab.rowC
  obtain ⟨y0, y1, y2, y3, y4, y5⟩ := yb.wayC
  have frB : Fr w8.drew wN.heap.size w8.drew.heap.size (.slice Az la.length cz) la := (frz.more (B' := wN.heap.size) (C' := w8.heap.size) (by omega) (by omega)).call (Below.refl _ _).drew
  have sz8 : wN.heap.size ≤ w8.drew.heap.size := near.size
  clear frz fa1 fa2
  go_wp2_with fail
  refine wp_region_noPanic ?_
  refine wp_region_held_drew (S := fun w' => w'.cell? ⟨ga, 0, none⟩ = some (.slice Az la.length cz) ∧ w'.cell? ⟨ga, 1, none⟩ = some (.bool tt.1) ∧ w'.cell? ⟨ga, 2, none⟩ = some (.bool tt.2.1) ∧ w'.cell? ⟨ga, 3, none⟩ = some (.bool tt.2.2) ∧ w'.cell? ⟨gb, 0, none⟩ = some (.int .i64 z.st) ∧ w'.cell? ⟨gb, 1, none⟩ = some (.int .i64 z.ln) ∧ w'.cell? ⟨gb, 2, none⟩ = some (.int .u64 z.a) ∧ w'.cell? ⟨gb, 3, none⟩ = some (.int .u64 z.b) ∧ w'.cell? ⟨gb, 4, none⟩ = some (.int .u64 z.c) ∧ w'.cell? ⟨gb, 5, none⟩ = some (.int .u64 z.d)) (by kernel_rfl) ⟨drewC a0, drewC a1, drewC a2, drewC a3, drewC y0, drewC y1, drewC y2, drewC y3, drewC y4, drewC y5⟩ (fun hHeld => ?_)
  clear a0 a1 a2 a3 y0 y1 y2 y3 y4 y5 ab yb
  refine takeA 0 ?_ rfl ?_ ?_; rotate_left
  ·(intro w hSw; go_simp; try (with_reducible rfl))
  try simp only [Act.put, List.setIfInBounds_toArray, List.set_cons_zero, List.set_cons_succ]
  refine takeA 1 ?_ rfl ?_ ?_; rotate_left
  ·(intro w hSw; go_simp; try (with_reducible rfl))
  try simp only [Act.put, List.setIfInBounds_toArray, List.set_cons_zero, List.set_cons_succ]
  refine takeA 2 ?_ rfl ?_ ?_; rotate_left
  ·(intro w hSw; go_simp; try (with_reducible rfl))
  try simp only [Act.put, List.setIfInBounds_toArray, List.set_cons_zero, List.set_cons_succ]
  refine takeA 4 ?_ rfl ?_ ?_; rotate_left
  ·(intro w hSw; go_simp; try (with_reducible rfl))
  try simp only [Act.put, List.setIfInBounds_toArray, List.set_cons_zero, List.set_cons_succ]
  refine stepNext (i := 3) (by kernel_rfl) rfl (by rfl) (fun K hK => ?_)
  go_simp
  (with_reducible refine (Calls.mono (cacheReplace_l _ ss k Az cz la _ _ _ _ wN.heap.size h.drew kl SM.out frB sz8) ?_)); rintro e w9 ⟨⟨A2, c2, rfl, cf⟩, hb9⟩
  replace ob := ob.drew.call hb9
  replace low := gCall low.drew hb9
  have z9 : w8.heap.size ≤ w9.heap.size := hb9.size
  obtain ⟨hh0, hh1, hh2, hh3, hh4, hh5, hh6, hh7, hh8, hh9⟩ := hHeld
  have hHeld := (And.intro (callC hb9 hh0) (And.intro (callC hb9 hh1) (And.intro (callC hb9 hh2) (And.intro (callC hb9 hh3) (And.intro (callC hb9 hh4) (And.intro (callC hb9 hh5) (And.intro (callC hb9 hh6) (And.intro (callC hb9 hh7) (And.intro (callC hb9 hh8) (callC hb9 hh9))))))))))
  clear hh0 hh1 hh2 hh3 hh4 hh5 hh6 hh7 hh8 hh9
  clear hb9
  refine hK.out _ _ hHeld ?_
  clear hK K
  try simp only [Act.put]
  try simp only [List.setIfInBounds_toArray, List.set_cons_zero, List.set_cons_succ]
  refine stepNext (i := 5) (by kernel_rfl) rfl (by rfl) (fun K hK => ?_)
  go_simp
  refine hK.out _ _ hHeld ?_
  clear hK K
  try simp only [Act.put]
  try simp only [List.setIfInBounds_toArray, List.set_cons_zero, List.set_cons_succ]
  refine stepNext (i := 6) (by kernel_rfl) rfl (by rfl) (fun K hK => ?_)
  refine wp_store_box 114 (.tmp 7) (.tmp 44) rfl _ _ rfl rfl ob size_way rfl (by simp [Value.oneCell']) ?_
  intro w10 ob st
  replace cf := cf.out st (.inl (by omega))
  replace low := st.low low (by omega)
  have z10 := st.size
  have z11 : w8.heap.size = w8.drew.heap.size := rfl
  obtain ⟨hh0, hh1, hh2, hh3, hh4, hh5, hh6, hh7, hh8, hh9⟩ := hHeld
  have hHeld := (And.intro (st.cell (by dsimp only; omega) hh0) (And.intro (st.cell (by dsimp only; omega) hh1) (And.intro (st.cell (by dsimp only; omega) hh2) (And.intro (st.cell (by dsimp only; omega) hh3) (And.intro (st.cell (by dsimp only; omega) hh4) (And.intro (st.cell (by dsimp only; omega) hh5) (And.intro (st.cell (by dsimp only; omega) hh6) (And.intro (st.cell (by dsimp only; omega) hh7) (And.intro (st.cell (by dsimp only; omega) hh8) (st.cell (by dsimp only; omega) hh9))))))))))
  clear hh0 hh1 hh2 hh3 hh4 hh5 hh6 hh7 hh8 hh9
  clear st
  refine hK.out _ _ hHeld ?_
  clear hK K
  try simp only [Act.put]
  try simp only [List.setIfInBounds_toArray, List.set_cons_zero, List.set_cons_succ]
  refine stepNext (i := 7) (by kernel_rfl) rfl (by rfl) (fun K hK => ?_)
  go_simp
  refine hK.out _ _ hHeld ?_
  clear hK K
  try simp only [Act.put]
  try simp only [List.setIfInBounds_toArray, List.set_cons_zero, List.set_cons_succ]
  refine wpAnyH_done (by kernel_rfl) ?_ _
  refine NoPanic.normal ?_
  clear hHeld
  obtain ⟨q0, q1, q2, q3, q4, q5⟩ := ob.wayC
  have CF := Lib.hid (cf.more (B' := w.heap.size) (C' := w10.heap.size) (by omega) (by omega))
  clear cf
  go_wp2_with fail
  refine bodyPost_ret (v := .tuple #[.slice A2 ss.length c2, z.val, .int .i64 0]) (by simp [results, Tryz.results136, go_sem, q0, q1, q2, q3, q4, q5]) rfl ⟨⟨A2, c2, rfl, CF.out⟩, low⟩
set_option maxRecDepth 10000 in
set_option maxHeartbeats 2000000 in
theorem cacheTake_in (n s y b : Int) (v : Value) (ss : List St) (m : Int) (k : Nat) (t : St) (w : World) (h : Cs w v ss) (he : lineE n s y b ss m = 0) (hk : m % s = k) (ht : ss[k]? = some t) :
  ∃ la tt z E, TakeIs t.l t.a t.b t.c y m la tt z E ∧ Calls Tryz.prog 135 #[cfg n s y b, v, .int .i64 m] w fun e w' =>
   ((E ≠ 0 ∧ e = .returned (.tuple #[.slice none 0 0, zeroV, .int .i64 E])) ∨ (E = 0 ∧ ∃ A c, e = .returned (.tuple #[.slice A ss.length c, z.val, .int .i64 0]) ∧ CFr w' w.heap.size w'.heap.size (.slice A ss.length c) (ss.set k ⟨la, tt.1, tt.2.1, tt.2.2⟩))) ∧ Below w.heap.size w w' := by
 obtain ⟨g1, g2, g3⟩ := lineE_ok he
 have good := goodC_iff.1 g1
 have SM := Lib.hid good.small
 have kl := st_lt ht
 obtain ⟨A, cp, rfl, h1, h2, h3⟩ := h.ex
 obtain ⟨bb, o, rfl, hb, hc⟩ := h3 (by omega)
 obtain ⟨A', c', ra, ws⟩ := hc.at_ k t ht
 obtain ⟨la, tt, z, E, PI, P⟩ := take_fr (.slice A' t.l.length c') t.l t.a t.b t.c y m
 refine ⟨la, tt, z, E, PI, ?_⟩
 unfold GivesF at P
 have CT := Lib.hid P
 have C := Lib.hid fun w hw => setOfLine_ok n s y b (.slice (some ⟨bb, o, none⟩) ss.length cp) ss m w hw he
 rw [hk] at C
 have kc : (k : Int) < ss.length := by omega
 have k0 : (0 : Int) ≤ k := by omega
 clear P PI h1 h2 h3 hc good g1 g2 g3 he hk ht
 have low := Below.refl w.heap.size w
 have cb := boxNext low 23 (cfgA n s y b)
 replace low := gAlloc low (.cells (cfgA n s y b) 23)
 replace h := h.alloc (.cells (cfgA n s y b) 23)
 try simp only [World.size_alloc] at cb
 have ob := boxNext low 114 zeroA
 replace low := gAlloc low (.cells zeroA 114)
 replace h := h.alloc (.cells zeroA 114)
 replace cb := cb.alloc (.cells zeroA 114)
 try simp only [World.size_alloc] at ob
 simp only [zeroA] at ob
 go_enter Tryz.func135, Tryz.ntmps135
 go_wp2_with fail
 (with_reducible refine (C.out _ h).mono ?_); rintro e w1 ⟨rfl, hb⟩
 replace ob := ob.call hb
 replace cb := cb.call hb
 replace h := h.call hb
 replace low := gCall low hb
 clear hb
 clear C
 obtain ⟨r0, r1, r2, r3⟩ := rowAt_of ra hb low
 have q2 := cb.at_ 2 rfl
 replace ws := ws.call low
 have z1 : w.heap.size + 1 < w1.heap.size := ob.lt
 clear ra
 go_wp2_with fail
 refine wp_region_noPanic ?_
 refine wp_region_held_drew (S := fun w' => w'.cell? ⟨bb, o + k * 4, none⟩ = some (.slice A' t.l.length c') ∧ w'.cell? ⟨bb, o + k * 4 + 1, none⟩ = some (.bool t.a) ∧ w'.cell? ⟨bb, o + k * 4 + 2, none⟩ = some (.bool t.b) ∧ w'.cell? ⟨bb, o + k * 4 + 3, none⟩ = some (.bool t.c) ∧ w'.cell? ⟨w.heap.size, 2, none⟩ = some (.int .i64 y)) (by kernel_rfl) ⟨drewC r0, drewC r1, drewC r2, drewC r3, drewC q2⟩ (fun hHeld => ?_)
 clear r0 r1 r2 r3 q2 cb
 have z1 : w.heap.size + 1 < w1.drew.heap.size := z1
 replace ws := ws.drew
 replace ob := ob.drew
 replace h := h.drew
 replace low := low.drew
 generalize w1.drew = wN at *
 have WS := Lib.hid ws
 clear ws
 refine takeA 0 ?_ rfl ?_ ?_; rotate_left
 ·(intro w hSw; go_simp; try (with_reducible rfl))
 try simp only [Act.put, List.setIfInBounds_toArray, List.set_cons_zero, List.set_cons_succ]
 refine takeA 1 ?_ rfl ?_ ?_; rotate_left
 ·(intro w hSw; go_simp; try (with_reducible rfl))
 try simp only [Act.put, List.setIfInBounds_toArray, List.set_cons_zero, List.set_cons_succ]
 refine takeA 2 ?_ rfl ?_ ?_; rotate_left
 ·(intro w hSw; go_simp; try (with_reducible rfl))
 try simp only [Act.put, List.setIfInBounds_toArray, List.set_cons_zero, List.set_cons_succ]
 refine takeA 3 ?_ rfl ?_ ?_; rotate_left
 ·(intro w hSw; go_simp; try (with_reducible rfl))
 try simp only [Act.put, List.setIfInBounds_toArray, List.set_cons_zero, List.set_cons_succ]
 refine takeA 4 ?_ rfl ?_ ?_; rotate_left
 ·(intro w hSw; go_simp; try (with_reducible rfl))
 try simp only [Act.put, List.setIfInBounds_toArray, List.set_cons_zero, List.set_cons_succ]
 refine takeA 5 ?_ rfl ?_ ?_; rotate_left
 ·(intro w hSw; go_simp; try (with_reducible rfl))
 try simp only [Act.put, List.setIfInBounds_toArray, List.set_cons_zero, List.set_cons_succ]
 refine takeA 6 ?_ rfl ?_ ?_; rotate_left
 ·(intro w hSw; go_simp; try (with_reducible rfl))
 try simp only [Act.put, List.setIfInBounds_toArray, List.set_cons_zero, List.set_cons_succ]
 apply share (M := fun ga gb A c wz => Mid wN 193 (rowA (.slice none 0 0) false false false) 114 zeroA wz (some ga) (some gb) (some (.slice A la.length c, la)))
 ·intro hE
  have mid := Mid.start wN 193 (rowA (.slice none 0 0) false false false) 114 zeroA
  refine stepThree (i1 := 7) (i2 := 12) (i3 := 13) (by kernel_rfl) rfl rfl rfl (by rfl) (by rfl) (by rfl) (fun K hK => ?_) (fun K hK => ?_) (fun K hK => ?_)
  ·go_simp
   (with_reducible refine (Calls.mono (CT.out _ (WS.out.call mid.low)) ?_)); rintro e wx ⟨⟨Az, cz, rfl, frz⟩, hbz⟩
   replace mid := mid.call hbz frz
   clear hbz frz
   try clear hNow
   have hNow := (And.intro (callC mid.low hHeld.1) (And.intro (callC mid.low hHeld.2.1) (And.intro (callC mid.low hHeld.2.2.1) (And.intro (callC mid.low hHeld.2.2.2.1) (callC mid.low hHeld.2.2.2.2)))))
   refine hK.out _ _ hNow ?_
   clear hK K
   try simp only [Act.put]
   try simp only [List.setIfInBounds_toArray, List.set_cons_zero, List.set_cons_succ]
   refine takeA 8 ?_ rfl ?_ ?_; rotate_left
   ·(intro w hSw; go_simp; try (with_reducible rfl))
   try simp only [Act.put, List.setIfInBounds_toArray, List.set_cons_zero, List.set_cons_succ]
   refine takeA 9 ?_ rfl ?_ ?_; rotate_left
   ·(intro w hSw; go_simp; try (with_reducible rfl))
   try simp only [Act.put, List.setIfInBounds_toArray, List.set_cons_zero, List.set_cons_succ]
   refine takeA 10 ?_ rfl ?_ ?_; rotate_left
   ·(intro w hSw; go_simp; try (with_reducible rfl))
   try simp only [Act.put, List.setIfInBounds_toArray, List.set_cons_zero, List.set_cons_succ]
   refine takeA 11 ?_ rfl ?_ ?_; rotate_left
   ·(intro w hSw; go_simp; try (with_reducible rfl))
   try simp only [Act.put, List.setIfInBounds_toArray, List.set_cons_zero, List.set_cons_succ]
   refine stepTwo (i1 := 12) (i2 := 13) (by kernel_rfl) rfl rfl (by rfl) (by rfl) (fun K hK => ?_) (fun K hK => ?_)
   ·go_simp
    replace mid := mid.allocA
    try clear hNow
    have hNow := (And.intro (callC mid.low hHeld.1) (And.intro (callC mid.low hHeld.2.1) (And.intro (callC mid.low hHeld.2.2.1) (And.intro (callC mid.low hHeld.2.2.2.1) (callC mid.low hHeld.2.2.2.2)))))
    refine hK.out _ _ hNow ?_
    clear hK K
    try simp only [Act.put]
    try simp only [List.setIfInBounds_toArray, List.set_cons_zero, List.set_cons_succ]
    generalize wx.heap.size = ga at mid ⊢
    generalize wx.alloc (.cells (rowA (.slice none 0 0) false false false) 193) = wy at mid ⊢
    refine stepNext (i := 13) (by kernel_rfl) rfl (by rfl) (fun K hK => ?_)
    go_simp
    replace mid := mid.allocB
    try clear hNow
    have hNow := (And.intro (callC mid.low hHeld.1) (And.intro (callC mid.low hHeld.2.1) (And.intro (callC mid.low hHeld.2.2.1) (And.intro (callC mid.low hHeld.2.2.2.1) (callC mid.low hHeld.2.2.2.2)))))
    refine hK.out _ _ hNow ?_
    clear hK K
    try simp only [Act.put]
    try simp only [List.setIfInBounds_toArray, List.set_cons_zero, List.set_cons_succ]
    generalize wy.heap.size = gb at mid ⊢
    generalize wy.alloc (.cells zeroA 114) = wz at mid ⊢
    refine relist (l2 := #[true, true, true, true, true, true, true, true, true, true, true, true, true, true, false, false, false]) (by kernel_rfl) ?_
    exact hE _ _ _ _ _ mid
   ·go_simp
    replace mid := mid.allocB
    try clear hNow
    have hNow := (And.intro (callC mid.low hHeld.1) (And.intro (callC mid.low hHeld.2.1) (And.intro (callC mid.low hHeld.2.2.1) (And.intro (callC mid.low hHeld.2.2.2.1) (callC mid.low hHeld.2.2.2.2)))))
    refine hK.out _ _ hNow ?_
    clear hK K
    try simp only [Act.put]
    try simp only [List.setIfInBounds_toArray, List.set_cons_zero, List.set_cons_succ]
    generalize wx.heap.size = gb at mid ⊢
    generalize wx.alloc (.cells zeroA 114) = wy at mid ⊢
    refine stepNext (i := 12) (by kernel_rfl) rfl (by rfl) (fun K hK => ?_)
    go_simp
    replace mid := mid.allocA
    try clear hNow
    have hNow := (And.intro (callC mid.low hHeld.1) (And.intro (callC mid.low hHeld.2.1) (And.intro (callC mid.low hHeld.2.2.1) (And.intro (callC mid.low hHeld.2.2.2.1) (callC mid.low hHeld.2.2.2.2)))))
    refine hK.out _ _ hNow ?_
    clear hK K
    try simp only [Act.put]
    try simp only [List.setIfInBounds_toArray, List.set_cons_zero, List.set_cons_succ]
    generalize wy.heap.size = ga at mid ⊢
    generalize wy.alloc (.cells (rowA (.slice none 0 0) false false false) 193) = wz at mid ⊢
    refine relist (l2 := #[true, true, true, true, true, true, true, true, true, true, true, true, true, true, false, false, false]) (by kernel_rfl) ?_
    exact hE _ _ _ _ _ mid
  ·go_simp
   replace mid := mid.allocA
   try clear hNow
   have hNow := (And.intro (callC mid.low hHeld.1) (And.intro (callC mid.low hHeld.2.1) (And.intro (callC mid.low hHeld.2.2.1) (And.intro (callC mid.low hHeld.2.2.2.1) (callC mid.low hHeld.2.2.2.2)))))
   refine hK.out _ _ hNow ?_
   clear hK K
   try simp only [Act.put]
   try simp only [List.setIfInBounds_toArray, List.set_cons_zero, List.set_cons_succ]
   generalize wN.heap.size = ga at mid ⊢
   generalize wN.alloc (.cells (rowA (.slice none 0 0) false false false) 193) = wx at mid ⊢
   refine stepTwo (i1 := 7) (i2 := 13) (by kernel_rfl) rfl rfl (by rfl) (by rfl) (fun K hK => ?_) (fun K hK => ?_)
   ·go_simp
    (with_reducible refine (Calls.mono (CT.out _ (WS.out.call mid.low)) ?_)); rintro e wy ⟨⟨Az, cz, rfl, frz⟩, hbz⟩
    replace mid := mid.call hbz frz
    clear hbz frz
    try clear hNow
    have hNow := (And.intro (callC mid.low hHeld.1) (And.intro (callC mid.low hHeld.2.1) (And.intro (callC mid.low hHeld.2.2.1) (And.intro (callC mid.low hHeld.2.2.2.1) (callC mid.low hHeld.2.2.2.2)))))
    refine hK.out _ _ hNow ?_
    clear hK K
    try simp only [Act.put]
    try simp only [List.setIfInBounds_toArray, List.set_cons_zero, List.set_cons_succ]
    refine takeA 8 ?_ rfl ?_ ?_; rotate_left
    ·(intro w hSw; go_simp; try (with_reducible rfl))
    try simp only [Act.put, List.setIfInBounds_toArray, List.set_cons_zero, List.set_cons_succ]
    refine takeA 9 ?_ rfl ?_ ?_; rotate_left
    ·(intro w hSw; go_simp; try (with_reducible rfl))
    try simp only [Act.put, List.setIfInBounds_toArray, List.set_cons_zero, List.set_cons_succ]
    refine takeA 10 ?_ rfl ?_ ?_; rotate_left
    ·(intro w hSw; go_simp; try (with_reducible rfl))
    try simp only [Act.put, List.setIfInBounds_toArray, List.set_cons_zero, List.set_cons_succ]
    refine takeA 11 ?_ rfl ?_ ?_; rotate_left
    ·(intro w hSw; go_simp; try (with_reducible rfl))
    try simp only [Act.put, List.setIfInBounds_toArray, List.set_cons_zero, List.set_cons_succ]
    refine stepNext (i := 13) (by kernel_rfl) rfl (by rfl) (fun K hK => ?_)
    go_simp
    replace mid := mid.allocB
    try clear hNow
    have hNow := (And.intro (callC mid.low hHeld.1) (And.intro (callC mid.low hHeld.2.1) (And.intro (callC mid.low hHeld.2.2.1) (And.intro (callC mid.low hHeld.2.2.2.1) (callC mid.low hHeld.2.2.2.2)))))
    refine hK.out _ _ hNow ?_
    clear hK K
    try simp only [Act.put]
    try simp only [List.setIfInBounds_toArray, List.set_cons_zero, List.set_cons_succ]
    generalize wy.heap.size = gb at mid ⊢
    generalize wy.alloc (.cells zeroA 114) = wz at mid ⊢
    refine relist (l2 := #[true, true, true, true, true, true, true, true, true, true, true, true, true, true, false, false, false]) (by kernel_rfl) ?_
    exact hE _ _ _ _ _ mid
   ·go_simp
    replace mid := mid.allocB
    try clear hNow
    have hNow := (And.intro (callC mid.low hHeld.1) (And.intro (callC mid.low hHeld.2.1) (And.intro (callC mid.low hHeld.2.2.1) (And.intro (callC mid.low hHeld.2.2.2.1) (callC mid.low hHeld.2.2.2.2)))))
    refine hK.out _ _ hNow ?_
    clear hK K
    try simp only [Act.put]
    try simp only [List.setIfInBounds_toArray, List.set_cons_zero, List.set_cons_succ]
    generalize wx.heap.size = gb at mid ⊢
    generalize wx.alloc (.cells zeroA 114) = wy at mid ⊢
    refine stepNext (i := 7) (by kernel_rfl) rfl (by rfl) (fun K hK => ?_)
    go_simp
    (with_reducible refine (Calls.mono (CT.out _ (WS.out.call mid.low)) ?_)); rintro e wz ⟨⟨Az, cz, rfl, frz⟩, hbz⟩
    replace mid := mid.call hbz frz
    clear hbz frz
    try clear hNow
    have hNow := (And.intro (callC mid.low hHeld.1) (And.intro (callC mid.low hHeld.2.1) (And.intro (callC mid.low hHeld.2.2.1) (And.intro (callC mid.low hHeld.2.2.2.1) (callC mid.low hHeld.2.2.2.2)))))
    refine hK.out _ _ hNow ?_
    clear hK K
    try simp only [Act.put]
    try simp only [List.setIfInBounds_toArray, List.set_cons_zero, List.set_cons_succ]
    refine takeA 8 ?_ rfl ?_ ?_; rotate_left
    ·(intro w hSw; go_simp; try (with_reducible rfl))
    try simp only [Act.put, List.setIfInBounds_toArray, List.set_cons_zero, List.set_cons_succ]
    refine takeA 9 ?_ rfl ?_ ?_; rotate_left
    ·(intro w hSw; go_simp; try (with_reducible rfl))
    try simp only [Act.put, List.setIfInBounds_toArray, List.set_cons_zero, List.set_cons_succ]
    refine takeA 10 ?_ rfl ?_ ?_; rotate_left
    ·(intro w hSw; go_simp; try (with_reducible rfl))
    try simp only [Act.put, List.setIfInBounds_toArray, List.set_cons_zero, List.set_cons_succ]
    refine takeA 11 ?_ rfl ?_ ?_; rotate_left
    ·(intro w hSw; go_simp; try (with_reducible rfl))
    try simp only [Act.put, List.setIfInBounds_toArray, List.set_cons_zero, List.set_cons_succ]
    refine relist (l2 := #[true, true, true, true, true, true, true, true, true, true, true, true, true, true, false, false, false]) (by kernel_rfl) ?_
    exact hE _ _ _ _ _ mid
  ·go_simp
   replace mid := mid.allocB
   try clear hNow
   have hNow := (And.intro (callC mid.low hHeld.1) (And.intro (callC mid.low hHeld.2.1) (And.intro (callC mid.low hHeld.2.2.1) (And.intro (callC mid.low hHeld.2.2.2.1) (callC mid.low hHeld.2.2.2.2)))))
   refine hK.out _ _ hNow ?_
   clear hK K
   try simp only [Act.put]
   try simp only [List.setIfInBounds_toArray, List.set_cons_zero, List.set_cons_succ]
   generalize wN.heap.size = gb at mid ⊢
   generalize wN.alloc (.cells zeroA 114) = wx at mid ⊢
   refine stepTwo (i1 := 7) (i2 := 12) (by kernel_rfl) rfl rfl (by rfl) (by rfl) (fun K hK => ?_) (fun K hK => ?_)
   ·go_simp
    (with_reducible refine (Calls.mono (CT.out _ (WS.out.call mid.low)) ?_)); rintro e wy ⟨⟨Az, cz, rfl, frz⟩, hbz⟩
    replace mid := mid.call hbz frz
    clear hbz frz
    try clear hNow
    have hNow := (And.intro (callC mid.low hHeld.1) (And.intro (callC mid.low hHeld.2.1) (And.intro (callC mid.low hHeld.2.2.1) (And.intro (callC mid.low hHeld.2.2.2.1) (callC mid.low hHeld.2.2.2.2)))))
    refine hK.out _ _ hNow ?_
    clear hK K
    try simp only [Act.put]
    try simp only [List.setIfInBounds_toArray, List.set_cons_zero, List.set_cons_succ]
    refine takeA 8 ?_ rfl ?_ ?_; rotate_left
    ·(intro w hSw; go_simp; try (with_reducible rfl))
    try simp only [Act.put, List.setIfInBounds_toArray, List.set_cons_zero, List.set_cons_succ]
    refine takeA 9 ?_ rfl ?_ ?_; rotate_left
    ·(intro w hSw; go_simp; try (with_reducible rfl))
    try simp only [Act.put, List.setIfInBounds_toArray, List.set_cons_zero, List.set_cons_succ]
    refine takeA 10 ?_ rfl ?_ ?_; rotate_left
    ·(intro w hSw; go_simp; try (with_reducible rfl))
    try simp only [Act.put, List.setIfInBounds_toArray, List.set_cons_zero, List.set_cons_succ]
    refine takeA 11 ?_ rfl ?_ ?_; rotate_left
    ·(intro w hSw; go_simp; try (with_reducible rfl))
    try simp only [Act.put, List.setIfInBounds_toArray, List.set_cons_zero, List.set_cons_succ]
    refine stepNext (i := 12) (by kernel_rfl) rfl (by rfl) (fun K hK => ?_)
    go_simp
    replace mid := mid.allocA
    try clear hNow
    have hNow := (And.intro (callC mid.low hHeld.1) (And.intro (callC mid.low hHeld.2.1) (And.intro (callC mid.low hHeld.2.2.1) (And.intro (callC mid.low hHeld.2.2.2.1) (callC mid.low hHeld.2.2.2.2)))))
    refine hK.out _ _ hNow ?_
    clear hK K
    try simp only [Act.put]
    try simp only [List.setIfInBounds_toArray, List.set_cons_zero, List.set_cons_succ]
    generalize wy.heap.size = ga at mid ⊢
    generalize wy.alloc (.cells (rowA (.slice none 0 0) false false false) 193) = wz at mid ⊢
    refine relist (l2 := #[true, true, true, true, true, true, true, true, true, true, true, true, true, true, false, false, false]) (by kernel_rfl) ?_
    exact hE _ _ _ _ _ mid
   ·go_simp
    replace mid := mid.allocA
    try clear hNow
    have hNow := (And.intro (callC mid.low hHeld.1) (And.intro (callC mid.low hHeld.2.1) (And.intro (callC mid.low hHeld.2.2.1) (And.intro (callC mid.low hHeld.2.2.2.1) (callC mid.low hHeld.2.2.2.2)))))
    refine hK.out _ _ hNow ?_
    clear hK K
    try simp only [Act.put]
    try simp only [List.setIfInBounds_toArray, List.set_cons_zero, List.set_cons_succ]
    generalize wx.heap.size = ga at mid ⊢
    generalize wx.alloc (.cells (rowA (.slice none 0 0) false false false) 193) = wy at mid ⊢
    refine stepNext (i := 7) (by kernel_rfl) rfl (by rfl) (fun K hK => ?_)
    go_simp
    (with_reducible refine (Calls.mono (CT.out _ (WS.out.call mid.low)) ?_)); rintro e wz ⟨⟨Az, cz, rfl, frz⟩, hbz⟩
    replace mid := mid.call hbz frz
    clear hbz frz
    try clear hNow
    have hNow := (And.intro (callC mid.low hHeld.1) (And.intro (callC mid.low hHeld.2.1) (And.intro (callC mid.low hHeld.2.2.1) (And.intro (callC mid.low hHeld.2.2.2.1) (callC mid.low hHeld.2.2.2.2)))))
    refine hK.out _ _ hNow ?_
    clear hK K
    try simp only [Act.put]
    try simp only [List.setIfInBounds_toArray, List.set_cons_zero, List.set_cons_succ]
    refine takeA 8 ?_ rfl ?_ ?_; rotate_left
    ·(intro w hSw; go_simp; try (with_reducible rfl))
    try simp only [Act.put, List.setIfInBounds_toArray, List.set_cons_zero, List.set_cons_succ]
    refine takeA 9 ?_ rfl ?_ ?_; rotate_left
    ·(intro w hSw; go_simp; try (with_reducible rfl))
    try simp only [Act.put, List.setIfInBounds_toArray, List.set_cons_zero, List.set_cons_succ]
    refine takeA 10 ?_ rfl ?_ ?_; rotate_left
    ·(intro w hSw; go_simp; try (with_reducible rfl))
    try simp only [Act.put, List.setIfInBounds_toArray, List.set_cons_zero, List.set_cons_succ]
    refine takeA 11 ?_ rfl ?_ ?_; rotate_left
    ·(intro w hSw; go_simp; try (with_reducible rfl))
    try simp only [Act.put, List.setIfInBounds_toArray, List.set_cons_zero, List.set_cons_succ]
    refine relist (l2 := #[true, true, true, true, true, true, true, true, true, true, true, true, true, true, false, false, false]) (by kernel_rfl) ?_
    exact hE _ _ _ _ _ mid
 intro ga gb Az cz w6 mid
 obtain ⟨hga, ab⟩ := mid.fa ga rfl
 obtain ⟨hgb, yb⟩ := mid.fb gb rfl
 have gne := mid.ne ga gb rfl rfl
 obtain ⟨Bz, Cz, hBz, hCz, frz, hfar⟩ := mid.fr _ _ rfl
 have fa1 := hfar ga (.inl rfl)
 have fa2 := hfar gb (.inr rfl)
 have near := mid.low
 clear hfar mid
 obtain ⟨hh0, hh1, hh2, hh3, hh4⟩ := hHeld
 have hHeld := (And.intro (callC near hh0) (And.intro (callC near hh1) (And.intro (callC near hh2) (And.intro (callC near hh3) (callC near hh4)))))
 clear hh0 hh1 hh2 hh3 hh4
 replace ob := ob.call near
 replace low := gCall low near
 refine stepNext (i := 14) (by kernel_rfl) rfl (by rfl) (fun K hK => ?_)
 refine wp_store_box 193 (.tmp 11) (.tmp 33) rfl _ _ rfl rfl ab size_row rfl (by simp [Value.oneCell']) ?_
 intro w7 ab st
 replace yb := st.box yb (by omega)
 replace ob := st.box ob (by omega)
 replace frz := st.fr frz fa1
 replace low := st.low low (by omega)
 replace near := st.low near (by omega)
 have z7 := st.size
 obtain ⟨hh0, hh1, hh2, hh3, hh4⟩ := hHeld
 have hHeld := (And.intro (st.cell (by dsimp only; omega) hh0) (And.intro (st.cell (by dsimp only; omega) hh1) (And.intro (st.cell (by dsimp only; omega) hh2) (And.intro (st.cell (by dsimp only; omega) hh3) (st.cell (by dsimp only; omega) hh4)))))
 clear hh0 hh1 hh2 hh3 hh4
 clear st
 refine hK.out _ _ hHeld ?_
 clear hK K
 try simp only [Act.put]
 try simp only [List.setIfInBounds_toArray, List.set_cons_zero, List.set_cons_succ]
 refine stepNext (i := 15) (by kernel_rfl) rfl (by rfl) (fun K hK => ?_)
 refine wp_store_box 114 (.tmp 12) (.tmp 34) rfl _ _ rfl rfl yb size_way rfl (by simp [Value.oneCell']) ?_
 intro w8 yb st
 replace ab := st.box ab (by omega)
 replace ob := st.box ob (by omega)
 replace frz := st.fr frz fa2
 replace low := st.low low (by omega)
 replace near := st.low near (by omega)
 have z8 := st.size
 obtain ⟨hh0, hh1, hh2, hh3, hh4⟩ := hHeld
 have hHeld := (And.intro (st.cell (by dsimp only; omega) hh0) (And.intro (st.cell (by dsimp only; omega) hh1) (And.intro (st.cell (by dsimp only; omega) hh2) (And.intro (st.cell (by dsimp only; omega) hh3) (st.cell (by dsimp only; omega) hh4)))))
 clear hh0 hh1 hh2 hh3 hh4
 clear st
 refine hK.out _ _ hHeld ?_
 clear hK K
 try simp only [Act.put]
 try simp only [List.setIfInBounds_toArray, List.set_cons_zero, List.set_cons_succ]
 refine stepNext (i := 16) (by kernel_rfl) rfl (by rfl) (fun K hK => ?_)
 go_simp
 refine hK.out _ _ hHeld ?_
 clear hK K
 try simp only [Act.put]
 try simp only [List.setIfInBounds_toArray, List.set_cons_zero, List.set_cons_succ]
 refine wpAnyH_done (by kernel_rfl) ?_ _
 refine NoPanic.normal ?_
 clear hHeld WS CT
 replace h := h.call near
 cases hE : (E != 0)
 rotate_left
 ·have hE' : E ≠ 0 := by simpa using hE
  have ob_0 := ob.at_ 0 rfl
  have ob_1 := ob.at_ 1 rfl
  have ob_2 := ob.at_ 2 rfl
  have ob_3 := ob.at_ 3 rfl
  have ob_4 := ob.at_ 4 rfl
  have ob_5 := ob.at_ 5 rfl
  have ob_f0 := ob.frozen 0
  have ob_f1 := ob.frozen 1
  have ob_f2 := ob.frozen 2
  have ob_f3 := ob.frozen 3
  have ob_f4 := ob.frozen 4
  have ob_f5 := ob.frozen 5
  have z9 : w.heap.size + 1 < w8.heap.size := ob.lt
  go_wp2_with fail
  refine bodyPost_ret (v := .tuple #[.slice none 0 0, zeroV, .int .i64 E]) (by simp [results, Tryz.results135, go_sem, ob_0, ob_1, ob_2, ob_3, ob_4, ob_5]) rfl ⟨.inl ⟨hE', rfl⟩, ?_⟩
  repeat (refine gSet ?_ (by dsimp only; omega) _)
  exact low
 ·obtain rfl : E = 0 := by simpa using hE
  obtain ⟨a0, a1, a2, a3⟩ := ab.rowC
  obtain ⟨y0, y1, y2, y3, y4, y5⟩ := yb.wayC
  have frB : Fr w8.drew wN.heap.size w8.drew.heap.size (.slice Az la.length cz) la := (frz.more (B' := wN.heap.size) (C' := w8.heap.size) (by omega) (by omega)).call (Below.refl _ _).drew
  have sz8 : wN.heap.size ≤ w8.drew.heap.size := near.size
  clear frz fa1 fa2
  go_wp2_with fail
  refine wp_region_noPanic ?_
  refine wp_region_held_drew (S := fun w' => w'.cell? ⟨ga, 0, none⟩ = some (.slice Az la.length cz) ∧ w'.cell? ⟨ga, 1, none⟩ = some (.bool tt.1) ∧ w'.cell? ⟨ga, 2, none⟩ = some (.bool tt.2.1) ∧ w'.cell? ⟨ga, 3, none⟩ = some (.bool tt.2.2) ∧ w'.cell? ⟨gb, 0, none⟩ = some (.int .i64 z.st) ∧ w'.cell? ⟨gb, 1, none⟩ = some (.int .i64 z.ln) ∧ w'.cell? ⟨gb, 2, none⟩ = some (.int .u64 z.a) ∧ w'.cell? ⟨gb, 3, none⟩ = some (.int .u64 z.b) ∧ w'.cell? ⟨gb, 4, none⟩ = some (.int .u64 z.c) ∧ w'.cell? ⟨gb, 5, none⟩ = some (.int .u64 z.d)) (by kernel_rfl) ⟨drewC a0, drewC a1, drewC a2, drewC a3, drewC y0, drewC y1, drewC y2, drewC y3, drewC y4, drewC y5⟩ (fun hHeld => ?_)
  clear a0 a1 a2 a3 y0 y1 y2 y3 y4 y5 ab yb
  refine takeA 0 ?_ rfl ?_ ?_; rotate_left
  ·(intro w hSw; go_simp; try (with_reducible rfl))
  try simp only [Act.put, List.setIfInBounds_toArray, List.set_cons_zero, List.set_cons_succ]
  refine takeA 1 ?_ rfl ?_ ?_; rotate_left
  ·(intro w hSw; go_simp; try (with_reducible rfl))
  try simp only [Act.put, List.setIfInBounds_toArray, List.set_cons_zero, List.set_cons_succ]
  refine takeA 2 ?_ rfl ?_ ?_; rotate_left
  ·(intro w hSw; go_simp; try (with_reducible rfl))
  try simp only [Act.put, List.setIfInBounds_toArray, List.set_cons_zero, List.set_cons_succ]
  refine takeA 4 ?_ rfl ?_ ?_; rotate_left
  ·(intro w hSw; go_simp; try (with_reducible rfl))
  try simp only [Act.put, List.setIfInBounds_toArray, List.set_cons_zero, List.set_cons_succ]
  refine stepNext (i := 3) (by kernel_rfl) rfl (by rfl) (fun K hK => ?_)
  go_simp
  (with_reducible refine (Calls.mono (cacheReplace_l _ ss k Az cz la _ _ _ _ wN.heap.size h.drew kl SM.out frB sz8) ?_)); rintro e w9 ⟨⟨A2, c2, rfl, cf⟩, hb9⟩
  replace ob := ob.drew.call hb9
  replace low := gCall low.drew hb9
  have z9 : w8.heap.size ≤ w9.heap.size := hb9.size
  obtain ⟨hh0, hh1, hh2, hh3, hh4, hh5, hh6, hh7, hh8, hh9⟩ := hHeld
  have hHeld := (And.intro (callC hb9 hh0) (And.intro (callC hb9 hh1) (And.intro (callC hb9 hh2) (And.intro (callC hb9 hh3) (And.intro (callC hb9 hh4) (And.intro (callC hb9 hh5) (And.intro (callC hb9 hh6) (And.intro (callC hb9 hh7) (And.intro (callC hb9 hh8) (callC hb9 hh9))))))))))
  clear hh0 hh1 hh2 hh3 hh4 hh5 hh6 hh7 hh8 hh9
  clear hb9
  refine hK.out _ _ hHeld ?_
  clear hK K
  try simp only [Act.put]
  try simp only [List.setIfInBounds_toArray, List.set_cons_zero, List.set_cons_succ]
  refine stepNext (i := 5) (by kernel_rfl) rfl (by rfl) (fun K hK => ?_)
  go_simp
  refine hK.out _ _ hHeld ?_
  clear hK K
  try simp only [Act.put]
  try simp only [List.setIfInBounds_toArray, List.set_cons_zero, List.set_cons_succ]
  refine stepNext (i := 6) (by kernel_rfl) rfl (by rfl) (fun K hK => ?_)
  refine wp_store_box 114 (.tmp 7) (.tmp 44) rfl _ _ rfl rfl ob size_way rfl (by simp [Value.oneCell']) ?_
  intro w10 ob st
  replace cf := cf.out st (.inl (by omega))
  replace low := st.low low (by omega)
  have z10 := st.size
  have z11 : w8.heap.size = w8.drew.heap.size := rfl
  obtain ⟨hh0, hh1, hh2, hh3, hh4, hh5, hh6, hh7, hh8, hh9⟩ := hHeld
  have hHeld := (And.intro (st.cell (by dsimp only; omega) hh0) (And.intro (st.cell (by dsimp only; omega) hh1) (And.intro (st.cell (by dsimp only; omega) hh2) (And.intro (st.cell (by dsimp only; omega) hh3) (And.intro (st.cell (by dsimp only; omega) hh4) (And.intro (st.cell (by dsimp only; omega) hh5) (And.intro (st.cell (by dsimp only; omega) hh6) (And.intro (st.cell (by dsimp only; omega) hh7) (And.intro (st.cell (by dsimp only; omega) hh8) (st.cell (by dsimp only; omega) hh9))))))))))
  clear hh0 hh1 hh2 hh3 hh4 hh5 hh6 hh7 hh8 hh9
  clear st
  refine hK.out _ _ hHeld ?_
  clear hK K
  try simp only [Act.put]
  try simp only [List.setIfInBounds_toArray, List.set_cons_zero, List.set_cons_succ]
  refine stepNext (i := 7) (by kernel_rfl) rfl (by rfl) (fun K hK => ?_)
  go_simp
  refine hK.out _ _ hHeld ?_
  clear hK K
  try simp only [Act.put]
  try simp only [List.setIfInBounds_toArray, List.set_cons_zero, List.set_cons_succ]
  refine wpAnyH_done (by kernel_rfl) ?_ _
  refine NoPanic.normal ?_
  clear hHeld
  obtain ⟨q0, q1, q2, q3, q4, q5⟩ := ob.wayC
  have CF := Lib.hid (cf.more (B' := w.heap.size) (C' := w10.heap.size) (by omega) (by omega))
  clear cf
  go_wp2_with fail
  refine bodyPost_ret (v := .tuple #[.slice A2 ss.length c2, z.val, .int .i64 0]) (by simp [results, Tryz.results135, go_sem, q0, q1, q2, q3, q4, q5]) rfl ⟨⟨A2, c2, rfl, CF.out⟩, low⟩
set_option maxRecDepth 10000 in
set_option maxHeartbeats 2000000 in
theorem cacheSet_in (n s y b : Int) (v : Value) (ss : List St) (x : Wy) (k : Nat) (t : St) (w : World) (h : Cs w v ss) (he : wayCE n s y b ss x = 0) (hk : x.ln % s = k) (ht : ss[k]? = some t) :
  ∃ la tt E, SetIs t.l t.a t.b t.c y x la tt E ∧ Calls Tryz.prog 137 #[cfg n s y b, v, x.val] w fun e w' =>
   ((E ≠ 0 ∧ e = .returned (.tuple #[.slice none 0 0, .int .i64 E])) ∨ (E = 0 ∧ ∃ A c, e = .returned (.tuple #[.slice A ss.length c, .int .i64 0]) ∧ CFr w' w.heap.size w'.heap.size (.slice A ss.length c) (ss.set k ⟨la, tt.1, tt.2.1, tt.2.2⟩))) ∧ Below w.heap.size w w' := by
 obtain ⟨g1, g2⟩ := wayCE_ok he
 have good := goodC_iff.1 g1
 have SM := Lib.hid good.small
 have kl := st_lt ht
 obtain ⟨A, cp, rfl, h1, h2, h3⟩ := h.ex
 obtain ⟨bb, o, rfl, hb, hc⟩ := h3 (by omega)
 obtain ⟨A', c', ra, ws⟩ := hc.at_ k t ht
 obtain ⟨la, tt, E, PI, P⟩ := set_fr (.slice A' t.l.length c') t.l t.a t.b t.c y x
 refine ⟨la, tt, E, PI, ?_⟩
 unfold GivesF2 at P
 have CT := Lib.hid P
 have C := Lib.hid fun w hw => setOfWay_ok n s y b (.slice (some ⟨bb, o, none⟩) ss.length cp) ss x w hw he
 rw [hk] at C
 have kc : (k : Int) < ss.length := by omega
 have k0 : (0 : Int) ≤ k := by omega
 clear P PI h1 h2 h3 hc good g1 g2 he hk ht
 have low := Below.refl w.heap.size w
 have cb := boxNext low 23 (cfgA n s y b)
 replace low := gAlloc low (.cells (cfgA n s y b) 23)
 replace h := h.alloc (.cells (cfgA n s y b) 23)
 try simp only [World.size_alloc] at cb
 have xb := boxNext low 114 x.arr
 replace low := gAlloc low (.cells x.arr 114)
 replace h := h.alloc (.cells x.arr 114)
 replace cb := cb.alloc (.cells x.arr 114)
 try simp only [World.size_alloc] at xb
 simp only [Wy.arr] at xb
 go_enter Tryz.func137, Tryz.ntmps137
 go_wp2_with fail
 (with_reducible refine (C.out _ h).mono ?_); rintro e w1 ⟨rfl, hb⟩
 replace cb := cb.call hb
 replace xb := xb.call hb
 replace h := h.call hb
 replace low := gCall low hb
 clear hb
 clear C
 obtain ⟨r0, r1, r2, r3⟩ := rowAt_of ra hb low
 obtain ⟨x0, x1, x2, x3, x4, x5⟩ := xb.wayC
 have q2 := cb.at_ 2 rfl
 replace ws := ws.call low
 have z1 : w.heap.size + 1 < w1.heap.size := xb.lt
 clear ra
 go_wp2_with fail
 refine wp_region_noPanic ?_
 refine wp_region_held_drew (S := fun w' => w'.cell? ⟨bb, o + k * 4, none⟩ = some (.slice A' t.l.length c') ∧ w'.cell? ⟨bb, o + k * 4 + 1, none⟩ = some (.bool t.a) ∧ w'.cell? ⟨bb, o + k * 4 + 2, none⟩ = some (.bool t.b) ∧ w'.cell? ⟨bb, o + k * 4 + 3, none⟩ = some (.bool t.c) ∧ w'.cell? ⟨w.heap.size, 2, none⟩ = some (.int .i64 y) ∧ w'.cell? ⟨w.heap.size + 1, 0, none⟩ = some (.int .i64 x.st) ∧ w'.cell? ⟨w.heap.size + 1, 1, none⟩ = some (.int .i64 x.ln) ∧ w'.cell? ⟨w.heap.size + 1, 2, none⟩ = some (.int .u64 x.a) ∧ w'.cell? ⟨w.heap.size + 1, 3, none⟩ = some (.int .u64 x.b) ∧ w'.cell? ⟨w.heap.size + 1, 4, none⟩ = some (.int .u64 x.c) ∧ w'.cell? ⟨w.heap.size + 1, 5, none⟩ = some (.int .u64 x.d)) (by kernel_rfl) ⟨drewC r0, drewC r1, drewC r2, drewC r3, drewC q2, drewC x0, drewC x1, drewC x2, drewC x3, drewC x4, drewC x5⟩ (fun hHeld => ?_)
 clear r0 r1 r2 r3 x0 x1 x2 x3 x4 x5 q2 cb xb
 have z1 : w.heap.size + 1 < w1.drew.heap.size := z1
 replace ws := ws.drew
 replace h := h.drew
 replace low := low.drew
 generalize w1.drew = wN at *
 have WS := Lib.hid ws
 clear ws
 refine takeA 0 ?_ rfl ?_ ?_; rotate_left
 ·(intro w hSw; go_simp; try (with_reducible rfl))
 try simp only [Act.put, List.setIfInBounds_toArray, List.set_cons_zero, List.set_cons_succ]
 refine takeA 1 ?_ rfl ?_ ?_; rotate_left
 ·(intro w hSw; go_simp; try (with_reducible rfl))
 try simp only [Act.put, List.setIfInBounds_toArray, List.set_cons_zero, List.set_cons_succ]
 refine takeA 2 ?_ rfl ?_ ?_; rotate_left
 ·(intro w hSw; go_simp; try (with_reducible rfl))
 try simp only [Act.put, List.setIfInBounds_toArray, List.set_cons_zero, List.set_cons_succ]
 refine takeA 3 ?_ rfl ?_ ?_; rotate_left
 ·(intro w hSw; go_simp; try (with_reducible rfl))
 try simp only [Act.put, List.setIfInBounds_toArray, List.set_cons_zero, List.set_cons_succ]
 refine takeA 4 ?_ rfl ?_ ?_; rotate_left
 ·(intro w hSw; go_simp; try (with_reducible rfl))
 try simp only [Act.put, List.setIfInBounds_toArray, List.set_cons_zero, List.set_cons_succ]
 refine takeA 5 ?_ rfl ?_ ?_; rotate_left
 ·(intro w hSw; go_simp; try (with_reducible rfl))
 try simp only [Act.put, List.setIfInBounds_toArray, List.set_cons_zero, List.set_cons_succ]
 refine takeA 6 ?_ rfl ?_ ?_; rotate_left
 ·(intro w hSw; go_simp; try (with_reducible rfl))
 try simp only [Act.put, List.setIfInBounds_toArray, List.set_cons_zero, List.set_cons_succ]
 apply share1 (M := fun ga A c wz => Mid wN 193 (rowA (.slice none 0 0) false false false) 114 zeroA wz (some ga) none (some (.slice A la.length c, la)))
 ·intro hE
  have mid := Mid.start wN 193 (rowA (.slice none 0 0) false false false) 114 zeroA
  refine stepTwo (i1 := 7) (i2 := 11) (by kernel_rfl) rfl rfl (by rfl) (by rfl) (fun K hK => ?_) (fun K hK => ?_)
  ·go_simp
   (with_reducible refine (Calls.mono (CT.out _ (WS.out.call mid.low)) ?_)); rintro e wx ⟨⟨Az, cz, rfl, frz⟩, hbz⟩
   replace mid := mid.call hbz frz
   clear hbz frz
   try clear hNow
   have hNow := (And.intro (callC mid.low hHeld.1) (And.intro (callC mid.low hHeld.2.1) (And.intro (callC mid.low hHeld.2.2.1) (And.intro (callC mid.low hHeld.2.2.2.1) (And.intro (callC mid.low hHeld.2.2.2.2.1) (And.intro (callC mid.low hHeld.2.2.2.2.2.1) (And.intro (callC mid.low hHeld.2.2.2.2.2.2.1) (And.intro (callC mid.low hHeld.2.2.2.2.2.2.2.1) (And.intro (callC mid.low hHeld.2.2.2.2.2.2.2.2.1) (And.intro (callC mid.low hHeld.2.2.2.2.2.2.2.2.2.1) (callC mid.low hHeld.2.2.2.2.2.2.2.2.2.2)))))))))))
   refine hK.out _ _ hNow ?_
   clear hK K
   try simp only [Act.put]
   try simp only [List.setIfInBounds_toArray, List.set_cons_zero, List.set_cons_succ]
   refine takeA 8 ?_ rfl ?_ ?_; rotate_left
   ·(intro w hSw; go_simp; try (with_reducible rfl))
   try simp only [Act.put, List.setIfInBounds_toArray, List.set_cons_zero, List.set_cons_succ]
   refine takeA 9 ?_ rfl ?_ ?_; rotate_left
   ·(intro w hSw; go_simp; try (with_reducible rfl))
   try simp only [Act.put, List.setIfInBounds_toArray, List.set_cons_zero, List.set_cons_succ]
   refine takeA 10 ?_ rfl ?_ ?_; rotate_left
   ·(intro w hSw; go_simp; try (with_reducible rfl))
   try simp only [Act.put, List.setIfInBounds_toArray, List.set_cons_zero, List.set_cons_succ]
   refine stepNext (i := 11) (by kernel_rfl) rfl (by rfl) (fun K hK => ?_)
   go_simp
   replace mid := mid.allocA
   try clear hNow
   have hNow := (And.intro (callC mid.low hHeld.1) (And.intro (callC mid.low hHeld.2.1) (And.intro (callC mid.low hHeld.2.2.1) (And.intro (callC mid.low hHeld.2.2.2.1) (And.intro (callC mid.low hHeld.2.2.2.2.1) (And.intro (callC mid.low hHeld.2.2.2.2.2.1) (And.intro (callC mid.low hHeld.2.2.2.2.2.2.1) (And.intro (callC mid.low hHeld.2.2.2.2.2.2.2.1) (And.intro (callC mid.low hHeld.2.2.2.2.2.2.2.2.1) (And.intro (callC mid.low hHeld.2.2.2.2.2.2.2.2.2.1) (callC mid.low hHeld.2.2.2.2.2.2.2.2.2.2)))))))))))
   refine hK.out _ _ hNow ?_
   clear hK K
   try simp only [Act.put]
   try simp only [List.setIfInBounds_toArray, List.set_cons_zero, List.set_cons_succ]
   generalize wx.heap.size = ga at mid ⊢
   generalize wx.alloc (.cells (rowA (.slice none 0 0) false false false) 193) = wy at mid ⊢
   refine relist (l2 := #[true, true, true, true, true, true, true, true, true, true, true, true, false, false]) (by kernel_rfl) ?_
   exact hE _ _ _ _ mid
  ·go_simp
   replace mid := mid.allocA
   try clear hNow
   have hNow := (And.intro (callC mid.low hHeld.1) (And.intro (callC mid.low hHeld.2.1) (And.intro (callC mid.low hHeld.2.2.1) (And.intro (callC mid.low hHeld.2.2.2.1) (And.intro (callC mid.low hHeld.2.2.2.2.1) (And.intro (callC mid.low hHeld.2.2.2.2.2.1) (And.intro (callC mid.low hHeld.2.2.2.2.2.2.1) (And.intro (callC mid.low hHeld.2.2.2.2.2.2.2.1) (And.intro (callC mid.low hHeld.2.2.2.2.2.2.2.2.1) (And.intro (callC mid.low hHeld.2.2.2.2.2.2.2.2.2.1) (callC mid.low hHeld.2.2.2.2.2.2.2.2.2.2)))))))))))
   refine hK.out _ _ hNow ?_
   clear hK K
   try simp only [Act.put]
   try simp only [List.setIfInBounds_toArray, List.set_cons_zero, List.set_cons_succ]
   generalize wN.heap.size = ga at mid ⊢
   generalize wN.alloc (.cells (rowA (.slice none 0 0) false false false) 193) = wx at mid ⊢
   refine stepNext (i := 7) (by kernel_rfl) rfl (by rfl) (fun K hK => ?_)
   go_simp
   (with_reducible refine (Calls.mono (CT.out _ (WS.out.call mid.low)) ?_)); rintro e wy ⟨⟨Az, cz, rfl, frz⟩, hbz⟩
   replace mid := mid.call hbz frz
   clear hbz frz
   try clear hNow
   have hNow := (And.intro (callC mid.low hHeld.1) (And.intro (callC mid.low hHeld.2.1) (And.intro (callC mid.low hHeld.2.2.1) (And.intro (callC mid.low hHeld.2.2.2.1) (And.intro (callC mid.low hHeld.2.2.2.2.1) (And.intro (callC mid.low hHeld.2.2.2.2.2.1) (And.intro (callC mid.low hHeld.2.2.2.2.2.2.1) (And.intro (callC mid.low hHeld.2.2.2.2.2.2.2.1) (And.intro (callC mid.low hHeld.2.2.2.2.2.2.2.2.1) (And.intro (callC mid.low hHeld.2.2.2.2.2.2.2.2.2.1) (callC mid.low hHeld.2.2.2.2.2.2.2.2.2.2)))))))))))
   refine hK.out _ _ hNow ?_
   clear hK K
   try simp only [Act.put]
   try simp only [List.setIfInBounds_toArray, List.set_cons_zero, List.set_cons_succ]
   refine takeA 8 ?_ rfl ?_ ?_; rotate_left
   ·(intro w hSw; go_simp; try (with_reducible rfl))
   try simp only [Act.put, List.setIfInBounds_toArray, List.set_cons_zero, List.set_cons_succ]
   refine takeA 9 ?_ rfl ?_ ?_; rotate_left
   ·(intro w hSw; go_simp; try (with_reducible rfl))
   try simp only [Act.put, List.setIfInBounds_toArray, List.set_cons_zero, List.set_cons_succ]
   refine takeA 10 ?_ rfl ?_ ?_; rotate_left
   ·(intro w hSw; go_simp; try (with_reducible rfl))
   try simp only [Act.put, List.setIfInBounds_toArray, List.set_cons_zero, List.set_cons_succ]
   refine relist (l2 := #[true, true, true, true, true, true, true, true, true, true, true, true, false, false]) (by kernel_rfl) ?_
   exact hE _ _ _ _ mid
 intro ga Az cz w6 mid
 obtain ⟨hga, ab⟩ := mid.fa ga rfl
 obtain ⟨Bz, Cz, hBz, hCz, frz, hfar⟩ := mid.fr _ _ rfl
 have fa1 := hfar ga (.inl rfl)
 have near := mid.low
 clear hfar mid
 obtain ⟨hh0, hh1, hh2, hh3, hh4, hh5, hh6, hh7, hh8, hh9, hh10⟩ := hHeld
 have hHeld := (And.intro (callC near hh0) (And.intro (callC near hh1) (And.intro (callC near hh2) (And.intro (callC near hh3) (And.intro (callC near hh4) (And.intro (callC near hh5) (And.intro (callC near hh6) (And.intro (callC near hh7) (And.intro (callC near hh8) (And.intro (callC near hh9) (callC near hh10)))))))))))
 clear hh0 hh1 hh2 hh3 hh4 hh5 hh6 hh7 hh8 hh9 hh10
 replace low := gCall low near
 refine stepNext (i := 12) (by kernel_rfl) rfl (by rfl) (fun K hK => ?_)
 refine wp_store_box 193 (.tmp 10) (.tmp 30) rfl _ _ rfl rfl ab size_row rfl (by simp [Value.oneCell']) ?_
 intro w7 ab st
 replace frz := st.fr frz fa1
 replace low := st.low low (by omega)
 replace near := st.low near (by omega)
 have z7 := st.size
 obtain ⟨hh0, hh1, hh2, hh3, hh4, hh5, hh6, hh7, hh8, hh9, hh10⟩ := hHeld
 have hHeld := (And.intro (st.cell (by dsimp only; omega) hh0) (And.intro (st.cell (by dsimp only; omega) hh1) (And.intro (st.cell (by dsimp only; omega) hh2) (And.intro (st.cell (by dsimp only; omega) hh3) (And.intro (st.cell (by dsimp only; omega) hh4) (And.intro (st.cell (by dsimp only; omega) hh5) (And.intro (st.cell (by dsimp only; omega) hh6) (And.intro (st.cell (by dsimp only; omega) hh7) (And.intro (st.cell (by dsimp only; omega) hh8) (And.intro (st.cell (by dsimp only; omega) hh9) (st.cell (by dsimp only; omega) hh10)))))))))))
 clear hh0 hh1 hh2 hh3 hh4 hh5 hh6 hh7 hh8 hh9 hh10
 clear st
 refine hK.out _ _ hHeld ?_
 clear hK K
 try simp only [Act.put]
 try simp only [List.setIfInBounds_toArray, List.set_cons_zero, List.set_cons_succ]
 refine stepNext (i := 13) (by kernel_rfl) rfl (by rfl) (fun K hK => ?_)
 go_simp
 refine hK.out _ _ hHeld ?_
 clear hK K
 try simp only [Act.put]
 try simp only [List.setIfInBounds_toArray, List.set_cons_zero, List.set_cons_succ]
 refine wpAnyH_done (by kernel_rfl) ?_ _
 refine NoPanic.normal ?_
 clear hHeld WS CT
 replace h := h.call near
 cases hE : (E != 0)
 rotate_left
 ·have hE' : E ≠ 0 := by simpa using hE
  go_wp2_with fail
  go_ret2
  exact ⟨.inl ⟨hE', rfl⟩, low⟩
 ·obtain rfl : E = 0 := by simpa using hE
  obtain ⟨a0, a1, a2, a3⟩ := ab.rowC
  have frB : Fr w7 w.heap.size w7.heap.size (.slice Az la.length cz) la := frz.more (by have := low.size; omega) (by omega)
  have CR := Lib.hid (cacheReplace_l _ ss k Az cz la tt.1 tt.2.1 tt.2.2 _ w.heap.size h kl SM.out frB low.size)
  clear frz frB
  go_wp2_with fail
  (with_reducible refine (Calls.mono CR.out ?_)); rintro e w9 ⟨⟨A2, c2, rfl, cf⟩, hb9⟩
  replace low := gCall low hb9
  have CF := Lib.hid cf
  clear cf a0 a1 a2 a3 hb9
  go_wp2_with fail
  go_ret2
  exact ⟨⟨A2, c2, rfl, CF.out⟩, low⟩
end Go.Proofs.YtcegjehoejgofaaGreat
namespace Go.Proofs.YtcegjehoejgofaaGreat
open Go.ChangeShapes Go.WideShapes Go.ChangeAt Go.RowKit Go.Joins
abbrev GaveCW (w : World) (ss : List St) (z : Wy) (sa : List St) (e : Ending) (w' : World) : Prop :=
 (∃ A c, e = .returned (.tuple #[.slice A ss.length c, z.val, .int .i64 0]) ∧ CFr w' w.heap.size w'.heap.size (.slice A ss.length c) sa) ∧ Below w.heap.size w w'
theorem cachePut_ok (n s y b : Int) (v : Value) (ss : List St) (x : Wy) (k : Nat) (t : St) (j : Nat) (old : Wy) (w : World) (h : Cs w v ss) (he : wayCE n s y b ss x = 0) (hk : x.ln % s = k) (ht : ss[k]? = some t) (hp : putE t.l t.a t.b t.c y x = 0)
  (hr : roomN t.l t.a t.b t.c y = j) (hj : t.l[j]? = some old) :
  Calls Tryz.prog 136 #[cfg n s y b, v, x.val] w (GaveCW w ss old (ss.set k ⟨t.l.set j x, (touchT t.a t.b t.c y j).1, (touchT t.a t.b t.c y j).2.1, (touchT t.a t.b t.c y j).2.2⟩)) := by
 obtain ⟨la, tt, z, E, ⟨rfl, P⟩, C⟩ := cachePut_in n s y b v ss x k t w h he hk ht
 rcases P with ⟨h0, _⟩ | ⟨_, j', hr', hj', rfl, rfl⟩
 ·exact absurd hp h0
 obtain rfl : j' = j := by rw [hr] at hr'; omega
 rw [hj] at hj'
 cases hj'
 refine C.mono ?_
 rintro e w' ⟨⟨h0, _⟩ | ⟨_, h1⟩, hb⟩
 ·exact absurd hp h0
 ·exact ⟨h1, hb⟩
theorem cacheTake_err (n s y b : Int) (v : Value) (ss : List St) (m : Int) (k : Nat) (t : St) (w : World) (h : Cs w v ss) (he : lineE n s y b ss m = 0) (hk : m % s = k) (ht : ss[k]? = some t) (hp : takeE t.l t.a t.b t.c y m ≠ 0) :
  Calls Tryz.prog 135 #[cfg n s y b, v, .int .i64 m] w fun e w' => e = .returned (.tuple #[.slice none 0 0, zeroV, .int .i64 (takeE t.l t.a t.b t.c y m)]) ∧ Below w.heap.size w w' := by
 obtain ⟨la, tt, z, E, ⟨rfl, _⟩, C⟩ := cacheTake_in n s y b v ss m k t w h he hk ht
 refine C.mono ?_
 rintro e w' ⟨⟨_, rfl⟩ | ⟨h0, _⟩, hb⟩
 ·exact ⟨rfl, hb⟩
 ·exact absurd h0 hp
theorem cacheTake_ok (n s y b : Int) (v : Value) (ss : List St) (m : Int) (k : Nat) (t : St) (j : Nat) (old : Wy) (w : World) (h : Cs w v ss) (he : lineE n s y b ss m = 0) (hk : m % s = k) (ht : ss[k]? = some t) (hp : takeE t.l t.a t.b t.c y m = 0)
  (hr : idxP (hasW m) t.l = j) (hj : t.l[j]? = some old) :
  Calls Tryz.prog 135 #[cfg n s y b, v, .int .i64 m] w (GaveCW w ss old (ss.set k ⟨t.l.set j wy0, t.a, t.b, t.c⟩)) := by
 obtain ⟨la, tt, z, E, ⟨rfl, P⟩, C⟩ := cacheTake_in n s y b v ss m k t w h he hk ht
 rcases P with ⟨h0, _⟩ | ⟨_, j', hr', hj', rfl, rfl⟩
 ·exact absurd hp h0
 obtain rfl : j' = j := by rw [hr] at hr'; omega
 rw [hj] at hj'
 cases hj'
 refine C.mono ?_
 rintro e w' ⟨⟨h0, _⟩ | ⟨_, h1⟩, hb⟩
 ·exact absurd hp h0
 ·exact ⟨h1, hb⟩
theorem cacheSet_ok (n s y b : Int) (v : Value) (ss : List St) (x : Wy) (k : Nat) (t : St) (j : Nat) (w : World) (h : Cs w v ss) (he : wayCE n s y b ss x = 0) (hk : x.ln % s = k) (ht : ss[k]? = some t) (hp : setE t.l t.a t.b t.c y x = 0)
  (hr : idxP (hasW x.ln) t.l = j) :
  Calls Tryz.prog 137 #[cfg n s y b, v, x.val] w fun e w' => (∃ A c, e = .returned (.tuple #[.slice A ss.length c, .int .i64 0]) ∧ CFr w' w.heap.size w'.heap.size (.slice A ss.length c) (ss.set k ⟨t.l.set j x, (touchT t.a t.b t.c y j).1, (touchT t.a t.b t.c y j).2.1, (touchT t.a t.b t.c y j).2.2⟩)) ∧ Below w.heap.size w w' := by
 obtain ⟨la, tt, E, ⟨rfl, P⟩, C⟩ := cacheSet_in n s y b v ss x k t w h he hk ht
 rcases P with ⟨h0, _⟩ | ⟨_, j', hr', _, rfl, rfl⟩
 ·exact absurd hp h0
 obtain rfl : j' = j := by rw [hr] at hr'; omega
 refine C.mono ?_
 rintro e w' ⟨⟨h0, _⟩ | ⟨_, h1⟩, hb⟩
 ·exact absurd hp h0
 ·exact ⟨h1, hb⟩
end Go.Proofs.YtcegjehoejgofaaGreat
namespace Go.Proofs.YtcegjehoejgofaaGreat
open Go.ChangeShapes Go.WideShapes Go.ChangeAt Go.RowKit Go.Joins
theorem hasW_zero (k : Int) : hasW k wy0 = false := rfl
section
variable {n s y b : Int} {ss : List St} {k r j : Nat} {t : St} {z : Wy} {kd : Int}
theorem other_none (he : cacheE n s y b ss = 0) (hf : fnd ss k = none) : OtherIs n s y b ss k kd ss :=
 ⟨he, by rw [hf]; rfl, fun _ _ _ => rfl, fun _ => rfl⟩
theorem other_take (he : cacheE n s y b ss = 0) (hk : k < 16) (ht : ss[r]? = some t) (hj : t.l[j]? = some z) (hz : hasW k z = true) (ho : otS z.st kd = 0) : OtherIs n s y b ss k kd (updC ss r t j wy0 t.a t.b t.c) := by
 have hg := good_upd (x := wy0) (p := t.a) (q := t.b) (p' := t.c) he ht hj (by decide) (fun h => absurd rfl h) (rowE_ok ((goodC_iff.1 he).2.2 r t ht).1).1
 have hf : fnd ss k = some z := (fnd_iff he hk).2 ⟨hz, r, j, t, ht, hj⟩
 refine ⟨hg, ?_, fun q hq hne => ?_, fun h => ?_⟩
 ·rw [fnd_upd he hg ht hj hk, hf, if_neg (by rw [hasW_zero]; decide), if_pos hz]
  simp only [Option.bind_some, ho, if_true]
 ·have hno : hasW q z = false := hasW_no.2 fun _ e => by have := (hasW_iff.1 hz).2; omega
  rw [fnd_upd he hg ht hj hq, if_neg (by rw [hasW_zero]; decide), if_neg (by rw [hno]; decide)]
 ·have := h z hf
  rw [ho] at this
  exact absurd this.symm (fnd_ok he hk hf).1
theorem other_state (he : cacheE n s y b ss = 0) (hk : k < 16) (ht : ss[r]? = some t) (hj : t.l[j]? = some z) (hz : hasW k z = true) (ho : otS z.st kd ≠ 0) (h1 : 1 ≤ otS z.st kd ∧ otS z.st kd ≤ 4) : OtherIs n s y b ss k kd (relS ss r t j z (otS z.st kd)) := by
 have good := goodC_iff.1 he
 obtain ⟨t1, t2, t3⟩ := rowE_ok (good.2.2 r t ht).1
 have gw := (goodW_iff t.l).1 t3
 obtain ⟨w1, w2⟩ := hasW_iff.1 hz
 have hwe : wayE (z.as (otS z.st kd)) = 0 := (wayE_of (by simp only [hlB, Bool.and_eq_true]; exact ⟨decide_eq_true h1, lnB_iff.2 (by show 0 ≤ z.ln ∧ z.ln ≤ 15; omega)⟩)).1
 have hg : cacheE n s y b (updC ss r t j (z.as (otS z.st kd)) t.a t.b t.c) = 0 := good_upd he ht hj hwe (fun _ => ⟨(good.2.2 r t ht).2 j z hj w1, fun i u hi hu => gw.other hj (show hasW z.ln z = true from hasW_iff.2 ⟨w1, rfl⟩) hu hi⟩) t1
 have hf : fnd ss k = some z := (fnd_iff he hk).2 ⟨hz, r, j, t, ht, hj⟩
 have h2 : hasW k (z.as (otS z.st kd)) = true := hasW_iff.2 ⟨ho, w2⟩
 refine ⟨hg, ?_, fun q hq hne => ?_, fun h => ?_⟩
 ·refine (fnd_upd he hg ht hj hk).trans ?_
  rw [hf, if_pos h2]
  simp only [Option.bind_some, if_neg ho]
 ·refine (fnd_upd he hg ht hj hq).trans ?_
  have hno : hasW q z = false := hasW_no.2 fun _ e => by omega
  have hno2 : hasW q (z.as (otS z.st kd)) = false := hasW_no.2 fun _ e => by have e' : z.ln = q := e; omega
  rw [if_neg (by rw [hno2]; decide), if_neg (by rw [hno]; decide)]
 ·have e := h z hf
  unfold relS
  have e2 : z.as (otS z.st kd) = z := by rw [e]
  rw [e2]
  obtain ⟨hr', e3⟩ := List.getElem?_eq_some_iff.1 ht
  obtain ⟨hj', e4⟩ := List.getElem?_eq_some_iff.1 hj
  have : t.l.set j z = t.l := by rw [← e4]; exact List.set_getElem_self _
  rw [this]
  have : (⟨t.l, t.a, t.b, t.c⟩ : St) = t := rfl
  rw [this, ← e3]
  exact List.set_getElem_self _
end
theorem otS_range {s k : Int} (h : 1 ≤ s ∧ s ≤ 4) (hk : 1 ≤ k ∧ k ≤ 4) : stE s k = 0 ∧ (otS s k = 0 ∨ (1 ≤ otS s k ∧ otS s k ≤ 4)) := by
 obtain e | e | e | e : s = 1 ∨ s = 2 ∨ s = 3 ∨ s = 4 := by omega
 all_goals
  obtain f | f | f | f : k = 1 ∨ k = 2 ∨ k = 3 ∨ k = 4 := by omega
  all_goals rw [e, f]; decide
abbrev GaveC (w : World) (ss sa : List St) (e : Ending) (w' : World) : Prop :=
 (∃ A c, e = .returned (.tuple #[.slice A ss.length c, .int .i64 0]) ∧ CFr w' w.heap.size w'.heap.size (.slice A ss.length c) sa) ∧ Below w.heap.size w w'
set_option maxHeartbeats 1000000 in
theorem otherCache_none (n s y b : Int) (v : Value) (ss : List St) (k : Nat) (kd : Int) (he : cacheE n s y b ss = 0) (w : World) (h : Cs w v ss)
  (F : Hid (∀ w, Cs w v ss → Calls Tryz.prog 130 #[cfg n s y b, v, .int .i64 k] w fun e w' => e = .returned (.tuple #[wy0.val, .bool false, .int .i64 0]) ∧ Below w.heap.size w w')) :
  Calls Tryz.prog 138 #[cfg n s y b, v, .int .i64 kd, .int .i64 k] w (GaveC w ss ss) := by
 obtain ⟨s4, sl⟩ := (goodC_iff.1 he).small
 have s0 : 0 < ss.length := by have := (goodC_iff.1 he).2.1; have := cfgB_iff.1 (goodC_iff.1 he).1; omega
 have CC := Lib.hid fun w hw => copyCache_any v ss w hw s0 s4 sl
 clear sl
 obtain ⟨A, c, rfl⟩ : ∃ A c, v = .slice A ss.length c := by obtain ⟨A, c, e, _⟩ := h; exact ⟨A, c, e⟩
 clear he s4 s0
 unfold wy0 at F
 have low := Below.refl w.heap.size w
 have cb := boxNext low 23 (cfgA n s y b)
 replace low := gAlloc low (.cells (cfgA n s y b) 23)
 replace h := h.alloc (.cells (cfgA n s y b) 23)
 try simp only [World.size_alloc] at cb
 go_enter Tryz.func138, Tryz.ntmps138
 go_wp2_with fail
 (with_reducible refine (F.out _ h).mono ?_); rintro e w1 ⟨rfl, hb⟩
 replace cb := cb.call hb
 replace h := h.call hb
 replace low := gCall low hb
 clear hb F
 replace h := h.alloc (.cells zeroA 114)
 replace low := gAlloc low (.cells zeroA 114)
 simp only [zeroA] at h low
 go_wp2_with fail
 (with_reducible refine (CC.out _ h).mono ?_); rintro e w2 ⟨⟨rfl, own⟩, hb⟩
 have low2 := gCall low hb
 have cf : CFr w2 w.heap.size w2.heap.size _ (ss) := .inr ⟨_, by have := low.size; simpa using this, own.lt, own.more (by have := low.size; simpa using this) (Nat.le_refl _)⟩
 simp only [World.size_alloc] at cf
 have CF := Lib.hid cf
 clear cf
 clear own hb low
 go_wp2_with fail
 go_ret2
 exact ⟨⟨_, _, rfl, CF.out⟩, low2⟩
set_option maxHeartbeats 1000000 in
theorem otherCache_take (n s y b : Int) (v : Value) (ss sa : List St) (k : Nat) (kd : Int) (z : Wy) (w : World) (h : Cs w v ss) (hs : stE z.st kd = 0) (ho : otS z.st kd = 0)
  (F : Hid (∀ w, Cs w v ss → Calls Tryz.prog 130 #[cfg n s y b, v, .int .i64 k] w fun e w' => e = .returned (.tuple #[z.val, .bool true, .int .i64 0]) ∧ Below w.heap.size w w'))
  (T : Hid (∀ w, Cs w v ss → Calls Tryz.prog 135 #[cfg n s y b, v, .int .i64 k] w (GaveCW w ss z sa))) :
  Calls Tryz.prog 138 #[cfg n s y b, v, .int .i64 kd, .int .i64 k] w (GaveC w ss sa) := by
 obtain ⟨A, c, rfl⟩ : ∃ A c, v = .slice A ss.length c := by obtain ⟨A, c, e, _⟩ := h; exact ⟨A, c, e⟩
 have O := Lib.hid fun w => other_any z.st kd w
 rw [hs, ho] at O
 clear hs ho
 have low := Below.refl w.heap.size w
 have cb := boxNext low 23 (cfgA n s y b)
 replace low := gAlloc low (.cells (cfgA n s y b) 23)
 replace h := h.alloc (.cells (cfgA n s y b) 23)
 try simp only [World.size_alloc] at cb
 go_enter Tryz.func138, Tryz.ntmps138
 go_wp2_with fail
 (with_reducible refine (F.out _ h).mono ?_); rintro e w1 ⟨rfl, hb⟩
 replace cb := cb.call hb
 replace h := h.call hb
 replace low := gCall low hb
 clear hb F
 have zb := boxNext low 114 z.arr
 replace low := gAlloc low (.cells z.arr 114)
 replace h := h.alloc (.cells z.arr 114)
 replace cb := cb.alloc (.cells z.arr 114)
 try simp only [World.size_alloc] at zb
 simp only [Wy.arr] at zb
 have zb_0 := zb.at_ 0 rfl
 go_wp2_with fail
 (with_reducible refine (O.out _).mono ?_); rintro e w' ⟨rfl, rfl⟩
 have cb_0 := cb.at_ 0 rfl
 have cb_1 := cb.at_ 1 rfl
 have cb_2 := cb.at_ 2 rfl
 have cb_3 := cb.at_ 3 rfl
 go_wp2_with fail
 (with_reducible refine (T.out _ h).mono ?_); rintro e w2 ⟨⟨A2, c2, rfl, cf⟩, hb⟩
 clear zb_0 cb_0 cb_1 cb_2 cb_3
 have CF := Lib.hid (((cf.more (by have := low.size; simpa using this) (Nat.le_refl _)).alloc (.cells z.arr 114)).more (Nat.le_refl w.heap.size) (Nat.le_succ _))
 replace low := gAlloc (gCall low hb) (.cells z.arr 114)
 clear hb cf
 go_wp2_with fail
 go_ret2
 exact ⟨⟨_, _, rfl, by simpa using CF.out⟩, low⟩
set_option maxHeartbeats 1000000 in
theorem otherCache_state (n s y b : Int) (v : Value) (ss sa : List St) (k : Nat) (kd o : Int) (z : Wy) (w : World) (h : Cs w v ss) (hs : stE z.st kd = 0) (ho : otS z.st kd = o) (h0 : o ≠ 0)
  (F : Hid (∀ w, Cs w v ss → Calls Tryz.prog 130 #[cfg n s y b, v, .int .i64 k] w fun e w' => e = .returned (.tuple #[z.val, .bool true, .int .i64 0]) ∧ Below w.heap.size w w'))
  (T : Hid (∀ w, Cs w v ss → Calls Tryz.prog 162 #[v, .int .i64 k, .int .i64 o] w fun e w' => (e = .returned (.slice (some ⟨w.heap.size, 0, none⟩) ss.length ss.length) ∧ CFr w' w.heap.size w'.heap.size (.slice (some ⟨w.heap.size, 0, none⟩) ss.length ss.length) sa) ∧ Below w.heap.size w w')) :
  Calls Tryz.prog 138 #[cfg n s y b, v, .int .i64 kd, .int .i64 k] w (GaveC w ss sa) := by
 obtain ⟨A, c, rfl⟩ : ∃ A c, v = .slice A ss.length c := by obtain ⟨A, c, e, _⟩ := h; exact ⟨A, c, e⟩
 have O := Lib.hid fun w => other_any z.st kd w
 rw [hs, ho] at O
 have o0 : (o == 0) = false := by simpa using h0
 clear hs ho h0
 have low := Below.refl w.heap.size w
 have cb := boxNext low 23 (cfgA n s y b)
 replace low := gAlloc low (.cells (cfgA n s y b) 23)
 replace h := h.alloc (.cells (cfgA n s y b) 23)
 try simp only [World.size_alloc] at cb
 go_enter Tryz.func138, Tryz.ntmps138
 go_wp2_with fail
 (with_reducible refine (F.out _ h).mono ?_); rintro e w1 ⟨rfl, hb⟩
 replace cb := cb.call hb
 replace h := h.call hb
 replace low := gCall low hb
 clear hb F
 have zb := boxNext low 114 z.arr
 replace low := gAlloc low (.cells z.arr 114)
 replace h := h.alloc (.cells z.arr 114)
 replace cb := cb.alloc (.cells z.arr 114)
 try simp only [World.size_alloc] at zb
 simp only [Wy.arr] at zb
 have zb_0 := zb.at_ 0 rfl
 go_wp2_with fail
 (with_reducible refine (O.out _).mono ?_); rintro e w' ⟨rfl, rfl⟩
 go_wp2_with fail
 (with_reducible refine (T.out _ h).mono ?_); rintro e w2 ⟨⟨rfl, cf⟩, hb⟩
 clear zb_0
 replace cf := cf.more (by have := low.size; simpa using this) (Nat.le_refl _)
 simp only [World.size_alloc] at cf
 have CF := Lib.hid cf
 replace low := gCall low hb
 clear hb cf
 go_wp2_with fail
 go_ret2
 exact ⟨⟨_, _, rfl, CF.out⟩, low⟩
theorem cacheFind_all (n s y b : Int) (ss : List St) (m : Int) : ∃ z p E, FindCIs n s y b ss m z p E ∧ ∀ v w, Cs w v ss →
  Calls Tryz.prog 130 #[cfg n s y b, v, .int .i64 m] w fun e w' => e = .returned (.tuple #[z.val, .bool p, .int .i64 E]) ∧ Below w.heap.size w w' := by
 obtain ⟨z, p, E, hf, _⟩ := cacheFind_is n s y b (.slice none 0 0) ss m
 refine ⟨z, p, E, hf, fun v w h => ?_⟩
 obtain ⟨z', p', E', hf', F⟩ := cacheFind_is n s y b v ss m
 obtain ⟨rfl, rfl, rfl⟩ := hf.only hf'
 exact F w h
theorem otherCache_is (n s y b : Int) (ss : List St) (k : Nat) (kd : Int) (he : cacheE n s y b ss = 0) (hk : k < 16) (h1 : 1 ≤ kd ∧ kd ≤ 4) :
  ∃ sa, OtherIs n s y b ss k kd sa ∧ ∀ v w, Cs w v ss → Calls Tryz.prog 138 #[cfg n s y b, v, .int .i64 kd, .int .i64 k] w (GaveC w ss sa) := by
 obtain ⟨z, p, E, hf, F⟩ := cacheFind_all n s y b ss k
 obtain ⟨rfl, hz0, hfn, _⟩ := fnd_find he hk hf
 have good := goodC_iff.1 he
 obtain ⟨s4, sl⟩ := good.small
 cases p
 ·obtain rfl := hz0 rfl
  exact ⟨ss, other_none he (by simpa using hfn), fun v w h => otherCache_none n s y b v ss k kd he w h (Lib.hid (F v))⟩
 ·rw [if_pos rfl] at hfn
  obtain ⟨f1, f2, f3⟩ := fnd_ok he hk hfn
  have hz : hasW k z = true := hasW_iff.2 ⟨f1, f2⟩
  obtain ⟨r, t, hr, ht⟩ := good.set_ k
  have hl : lineE n s y b ss k = 0 := by rw [lineE_zero he, if_neg (by rw [lnB_iff.2 (by omega)]; decide)]
  obtain ⟨_, hx⟩ := hf.ok hl hr ht
  obtain ⟨j, hj, hzj⟩ : ∃ j : Nat, idxP (hasW k) t.l = j ∧ t.l[j]? = some z := by
   rcases hx with ⟨_, _, e⟩ | ⟨j, h2, h3, _⟩
   ·cases e
   ·exact ⟨j, h2, h3⟩
  have row := (good.2.2 r t ht).1
  obtain ⟨o1, o2⟩ := otS_range f3 h1
  by_cases ho : otS z.st kd = 0
  ·refine ⟨_, other_take he hk ht hzj hz ho, fun v w h => otherCache_take n s y b v ss _ k kd z w h o1 ho (Lib.hid (F v)) (Lib.hid fun w hw => cacheTake_ok n s y b v ss k r t j z w hw hl hr ht ?_ hj hzj)⟩
   unfold takeE
   rw [if_neg (by simp [row]), if_neg (by omega)]
  ·refine ⟨_, other_state he hk ht hzj hz ho (by omega), fun v w h => otherCache_state n s y b v ss _ k kd _ z w h o1 rfl ho (Lib.hid (F v)) (Lib.hid fun w hw => withState_ok v ss k _ r t j z w hw s4 sl (fun q u hu => ?_) ht hzj hz fun q u i x hu hx hw => ?_)⟩
   ·have h2 := (rowE_ok row).2.1
    have h3 := (rowE_ok (good.2.2 q u hu).1).2.1
    omega
   ·obtain ⟨e1, e2, _⟩ := at_only he ⟨t, ht, hzj⟩ ⟨u, hu, hx⟩ hz hw
    exact ⟨e1, e2⟩
end Go.Proofs.YtcegjehoejgofaaGreat
