/-
Proved: facts on the copies of a line in a world that is right: which node has one, who owns it, who may write. No walk. No condition.
-/
import Derived.Test.YtmodajmjmdigfaaAgree5
import Derived.Test.YtmodajmjmdigfaaCacheFacts
namespace Go.Proofs.Ytmodajmjmdigfaa
open Go.ChangeShapes Go.WideShapes Go.ChangeAt Go.RowKit Go.Joins

theorem filter_one {α : Type} {p : α → Bool} : ∀ {l : List α} {j : Nat} {z : α}, l[j]? = some z → p z = true → (∀ (i : Nat) y, l[i]? = some y → p y = true → i = j) → l.filter p = [z]
  | [], j, z, h, _, _ => by simp at h
  | a :: r, 0, z, h, hp, hu => by
    simp only [List.getElem?_cons_zero, Option.some.injEq] at h
    subst h
    rw [List.filter_cons_of_pos hp, List.filter_eq_nil_iff.2]
    intro y hy hpy
    obtain ⟨i, hi, e⟩ := List.getElem_of_mem hy
    have := hu (i + 1) y (by rw [List.getElem?_cons_succ, List.getElem?_eq_getElem hi, e]) hpy
    omega
  | a :: r, j + 1, z, h, hp, hu => by
    have ha : ¬ p a = true := fun hpa => by have := hu 0 a rfl hpa; omega
    rw [List.filter_cons_of_neg ha]
    refine filter_one (by simpa using h) hp fun i y hi hy => ?_
    have := hu (i + 1) y (by simpa using hi) hy
    omega
theorem flatMap_one {α β : Type} {f : α → List β} : ∀ {l : List α} {r : Nat} {t : α}, l[r]? = some t → (∀ (q : Nat) u, l[q]? = some u → q ≠ r → f u = []) → l.flatMap f = f t
  | [], r, t, h, _ => by simp at h
  | a :: l, 0, t, h, hu => by
    simp only [List.getElem?_cons_zero, Option.some.injEq] at h
    subst h
    have : l.flatMap f = [] := by
      rw [List.flatMap_eq_nil_iff]
      intro u hm
      obtain ⟨i, hi, e⟩ := List.getElem_of_mem hm
      exact hu (i + 1) u (by rw [List.getElem?_cons_succ, List.getElem?_eq_getElem hi, e]) (by omega)
    rw [List.flatMap_cons, this, List.append_nil]
  | a :: l, r + 1, t, h, hu => by
    rw [List.flatMap_cons, hu 0 a rfl (by omega), List.nil_append]
    exact flatMap_one (by simpa using h) fun q u hq hne => hu (q + 1) u (by simpa using hq) (by omega)

theorem onW (ss : List St) (k : Int) : (allW ss).filter (fun x => x.ln == k) = ss.flatMap fun t => t.l.filter (hasW k) := by
  unfold allW
  rw [List.filter_flatMap]
  congr 1
  funext t
  rw [List.filter_filter]
  congr 1
  funext x
  unfold hasW heldB
  rw [Bool.and_comm]

/-- The copies that one node has of a line are what Find finds. -/
theorem onL_node {n s y b : Int} {ss : List St} {k i : Nat} (he : cacheE n s y b ss = 0) (hk : k < 16) {z : Wy} {p : Bool} {E : Int} (hf : FindCIs n s y b ss k z p E) :
    E = 0 ∧ (p = false → z = wy0) ∧ onL k (cpsOf i ss) = if p = true then [⟨(i : Int), z⟩] else [] := by
  have good := goodC_iff.1 he
  have hl : lineE n s y b ss k = 0 := by rw [lineE_zero he, if_neg (by simp [lnB]; omega)]
  obtain ⟨r, t, hr, ht⟩ := good.set_ k
  obtain ⟨h0, h1⟩ := hf.ok hl hr ht
  have e1 : onL k (cpsOf i ss) = ((allW ss).filter (fun x => x.ln == (k : Int))).map fun x => (⟨(i : Int), x⟩ : Cp) := by
    unfold onL cpsOf
    rw [List.filter_map]
    rfl
  have hrow := good.2.2
  have e2 : ss.flatMap (fun t => t.l.filter (hasW k)) = t.l.filter (hasW k) := flatMap_one (f := fun t : St => t.l.filter (hasW k)) ht fun q u hq hne => by
    rw [List.filter_eq_nil_iff]
    intro x hx hw
    obtain ⟨j, hj, e⟩ := List.getElem_of_mem hx
    obtain ⟨w1, w2⟩ := hasW_iff.1 hw
    have := (hrow q u hq).2 j x (by rw [List.getElem?_eq_getElem hj, e]) w1
    rw [w2] at this
    omega
  have gw := (goodW_iff t.l).1 (rowE_ok (hrow r t ht).1).2.2
  rw [e1, onW, e2]
  rcases h1 with ⟨h1, rfl, rfl⟩ | ⟨j, h1, h2, rfl⟩
  · refine ⟨h0, fun _ => rfl, ?_⟩
    rw [List.filter_eq_nil_iff.2]
    · rfl
    · intro x hx hw
      have := idxP_neg.1 (Int.not_le.2 h1) x hx
      rw [this] at hw
      cases hw
  · refine ⟨h0, (fun h => (by cases h)), ?_⟩
    obtain ⟨j', y', h3, h4, h5⟩ := idxP_there (p := hasW k) (l := t.l) (by rw [h1]; omega)
    obtain rfl : j' = j := by omega
    rw [h2] at h4
    cases h4
    rw [filter_one h2 h5 fun q y hq hy => by have := gw.at_ hq hy; omega]
    rfl

theorem onL_append (k : Nat) (P P' : List Cp) : onL k (P ++ P') = onL k P ++ onL k P' := by simp [onL]
theorem copN_get {css : List (List St)} : ∀ {j : Nat} {c : Cp}, j ≤ css.length → c ∈ copN css j → ∃ (i : Nat) (ss : List St), i < j ∧ css[i]? = some ss ∧ c ∈ cpsOf i ss
  | 0, c, _, h => by simp [copN] at h
  | j + 1, c, hj, h => by
    have hx : css[j]? = some css[j] := List.getElem?_eq_getElem _
    rw [copN_succ hx] at h
    rcases List.mem_append.1 h with h | h
    · obtain ⟨i, ss, h1, h2, h3⟩ := copN_get (by omega) h
      exact ⟨i, ss, by omega, h2, h3⟩
    · exact ⟨j, _, by omega, hx, h⟩
theorem cpsOf_nd {i : Nat} {ss : List St} {c : Cp} (h : c ∈ cpsOf i ss) : c.nd = i ∧ c.x.st ≠ 0 := by
  unfold cpsOf at h
  obtain ⟨x, hx, rfl⟩ := List.mem_map.1 h
  refine ⟨rfl, ?_⟩
  obtain ⟨t, _, hm⟩ := List.mem_flatMap.1 hx
  have := (List.mem_filter.1 hm).2
  simpa [heldB] using this
theorem copN_le {css : List (List St)} {i : Nat} {ss : List St} (h : css[i]? = some ss) : ∀ {j : Nat}, i < j → ∀ c ∈ cpsOf i ss, c ∈ copN css j
  | 0, hj, _, _ => absurd hj (by omega)
  | j + 1, hj, c, hc => by
    rw [copN]
    rw [List.mem_append]
    by_cases e : i = j
    · subst e
      right
      simpa [List.getD, h] using hc
    · exact .inl (copN_le h (by omega) c hc)
theorem copN_length {n s y b : Int} {css : List (List St)} (h : ∀ ss ∈ css, cacheE n s y b ss = 0) : ∀ {j : Nat}, j ≤ css.length → (copN css j).length ≤ j * 16
  | 0, _ => by simp [copN]
  | j + 1, hj => by
    have hx : css[j]? = some css[j] := List.getElem?_eq_getElem _
    have h1 := copN_length h (j := j) (by omega)
    have h2 := allW_16 (h _ (List.mem_of_getElem? hx))
    rw [copN_succ hx, List.length_append]
    unfold cpsOf
    rw [List.length_map]
    omega

/-- A node has the line just if its number is among the holders. -/
theorem node_in {n s y b : Int} {css : List (List St)} (h : ∀ ss ∈ css, cacheE n s y b ss = 0) {k i : Nat} {ss : List St} (hi : css[i]? = some ss) (hk : k < 16) {z : Wy} {p : Bool} {E : Int} (hf : FindCIs n s y b ss k z p E) :
    decide ((i : Int) ∈ nodesL (onL k (copN css css.length))) = p ∧ (p = true → (⟨(i : Int), z⟩ : Cp) ∈ onL k (copN css css.length)) := by
  obtain ⟨_, _, h3⟩ := onL_node (i := i) (h ss (List.mem_of_getElem? hi)) hk hf
  have hlt := (List.getElem?_eq_some_iff.1 hi).1
  have hmem : p = true → (⟨(i : Int), z⟩ : Cp) ∈ onL k (copN css css.length) := fun hp => by
    rw [hp, if_pos rfl] at h3
    have hc : (⟨(i : Int), z⟩ : Cp) ∈ onL k (cpsOf i ss) := by rw [h3]; simp
    unfold onL at hc ⊢
    rw [List.mem_filter] at hc ⊢
    exact ⟨copN_le hi hlt _ hc.1, hc.2⟩
  refine ⟨?_, hmem⟩
  cases p
  · rw [decide_eq_false_iff_not]
    intro hm
    unfold nodesL at hm
    obtain ⟨c, hc, e⟩ := List.mem_map.1 hm
    unfold onL at hc
    obtain ⟨hc1, hc2⟩ := List.mem_filter.1 hc
    obtain ⟨i', ss', h4, h5, h6⟩ := copN_get (Nat.le_refl _) hc1
    have := (cpsOf_nd h6).1
    have e' : i' = i := by omega
    subst e'
    rw [hi] at h5
    cases h5
    have : c ∈ onL k (cpsOf i' ss) := by unfold onL; rw [List.mem_filter]; exact ⟨h6, hc2⟩
    rw [h3] at this
    simp at this
  · rw [decide_eq_true_eq]
    unfold nodesL
    exact List.mem_map.2 ⟨_, hmem rfl, rfl⟩

/-- What a line without error is. -/
theorem lnE_ok {l : List Cp} {d : L4} (h : lnE l d = 0) : pairsB l = true ∧ sameD l = true ∧ (ownN l < 0 → valL l d = d) := by
  unfold lnE at h
  cases h1 : pairsB l
  · rw [if_pos h1] at h; omega
  · rw [if_neg (by rw [h1]; decide)] at h
    cases h2 : sameD l
    · rw [if_pos h2] at h; omega
    · rw [if_neg (by rw [h2]; decide)] at h
      refine ⟨rfl, rfl, fun ho => ?_⟩
      by_cases h3 : ownN l < 0 ∧ eq4 (valL l d) d = false
      · rw [if_pos h3] at h; omega
      · cases h4 : eq4 (valL l d) d
        · exact absurd ⟨ho, h4⟩ h3
        · exact eq4_iff.1 h4
theorem val_of {l : List Cp} {d : L4} (h : sameD l = true) {c : Cp} (hc : c ∈ l) : c.x.dat = valL l d := by
  obtain ⟨i, hi, e⟩ := List.getElem_of_mem hc
  have h1 := eq4_iff.1 (sameD_iff.1 h i hi)
  rw [datA_at (c := c) (by rw [List.getElem?_eq_getElem hi, e])] at h1
  rw [h1]
  cases l with
  | nil => simp at hi
  | cons a r => rfl
theorem own_in (l : List Cp) (hn : ∀ c ∈ l, 0 ≤ c.nd) : ownN l < 0 ∨ (0 ≤ ownN l ∧ ownN l ∈ nodesL l) := by
  unfold ownN
  cases h : l.find? (fun c => owB c.x.st) with
  | none => left; simp
  | some c =>
    right
    have hm := List.mem_of_find?_eq_some h
    exact ⟨hn c hm, List.mem_map.2 ⟨c, hm, rfl⟩⟩
/-- Who may write is alone. -/
theorem writers_few {l : List Cp} (h : pairsB l = true) (hs : ∀ c ∈ l, c.x.st ≠ 0) : l.countP (fun c => wrB c.x.st) ≤ 1 ∧ (l.countP (fun c => wrB c.x.st) = 0 ∨ l.length = 1) := by
  by_cases h0 : l.countP (fun c => wrB c.x.st) = 0
  · exact ⟨by omega, .inl h0⟩
  · obtain ⟨c, hc, hw⟩ := List.countP_pos_iff.1 (by omega : 0 < l.countP (fun c => wrB c.x.st))
    obtain ⟨i, hi, e⟩ := List.getElem_of_mem hc
    have hst : stA l i = c.x.st := stA_at (by rw [List.getElem?_eq_getElem hi, e])
    have hw' : c.x.st = 2 ∨ c.x.st = 4 := by simpa [wrB] using hw
    have one : l.length = 1 := by
      refine Classical.byContradiction fun hne => ?_
      obtain ⟨j, hj, hij⟩ : ∃ j, j < l.length ∧ j ≠ i := by
        by_cases e0 : i = 0
        · exact ⟨1, by omega, by omega⟩
        · exact ⟨0, by omega, by omega⟩
      have hsj : stA l j ≠ 0 := by
        rw [stA_at (List.getElem?_eq_getElem hj)]
        exact hs _ (List.getElem_mem _)
      have hp := pairsB_iff.1 h
      by_cases hlt : j < i
      · have := hp i j hi hlt
        rw [hst] at this
        simp [bsB] at this
        omega
      · have := hp j i hj (by omega)
        rw [hst] at this
        simp [bsB] at this
        omega
    have := List.countP_le_length (p := fun c : Cp => wrB c.x.st) (l := l)
    exact ⟨by omega, .inr one⟩
end Go.Proofs.Ytmodajmjmdigfaa
