/-
Proved: facts on lists of ways: when a set is right, where a line is, what putting and taking change. No condition.
-/
import Derived.Test.YtmodajmjmdigfaaRow3
namespace Go.Proofs.Ytmodajmjmdigfaa

/-- Each way is right by itself, and no line is there twice. -/
def GoodW (l : List Wy) : Prop :=
  (∀ (q : Nat) x, l[q]? = some x → wayE x = 0) ∧ ∀ (p q : Nat) x y, p < q → l[p]? = some x → l[q]? = some y → x.st ≠ 0 → y.st ≠ 0 → x.ln ≠ y.ln

theorem hasW_iff {m : Int} {x : Wy} : hasW m x = true ↔ x.st ≠ 0 ∧ x.ln = m := by simp [hasW]
theorem hasW_no {m : Int} {x : Wy} : hasW m x = false ↔ (x.st ≠ 0 → x.ln ≠ m) := by
  rw [← Bool.not_eq_true, hasW_iff]
  exact ⟨fun h a b => h ⟨a, b⟩, fun h k => h k.1 k.2⟩

theorem idxP_neg {p : Wy → Bool} {l : List Wy} : (¬ 0 ≤ idxP p l) ↔ ∀ x ∈ l, p x = false := by
  rcases idxP_cases p l with ⟨e, h⟩ | ⟨k, x, e, hx, hp, _⟩
  · rw [e]; exact ⟨fun _ => h, fun _ => by decide⟩
  · rw [e]
    refine ⟨fun h => absurd (Int.natCast_nonneg k) h, fun h => ?_⟩
    rw [h x (List.mem_of_getElem? hx)] at hp
    cases hp

theorem waysE_zero : ∀ (l pre : List Wy), waysE pre l = 0 ↔ ∀ (k : Nat) x, l[k]? = some x → wayE x = 0 ∧ (x.st ≠ 0 → ∀ y ∈ pre ++ l.take k, hasW x.ln y = false)
  | [], pre => by simp [waysE]
  | x :: r, pre => by
    rw [waysE]
    have ih := waysE_zero r (pre ++ [x])
    constructor
    · intro h k y hy
      by_cases h1 : wayE x ≠ 0
      · rw [if_pos h1] at h; exact absurd h h1
      · rw [if_neg h1] at h
        by_cases h2 : (x.st != 0 && decide (0 ≤ idxP (hasW x.ln) pre)) = true
        · rw [if_pos h2] at h; cases h
        · rw [if_neg h2] at h
          cases k with
          | zero =>
            simp at hy
            subst hy
            refine ⟨by simpa using h1, fun hs z hz => ?_⟩
            simp only [List.take_zero, List.append_nil] at hz
            refine idxP_neg.1 (fun h0 => h2 ?_) z hz
            simp [hs, h0]
          | succ k =>
            obtain ⟨a1, a2⟩ := ih.1 h k y (by simpa using hy)
            refine ⟨a1, fun hs z hz => a2 hs z ?_⟩
            simpa using hz
    · intro h
      obtain ⟨b1, b2⟩ := h 0 x rfl
      rw [if_neg (by simp [b1]), if_neg]
      · refine ih.2 fun k y hy => ?_
        obtain ⟨a1, a2⟩ := h (k + 1) y (by simpa using hy)
        exact ⟨a1, fun hs z hz => a2 hs z (by simpa using hz)⟩
      · intro h2
        rw [Bool.and_eq_true, decide_eq_true_iff] at h2
        have hs : x.st ≠ 0 := by simpa using h2.1
        exact idxP_neg.2 (fun y hy => b2 hs y (by simpa using hy)) h2.2

theorem goodW_iff (l : List Wy) : waysE [] l = 0 ↔ GoodW l := by
  rw [waysE_zero]
  constructor
  · refine fun h => ⟨fun q x hx => (h q x hx).1, fun p q x y hpq hx hy sx sy e => ?_⟩
    have := (h q y hy).2 sy x (by
      rw [List.nil_append]
      exact List.mem_of_getElem? (i := p) (by rw [List.getElem?_take, if_pos hpq]; exact hx))
    exact hasW_no.1 this sx e
  · refine fun h k x hx => ⟨h.1 k x hx, fun hs y hy => hasW_no.2 fun sy e => ?_⟩
    rw [List.nil_append] at hy
    obtain ⟨p, hp, e'⟩ := List.getElem_of_mem hy
    have hpk : p < k := by simp at hp; omega
    have hy' : l[p]? = some y := by
      have : (l.take k)[p]? = some y := by rw [List.getElem?_eq_getElem hp, e']
      rwa [List.getElem?_take, if_pos hpk] at this
    exact h.2 p k y x hpk hy' hx sy hs e

/-- A line is in one place. -/
theorem GoodW.at_ {l : List Wy} (h : GoodW l) {m : Int} {q : Nat} {x : Wy} (hx : l[q]? = some x) (hm : hasW m x = true) : idxP (hasW m) l = q := by
  refine idxP_some (fun j y hj hy => ?_) hx hm
  refine hasW_no.2 fun sy e => ?_
  obtain ⟨sx, ex⟩ := hasW_iff.1 hm
  exact h.2 j q y x hj hy hx sy sx (e.trans ex.symm)

/-- Another line is in another place. -/
theorem GoodW.other {l : List Wy} (h : GoodW l) {m : Int} {q j : Nat} {x y : Wy} (hx : l[q]? = some x) (hm : hasW m x = true) (hy : l[j]? = some y) (hj : j ≠ q) : hasW m y = false := by
  cases e : hasW m y
  · rfl
  · have h1 := h.at_ hx hm
    rw [h.at_ hy e] at h1
    omega

theorem wayE_of {x : Wy} (h : hlB x = true) : wayE x = 0 ∧ x.st ≠ 0 := by
  simp only [hlB, Bool.and_eq_true] at h
  obtain ⟨h1, h2⟩ := h
  have hr : 1 ≤ x.st ∧ x.st ≤ 4 := by simpa [rdB] using h1
  have hs : stB x.st = true := decide_eq_true (by omega)
  refine ⟨?_, by omega⟩
  unfold wayE
  rw [if_pos ⟨hs, h2⟩, if_neg (fun k => by omega)]

/-- What is there in a list in which one is replaced. -/
theorem set_get {l : List Wy} {k q : Nat} {x z : Wy} (h : (l.set k x)[q]? = some z) : (q = k ∧ z = x) ∨ (q ≠ k ∧ l[q]? = some z) := by
  by_cases e : q = k
  · subst e
    have hk : q < l.length := by
      have := set_lt h
      simpa using this
    rw [List.getElem?_set_self hk] at h
    cases h
    exact .inl ⟨rfl, rfl⟩
  · rw [List.getElem?_set_ne (fun h => e h.symm)] at h
    exact .inr ⟨e, h⟩

theorem GoodW.put {l : List Wy} (h : GoodW l) {k : Nat} {x : Wy} (hx : hlB x = true) (hn : ∀ y ∈ l, hasW x.ln y = false) : GoodW (l.set k x) := by
  refine ⟨fun q z hz => ?_, fun p q z u hpq hz hu sz su => ?_⟩
  · rcases set_get hz with ⟨_, rfl⟩ | ⟨_, hz⟩
    · exact (wayE_of hx).1
    · exact h.1 q z hz
  · rcases set_get hz with ⟨e1, d1⟩ | ⟨_, z2⟩ <;> rcases set_get hu with ⟨e2, d2⟩ | ⟨_, u2⟩
    · omega
    · rw [d1]; exact fun e => hasW_no.1 (hn u (List.mem_of_getElem? u2)) su e.symm
    · rw [d2]; exact fun e => hasW_no.1 (hn z (List.mem_of_getElem? z2)) sz e
    · exact h.2 p q z u hpq z2 u2 sz su

theorem GoodW.drop_ {l : List Wy} (h : GoodW l) (k : Nat) : GoodW (l.set k wy0) := by
  refine ⟨fun q z hz => ?_, fun p q z u hpq hz hu sz su => ?_⟩
  · rcases set_get hz with ⟨_, rfl⟩ | ⟨_, hz⟩
    · decide
    · exact h.1 q z hz
  · rcases set_get hz with ⟨e1, rfl⟩ | ⟨_, hz⟩
    · exact absurd rfl sz
    · rcases set_get hu with ⟨e2, rfl⟩ | ⟨_, hu⟩
      · exact absurd rfl su
      · exact h.2 p q z u hpq hz hu sz su

theorem idxP_map {p : Wy → Bool} : ∀ {l l' : List Wy}, l.map p = l'.map p → idxP p l = idxP p l' := by
  intro l l' h
  have e : ∀ m : List Wy, m.findIdx? p = (m.map p).findIdx? id := by
    intro m
    rw [List.findIdx?_map]
    rfl
  unfold idxP
  rw [e l, e l', h]

theorem idxP_set {p : Wy → Bool} {l : List Wy} {k : Nat} {x y : Wy} (hy : l[k]? = some y) (h : p x = p y) : idxP p (l.set k x) = idxP p l := by
  refine idxP_map (List.ext_getElem? fun q => ?_)
  rw [List.getElem?_map, List.getElem?_map]
  by_cases e : q = k
  · subst e
    rw [List.getElem?_set_self (set_lt hy), hy]
    simp [h]
  · rw [List.getElem?_set_ne (fun h => e h.symm)]

theorem touch_keeps {a b c : Bool} {n k : Int} (h : treeE a b c n = 0) (h0 : 0 ≤ k) (h1 : k < n) : treeE (touchT a b c n k).1 (touchT a b c n k).2.1 (touchT a b c n k).2.2 n = 0 := by
  obtain ⟨hn1, hn4⟩ := treeE_range h
  have hn : n = 1 ∨ n = 2 ∨ n = 3 ∨ n = 4 := by omega
  have hk : k = 0 ∨ k = 1 ∨ k = 2 ∨ k = 3 := by omega
  rcases hn with rfl | rfl | rfl | rfl <;> rcases hk with rfl | rfl | rfl | rfl <;> first | omega | (revert h; cases a <;> cases b <;> cases c <;> decide)

theorem rowE_zero {l : List Wy} {a b c : Bool} {n : Int} (h1 : treeE a b c n = 0) (h2 : (l.length : Int) = n) (h3 : GoodW l) : rowE l a b c n = 0 := by
  unfold rowE
  rw [if_neg (by simp [h1]), if_neg (by simp [h2])]
  exact (goodW_iff l).2 h3

/-- What holds behind a put: all that RowTurns asks. -/
theorem put_facts {l : List Wy} {a b c : Bool} {n : Int} {x : Wy} {k : Nat} {y : Wy} (he : putE l a b c n x = 0) (hy : l[k]? = some y) :
    rowE l a b c n = 0 ∧ rowE (l.set k x) (touchT a b c n k).1 (touchT a b c n k).2.1 (touchT a b c n k).2.2 n = 0 ∧ idxP (hasW x.ln) (l.set k x) = k ∧ (l.set k x)[k]? = some x ∧
    rowE ((l.set k x).set k wy0) (touchT a b c n k).1 (touchT a b c n k).2.1 (touchT a b c n k).2.2 n = 0 ∧ idxP (hasW x.ln) ((l.set k x).set k wy0) = -1 ∧
    ∀ m : Int, m = x.ln ∨ (y.st ≠ 0 ∧ m = y.ln ∧ idxP (hasW m) (l.set k x) < 0 ∧ 0 ≤ idxP (hasW m) l) ∨ idxP (hasW m) (l.set k x) = idxP (hasW m) l := by
  obtain ⟨e1, e2, e3⟩ := putE_ok he
  obtain ⟨t0, t1, t2⟩ := rowE_ok e1
  have good := (goodW_iff l).1 t2
  have none := idxP_neg.1 (show ¬ 0 ≤ idxP (hasW x.ln) l by omega)
  have hkl := set_lt hy
  have good1 := good.put (k := k) e2 none
  obtain ⟨_, sx⟩ := wayE_of e2
  have hx : (l.set k x)[k]? = some x := List.getElem?_set_self hkl
  have tk := touch_keeps t0 (show (0 : Int) ≤ k by omega) (show (k : Int) < n by omega)
  have hxx : hasW x.ln x = true := hasW_iff.2 ⟨sx, rfl⟩
  refine ⟨e1, rowE_zero tk (by simpa using t1) good1, good1.at_ hx hxx, hx, rowE_zero tk (by simpa using t1) (good1.drop_ k), ?_, fun m => ?_⟩
  · refine idxP_none fun q z hz => ?_
    rcases set_get hz with ⟨_, rfl⟩ | ⟨hq, hz⟩
    · rfl
    · exact good1.other hx hxx hz hq
  · by_cases hm : m = x.ln
    · exact .inl hm
    · refine .inr ?_
      have hxm : hasW m x = false := hasW_no.2 fun _ e => hm e.symm
      cases hym : hasW m y
      · exact .inr (idxP_set hy (hxm.trans hym.symm))
      · obtain ⟨sy, ey⟩ := hasW_iff.1 hym
        refine .inl ⟨sy, ey.symm, ?_, ?_⟩
        · rw [idxP_none]
          · decide
          · intro q z hz
            rcases set_get hz with ⟨_, rfl⟩ | ⟨hq, hz⟩
            · exact hxm
            · exact good.other hy hym hz hq
        · rw [good.at_ hy hym]
          omega

theorem idxP_there {p : Wy → Bool} {l : List Wy} (h : 0 ≤ idxP p l) : ∃ (k : Nat) (y : Wy), idxP p l = k ∧ l[k]? = some y ∧ p y = true := by
  rcases idxP_cases p l with ⟨e, _⟩ | ⟨k, x, e, hx, hp, _⟩
  · rw [e] at h; omega
  · exact ⟨k, x, e, hx, hp⟩
end Go.Proofs.Ytmodajmjmdigfaa
