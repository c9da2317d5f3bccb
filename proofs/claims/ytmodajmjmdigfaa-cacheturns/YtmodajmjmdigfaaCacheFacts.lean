/-
Proved: what Find of package cache returns, in one form for every case; facts on lists of sets: what putting a line changes. No condition.
-/
import Derived.Test.YtmodajmjmdigfaaCache5
namespace Go.Proofs.Ytmodajmjmdigfaa
open Go.ChangeShapes Go.WideShapes Go.ChangeAt Go.RowKit Go.Joins

/-- What Find gives. -/
def FindCIs (n s y b : Int) (ss : List St) (m : Int) (z : Wy) (p : Bool) (E : Int) : Prop :=
  E = lineE n s y b ss m ∧ ((E ≠ 0 ∧ z = wy0 ∧ p = false) ∨ (E = 0 ∧ ∃ (k : Nat) (t : St), m % s = k ∧ ss[k]? = some t ∧
    ((idxP (hasW m) t.l < 0 ∧ z = wy0 ∧ p = false) ∨ ∃ j : Nat, idxP (hasW m) t.l = j ∧ t.l[j]? = some z ∧ p = true)))

theorem cacheFind_is (n s y b : Int) (v : Value) (ss : List St) (m : Int) : ∃ z p E, FindCIs n s y b ss m z p E ∧ ∀ w, Cs w v ss →
    Calls Try.prog 15 #[cfg n s y b, v, .int .i64 m] w fun e w' => e = .returned (.tuple #[z.val, .bool p, .int .i64 E]) ∧ Below w.heap.size w w' := by
  by_cases he : lineE n s y b ss m = 0
  · obtain ⟨g1, g2, g3⟩ := lineE_ok he
    obtain ⟨k, t, hk, ht⟩ := (goodC_iff.1 g1).set_ m
    by_cases hf : idxP (hasW m) t.l < 0
    · exact ⟨wy0, false, 0, ⟨he.symm, .inr ⟨rfl, k, t, hk, ht, .inl ⟨hf, rfl, rfl⟩⟩⟩, fun w h => cacheFind_none n s y b v ss m k t w h he hk ht hf⟩
    · obtain ⟨j, x, hj, hx, _⟩ := idxP_there (Int.not_lt.1 hf)
      exact ⟨x, true, 0, ⟨he.symm, .inr ⟨rfl, k, t, hk, ht, .inr ⟨j, hj, hx, rfl⟩⟩⟩, fun w h => cacheFind_some n s y b v ss m k t j x w h he hk ht hj hx⟩
  · exact ⟨wy0, false, _, ⟨rfl, .inl ⟨he, rfl, rfl⟩⟩, fun w h => cacheFind_bad n s y b v ss m w h he⟩

theorem st_get {ss : List St} {k q : Nat} {t u : St} (h : (ss.set k u)[q]? = some t) : (q = k ∧ t = u) ∨ (q ≠ k ∧ ss[q]? = some t) := by
  by_cases e : q = k
  · subst e
    have := st_lt h
    rw [List.length_set] at this
    rw [List.getElem?_set_self this] at h
    cases h
    exact .inl ⟨rfl, rfl⟩
  · rw [List.getElem?_set_ne (fun h => e h.symm)] at h
    exact .inr ⟨e, h⟩

theorem lineE_zero {n s y b : Int} {ss : List St} (h : cacheE n s y b ss = 0) (m : Int) : lineE n s y b ss m = if lnB m = false then 4 else 0 := by
  unfold lineE
  rw [if_neg (by simp [h])]

theorem FindCIs.ok {n s y b : Int} {ss : List St} {m : Int} {z : Wy} {p : Bool} {E : Int} (h : FindCIs n s y b ss m z p E) {k : Nat} {t : St} (he : lineE n s y b ss m = 0) (hk : m % s = k) (ht : ss[k]? = some t) :
    E = 0 ∧ ((idxP (hasW m) t.l < 0 ∧ z = wy0 ∧ p = false) ∨ ∃ j : Nat, idxP (hasW m) t.l = j ∧ t.l[j]? = some z ∧ p = true) := by
  obtain ⟨h1, h2⟩ := h
  rw [he] at h1
  rcases h2 with ⟨h2, _⟩ | ⟨_, k', t', hk', ht', h3⟩
  · exact absurd h1 h2
  · have : k' = k := by omega
    subst this
    rw [ht] at ht'
    cases ht'
    exact ⟨h1, h3⟩

/-- Find gives one answer. -/
theorem FindCIs.only {n s y b : Int} {ss : List St} {m : Int} {z z' : Wy} {p p' : Bool} {E E' : Int} (h : FindCIs n s y b ss m z p E) (h' : FindCIs n s y b ss m z' p' E') : z' = z ∧ p' = p ∧ E' = E := by
  obtain ⟨rfl, h1⟩ := h
  obtain ⟨rfl, h2⟩ := h'
  rcases h1 with ⟨e1, rfl, rfl⟩ | ⟨e1, k, t, hk, ht, h1⟩
  · rcases h2 with ⟨_, rfl, rfl⟩ | ⟨e2, _⟩
    · exact ⟨rfl, rfl, rfl⟩
    · exact absurd e2 e1
  · rcases h2 with ⟨e2, _⟩ | ⟨_, k', t', hk', ht', h2⟩
    · exact absurd e1 e2
    · obtain rfl : k' = k := by omega
      rw [ht] at ht'
      cases ht'
      rcases h1 with ⟨a1, rfl, rfl⟩ | ⟨j, a1, a2, rfl⟩
      · rcases h2 with ⟨b1, rfl, rfl⟩ | ⟨j', b1, b2, rfl⟩
        · exact ⟨rfl, rfl, rfl⟩
        · omega
      · rcases h2 with ⟨b1, rfl, rfl⟩ | ⟨j', b1, b2, rfl⟩
        · omega
        · obtain rfl : j' = j := by omega
          rw [a2] at b2
          cases b2
          exact ⟨rfl, rfl, rfl⟩

/-- A set is replaced by one that is right and holds no line of another set. -/
theorem GoodC.replace_ {n s y b : Int} {ss : List St} (h : GoodC n s y b ss) {k : Nat} {u : St} (hr : rowE u.l u.a u.b u.c y = 0) (ho : ∀ (j : Nat) x, u.l[j]? = some x → x.st ≠ 0 → x.ln % s = k) : GoodC n s y b (ss.set k u) := by
  obtain ⟨h1, h2, h3⟩ := h
  refine ⟨h1, by rw [List.length_set]; exact h2, fun q t hq => ?_⟩
  rcases st_get hq with ⟨rfl, rfl⟩ | ⟨_, hq⟩
  · exact ⟨hr, ho⟩
  · exact h3 q t hq

theorem cput_facts {n s y b : Int} {ss : List St} {x : Wy} {k : Nat} {t : St} {j : Nat} {old : Wy} (he : wayCE n s y b ss x = 0) (hk : x.ln % s = k) (ht : ss[k]? = some t) (hp : putE t.l t.a t.b t.c y x = 0) (hj : t.l[j]? = some old) (sa : List St)
    (hsa : sa = ss.set k ⟨t.l.set j x, (touchT t.a t.b t.c y j).1, (touchT t.a t.b t.c y j).2.1, (touchT t.a t.b t.c y j).2.2⟩) :
    cacheE n s y b sa = 0 ∧ (∀ z p E, FindCIs n s y b sa x.ln z p E → z = x ∧ p = true ∧ E = 0) ∧
    ∀ m z1 p1 E1 z2 p2 E2, FindCIs n s y b sa m z1 p1 E1 → FindCIs n s y b ss m z2 p2 E2 → E1 = E2 ∧ (m = x.ln ∨ (old.st ≠ 0 ∧ m = old.ln ∧ p1 = false ∧ p2 = true) ∨ (z1 = z2 ∧ p1 = p2)) := by
  obtain ⟨g1, g2⟩ := wayCE_ok he
  have good := goodC_iff.1 g1
  obtain ⟨f1, f2, f3, f4, _, _, f7⟩ := put_facts hp hj
  have kl := st_lt ht
  have hu : sa[k]? = some ⟨t.l.set j x, (touchT t.a t.b t.c y j).1, (touchT t.a t.b t.c y j).2.1, (touchT t.a t.b t.c y j).2.2⟩ := by rw [hsa, List.getElem?_set_self kl]
  have goodA : GoodC n s y b sa := by
    rw [hsa]
    refine good.replace_ f2 fun q z hz sz => ?_
    rcases set_get hz with ⟨_, rfl⟩ | ⟨_, hz⟩
    · exact hk
    · exact (good.2.2 k t ht).2 q z hz sz
  have cA := goodC_iff.2 goodA
  have hx := hlB_line g2
  refine ⟨cA, fun z p E hf => ?_, fun m z1 p1 E1 z2 p2 E2 h1 h2 => ?_⟩
  · have hl : lineE n s y b sa x.ln = 0 := by rw [lineE_zero cA, if_neg (by rw [lnB_iff.2 hx]; decide)]
    obtain ⟨e0, hf⟩ := hf.ok hl hk hu
    rcases hf with ⟨hf, _⟩ | ⟨i, hi, hz, hp⟩
    · exfalso; dsimp only at hf; rw [f3] at hf; omega
    · dsimp only at hi hz
      rw [f3] at hi
      have : i = j := by omega
      subst this
      rw [f4] at hz
      cases hz
      exact ⟨rfl, hp, e0⟩
  · cases hm : lnB m
    · have e1 : E1 = 4 := by have := h1.1; rwa [lineE_zero cA, if_pos hm] at this
      have e2 : E2 = 4 := by have := h2.1; rwa [lineE_zero g1, if_pos hm] at this
      refine ⟨e1.trans e2.symm, .inr (.inr ?_)⟩
      obtain ⟨_, ⟨_, a1, a2⟩ | ⟨a0, _⟩⟩ := h1
      · obtain ⟨_, ⟨_, b1, b2⟩ | ⟨b0, _⟩⟩ := h2
        · exact ⟨a1.trans b1.symm, a2.trans b2.symm⟩
        · omega
      · omega
    · have l1 : lineE n s y b sa m = 0 := by rw [lineE_zero cA, if_neg (by rw [hm]; decide)]
      have l2 : lineE n s y b ss m = 0 := by rw [lineE_zero g1, if_neg (by rw [hm]; decide)]
      obtain ⟨q, t2, hq, ht2⟩ := good.set_ m
      obtain ⟨e2, h2⟩ := h2.ok l2 hq ht2
      by_cases hqk : q = k
      · subst hqk
        rw [ht] at ht2
        cases ht2
        obtain ⟨e1, h1⟩ := h1.ok l1 hq hu
        dsimp only at h1
        refine ⟨e1.trans e2.symm, ?_⟩
        rcases f7 m with c | ⟨c1, c2, c3, c4⟩ | c
        · exact .inl c
        · refine .inr (.inl ⟨c1, c2, ?_, ?_⟩)
          · rcases h1 with ⟨_, _, h⟩ | ⟨i, hi, _⟩
            · exact h
            · omega
          · rcases h2 with ⟨h, _⟩ | ⟨i, _, _, h⟩
            · omega
            · exact h
        · rcases h1 with ⟨a1, a2, a3⟩ | ⟨i, hi, hz, a3⟩
          · rcases h2 with ⟨b1, b2, b3⟩ | ⟨i', hi', _⟩
            · exact .inr (.inr ⟨a2.trans b2.symm, a3.trans b3.symm⟩)
            · omega
          · rcases h2 with ⟨b1, b2, b3⟩ | ⟨i', hi', hz', b3⟩
            · omega
            · have : i' = i := by omega
              subst this
              rcases set_get hz with ⟨rfl, rfl⟩ | ⟨_, hz⟩
              · left
                obtain ⟨k2, y2, e2, hy2, hp2⟩ := idxP_there (p := hasW m) (l := t.l.set i' z1) (by omega)
                have : k2 = i' := by omega
                subst this
                rw [f4] at hy2
                cases hy2
                exact (hasW_iff.1 hp2).2.symm
              · rw [hz] at hz'
                cases hz'
                exact .inr (.inr ⟨rfl, a3.trans b3.symm⟩)
      · have ht1 : sa[q]? = some t2 := by rw [hsa, List.getElem?_set_ne (fun h => hqk h.symm)]; exact ht2
        obtain ⟨e1, h1⟩ := h1.ok l1 hq ht1
        refine ⟨e1.trans e2.symm, .inr (.inr ?_)⟩
        rcases h1 with ⟨a1, a2, a3⟩ | ⟨i, hi, hz, a3⟩
        · rcases h2 with ⟨b1, b2, b3⟩ | ⟨i', hi', _⟩
          · exact ⟨a2.trans b2.symm, a3.trans b3.symm⟩
          · omega
        · rcases h2 with ⟨b1, b2, b3⟩ | ⟨i', hi', hz', b3⟩
          · omega
          · have : i' = i := by omega
            subst this
            rw [hz] at hz'
            cases hz'
            exact ⟨rfl, a3.trans b3.symm⟩
end Go.Proofs.Ytmodajmjmdigfaa
