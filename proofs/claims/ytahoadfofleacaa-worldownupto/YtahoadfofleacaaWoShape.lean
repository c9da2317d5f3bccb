/-
Proved: words for what lies in new memory, without what the ways hold; a way's line that is stored anew leaves them as they are; what Do and Play of package deed and Put and Take of package cache give, in these words. No condition.
-/
import Derived.Test.YtahoadfofleacaaDeedPlay2
namespace Go.Proofs.Ytahoadfofleacaa
open Go.ChangeShapes Go.WideShapes Go.ChangeAt Go.RowKit Go.Joins

theorem box_ne {w : World} {g g' : Nat} {t t' : TypeId} {cs cs' : Array Value} (h : Box w g t cs) (h' : Box w g' t' cs') (ht : t ≠ t') : g ≠ g' := by
  rintro rfl
  unfold Box at h h'
  rw [h] at h'
  cases h'
  exact ht rfl

/-- A slice of ways, of sets, of caches in blocks from 'B' on. -/
structure ShW (w : World) (B : Nat) (v : Value) (n : Nat) : Prop where
  ex : (v = .slice none 0 0 ∧ n = 0) ∨ ∃ g cap cur, v = .slice (some ⟨g, 0, none⟩) n cap ∧ B ≤ g ∧ Box w g 51 cur ∧ n ≤ cap ∧ cap ≤ maxLen ∧ ∀ q, q < n → ∃ z : Int, cur[q * 6 + 1]? = some (.int .i64 z)
structure ShR (w : World) (B : Nat) (v : Value) (n : Nat) : Prop where
  ex : (v = .slice none 0 0 ∧ n = 0) ∨ ∃ g cap cur, v = .slice (some ⟨g, 0, none⟩) n cap ∧ B ≤ g ∧ Box w g 78 cur ∧ n ≤ cap ∧ cap ≤ maxLen ∧
    ∀ q, q < n → ∃ u k a b c, cur[q * 4]? = some u ∧ cur[q * 4 + 1]? = some (.bool a) ∧ cur[q * 4 + 2]? = some (.bool b) ∧ cur[q * 4 + 3]? = some (.bool c) ∧ ShW w B u k
structure ShC (w : World) (B : Nat) (v : Value) (n : Nat) : Prop where
  ex : (v = .slice none 0 0 ∧ n = 0) ∨ ∃ g cap cur, v = .slice (some ⟨g, 0, none⟩) n cap ∧ B ≤ g ∧ Box w g 55 cur ∧ n ≤ cap ∧ cap ≤ maxLen ∧ ∀ q, q < n → ∃ u k, cur[q]? = some u ∧ ShR w B u k

section
variable {w w' : World} {B B' : Nat} {v : Value} {n : Nat}
theorem ShW.nil (w : World) (B : Nat) : ShW w B (.slice none 0 0) 0 := ⟨.inl ⟨rfl, rfl⟩⟩
theorem ShR.nil (w : World) (B : Nat) : ShR w B (.slice none 0 0) 0 := ⟨.inl ⟨rfl, rfl⟩⟩
theorem ShC.nil (w : World) (B : Nat) : ShC w B (.slice none 0 0) 0 := ⟨.inl ⟨rfl, rfl⟩⟩
theorem ShW.call (h : ShW w B v n) (hb : Below w.heap.size w w') : ShW w' B v n := by
  rcases h with ⟨h | ⟨g, cap, cur, e, h1, h2, h3⟩⟩
  · exact ⟨.inl h⟩
  · exact ⟨.inr ⟨g, cap, cur, e, h1, h2.call hb, h3⟩⟩
theorem ShR.call (h : ShR w B v n) (hb : Below w.heap.size w w') : ShR w' B v n := by
  rcases h with ⟨h | ⟨g, cap, cur, e, h1, h2, h3, h4, h5⟩⟩
  · exact ⟨.inl h⟩
  · refine ⟨.inr ⟨g, cap, cur, e, h1, h2.call hb, h3, h4, fun q hq => ?_⟩⟩
    obtain ⟨u, k, a, b, c, k0, k1, k2, k3, k4⟩ := h5 q hq
    exact ⟨u, k, a, b, c, k0, k1, k2, k3, k4.call hb⟩
theorem ShC.call (h : ShC w B v n) (hb : Below w.heap.size w w') : ShC w' B v n := by
  rcases h with ⟨h | ⟨g, cap, cur, e, h1, h2, h3, h4, h5⟩⟩
  · exact ⟨.inl h⟩
  · refine ⟨.inr ⟨g, cap, cur, e, h1, h2.call hb, h3, h4, fun q hq => ?_⟩⟩
    obtain ⟨u, k, k0, k1⟩ := h5 q hq
    exact ⟨u, k, k0, k1.call hb⟩
theorem ShW.more (h : ShW w B v n) (hB : B' ≤ B) : ShW w B' v n := by
  rcases h with ⟨h | ⟨g, cap, cur, e, h1, h2⟩⟩
  · exact ⟨.inl h⟩
  · exact ⟨.inr ⟨g, cap, cur, e, Nat.le_trans hB h1, h2⟩⟩
theorem ShR.more (h : ShR w B v n) (hB : B' ≤ B) : ShR w B' v n := by
  rcases h with ⟨h | ⟨g, cap, cur, e, h1, h2, h3, h4, h5⟩⟩
  · exact ⟨.inl h⟩
  · refine ⟨.inr ⟨g, cap, cur, e, Nat.le_trans hB h1, h2, h3, h4, fun q hq => ?_⟩⟩
    obtain ⟨u, k, a, b, c, k0, k1, k2, k3, k4⟩ := h5 q hq
    exact ⟨u, k, a, b, c, k0, k1, k2, k3, k4.more hB⟩
theorem ShC.more (h : ShC w B v n) (hB : B' ≤ B) : ShC w B' v n := by
  rcases h with ⟨h | ⟨g, cap, cur, e, h1, h2, h3, h4, h5⟩⟩
  · exact ⟨.inl h⟩
  · refine ⟨.inr ⟨g, cap, cur, e, Nat.le_trans hB h1, h2, h3, h4, fun q hq => ?_⟩⟩
    obtain ⟨u, k, k0, k1⟩ := h5 q hq
    exact ⟨u, k, k0, k1.more hB⟩

theorem ShW.shape (h : ShW w B v n) : ∃ A c, v = .slice A n c := by
  rcases h with ⟨⟨rfl, rfl⟩ | ⟨g, cap, cur, e, _⟩⟩
  · exact ⟨_, _, rfl⟩
  · exact ⟨_, _, e⟩
theorem ShR.shape (h : ShR w B v n) : ∃ A c, v = .slice A n c := by
  rcases h with ⟨⟨rfl, rfl⟩ | ⟨g, cap, cur, e, _⟩⟩
  · exact ⟨_, _, rfl⟩
  · exact ⟨_, _, e⟩

/-! What keeps the blocks keeps the words. -/
theorem ShW.map (h : ShW w B v n) (hk : ∀ g t cs, B ≤ g → t ≠ 31 → Box w g t cs → Box w' g t cs) : ShW w' B v n := by
  rcases h with ⟨h | ⟨g, cap, cur, e, h1, h2, h3⟩⟩
  · exact ⟨.inl h⟩
  · exact ⟨.inr ⟨g, cap, cur, e, h1, hk g _ cur h1 (by decide) h2, h3⟩⟩
theorem ShR.map (h : ShR w B v n) (hk : ∀ g t cs, B ≤ g → t ≠ 31 → Box w g t cs → Box w' g t cs) : ShR w' B v n := by
  rcases h with ⟨h | ⟨g, cap, cur, e, h1, h2, h3, h4, h5⟩⟩
  · exact ⟨.inl h⟩
  · refine ⟨.inr ⟨g, cap, cur, e, h1, hk g _ cur h1 (by decide) h2, h3, h4, fun q hq => ?_⟩⟩
    obtain ⟨u, k, a, b, c, k0, k1, k2, k3, k4⟩ := h5 q hq
    exact ⟨u, k, a, b, c, k0, k1, k2, k3, k4.map hk⟩
theorem ShC.map (h : ShC w B v n) (hk : ∀ g t cs, B ≤ g → t ≠ 31 → Box w g t cs → Box w' g t cs) : ShC w' B v n := by
  rcases h with ⟨h | ⟨g, cap, cur, e, h1, h2, h3, h4, h5⟩⟩
  · exact ⟨.inl h⟩
  · refine ⟨.inr ⟨g, cap, cur, e, h1, hk g _ cur h1 (by decide) h2, h3, h4, fun q hq => ?_⟩⟩
    obtain ⟨u, k, k0, k1⟩ := h5 q hq
    exact ⟨u, k, k0, k1.map hk⟩
theorem ShR.past (h : ShR w B v n) {x : Nat} (st : Stored w x w') (hx : x < B) : ShR w' B v n := h.map fun _ _ _ hg _ b => st.box b (by omega)

/-! A line of a way is stored anew. -/
variable {g' i : Nat} {cw : Array Value} {z : Int}
theorem ShW.bump (h : ShW w B v n) (b : Box w g' 51 cw) (b' : Box w' g' 51 (cw.setIfInBounds i (.int .i64 z))) (st : Stored w g' w') : ShW w' B v n := by
  rcases h with ⟨h | ⟨g, cap, cur, e, h1, h2, h3, h4, h5⟩⟩
  · exact ⟨.inl h⟩
  · by_cases eg : g = g'
    · subst eg
      have ec : cur = cw := by
        unfold Box at h2 b
        rw [h2] at b
        simpa using b
      subst ec
      refine ⟨.inr ⟨g, cap, _, e, h1, b', h3, h4, fun q hq => ?_⟩⟩
      obtain ⟨y, hy⟩ := h5 q hq
      have hlt : q * 6 + 1 < cur.size := by
        rcases Nat.lt_or_ge (q * 6 + 1) cur.size with h | h
        · exact h
        · rw [Array.getElem?_eq_none h] at hy; cases hy
      rw [Array.getElem?_setIfInBounds]
      by_cases ei : i = q * 6 + 1
      · rw [if_pos ei, if_pos (by omega)]
        exact ⟨z, rfl⟩
      · rw [if_neg ei]
        exact ⟨y, hy⟩
    · exact ⟨.inr ⟨g, cap, cur, e, h1, st.box h2 eg, h3, h4, h5⟩⟩
theorem ShR.bump (h : ShR w B v n) (b : Box w g' 51 cw) (b' : Box w' g' 51 (cw.setIfInBounds i (.int .i64 z))) (st : Stored w g' w') : ShR w' B v n := by
  rcases h with ⟨h | ⟨g, cap, cur, e, h1, h2, h3, h4, h5⟩⟩
  · exact ⟨.inl h⟩
  · refine ⟨.inr ⟨g, cap, cur, e, h1, st.box h2 (box_ne h2 b (by decide)), h3, h4, fun q hq => ?_⟩⟩
    obtain ⟨u, k, a, b0, c, k0, k1, k2, k3, k4⟩ := h5 q hq
    exact ⟨u, k, a, b0, c, k0, k1, k2, k3, k4.bump b b' st⟩
theorem ShC.bump (h : ShC w B v n) (b : Box w g' 51 cw) (b' : Box w' g' 51 (cw.setIfInBounds i (.int .i64 z))) (st : Stored w g' w') : ShC w' B v n := by
  rcases h with ⟨h | ⟨g, cap, cur, e, h1, h2, h3, h4, h5⟩⟩
  · exact ⟨.inl h⟩
  · refine ⟨.inr ⟨g, cap, cur, e, h1, st.box h2 (box_ne h2 b (by decide)), h3, h4, fun q hq => ?_⟩⟩
    obtain ⟨u, k, k0, k1⟩ := h5 q hq
    exact ⟨u, k, k0, k1.bump b b' st⟩
end

section
variable {w : World} {B C : Nat} {v : Value}
theorem Fr.sh {l : List Wy} (h : Fr w B C v l) : ShW w B v l.length := by
  rcases h with ⟨rfl, rfl⟩ | ⟨g, h1, _, cap, cur, rfl, h2, h3, h4, _, h5⟩
  · exact ShW.nil _ _
  · refine ⟨.inr ⟨g, cap, cur, rfl, h1, h2, h3, h4, fun q hq => ?_⟩⟩
    have := h5 q _ (List.getElem?_eq_getElem hq) 1 (by omega)
    exact ⟨_, this⟩
theorem CFr.sh {ss : List St} (h : CFr w B C v ss) : ShR w B v ss.length := by
  rcases h with ⟨rfl, rfl⟩ | ⟨g, h1, h2, cap, cur, rfl, h3, h4, h5, _, h6⟩
  · exact ShR.nil _ _
  · refine ⟨.inr ⟨g, cap, cur, rfl, h1, h3, h4, h5, fun q hq => ?_⟩⟩
    obtain ⟨u, ⟨k0, k1, k2, k3⟩, k4⟩ := h6 q _ (List.getElem?_eq_getElem hq)
    exact ⟨u, _, _, _, _, k0, k1, k2, k3, (k4.fr h1 h2).sh⟩
theorem KFr.sh {css : List (List St)} (h : KFr w B C v css) : ShC w B v css.length := by
  obtain ⟨g, us, rfl, h1, h2, h3, h4, h5, h6⟩ := h
  refine ⟨.inr ⟨g, css.length, us.toArray, rfl, h3, h5, Nat.le_refl _, h2, fun q hq => ?_⟩⟩
  obtain ⟨A, c, k1, B', C', k2, k3, _, k4⟩ := h6 q _ (List.getElem?_eq_getElem hq)
  exact ⟨_, _, by rw [List.getElem?_toArray]; exact k1, k4.sh.more k2⟩
end

/-- What Do gives, of any arguments. -/
theorem do_shape (n s y b : Int) (v : Value) (m : List Int) (css : List (List St)) (d : Dd) (w : World) (h : Ks w v css) (hm : m.length = 64) :
    Calls Try.prog 9 #[cfg n s y b, wldV v m, d.val] w fun e w' => (∃ A c k m' u f1 f2 f3 f4 E, e = .returned (.tuple #[wldV (.slice A k c) m', doneV u f1 f2 f3 f4, .int .i64 E]) ∧ m'.length = 64 ∧ ShC w' w.heap.size (.slice A k c) k) ∧ Below w.heap.size w w' := by
  rcases do_cases (n := n) (s := s) (y := y) (b := b) (css := css) hm d with ⟨E, _, D⟩ | ⟨_, i0, L, css', out, _, _, D⟩
  · refine (D v w h).mono ?_
    rintro e w' ⟨rfl, hb⟩
    exact ⟨⟨none, 0, 0, zeroL, _, _, _, _, _, E, rfl, zeroL_length, ShC.nil _ _⟩, hb⟩
  · refine (D v w h).mono ?_
    rintro e w' ⟨⟨v', rfl, kf⟩, hb⟩
    obtain ⟨A, c, rfl⟩ := kf.shape
    exact ⟨⟨A, c, _, _, _, _, _, _, _, 0, rfl, keepM_length hm out, kf.sh⟩, hb⟩
/-- What Play gives of no operation. -/
theorem play_shape (n s y b : Int) (v : Value) (m : List Int) (css : List (List St)) (w : World) (h : Ks w v css) (hm : m.length = 64) :
    Calls Try.prog 20 #[cfg n s y b, wldV v m, .slice none 0 0] w fun e w' => (∃ A c k m' sv E, e = .returned (.tuple #[wldV (.slice A k c) m', sv, .int .i64 E]) ∧ m'.length = 64 ∧ ShC w' w.heap.size (.slice A k c) k) ∧ Below w.heap.size w w' := by
  refine (deedPlay_is n s y b v (.slice none 0 0) m css [] w h ⟨rfl, none, 0, rfl, Nat.le_refl _, Nat.zero_le _, fun h => absurd h (by simp)⟩ hm).mono ?_
  rintro e w' ⟨⟨E, _, rfl⟩ | ⟨v', css', m', g, cur, rfl, run, kf, _⟩, hb⟩
  · exact ⟨⟨none, 0, 0, zeroL, _, E, rfl, zeroL_length, ShC.nil _ _⟩, hb⟩
  · obtain ⟨A, c, rfl⟩ := kf.shape
    exact ⟨⟨A, c, _, m', _, 0, rfl, run.len, kf.sh⟩, hb⟩
theorem put_shape (n s y b : Int) (v : Value) (ss : List St) (x : Wy) (w : World) (h : Cs w v ss) :
    Calls Try.prog 25 #[cfg n s y b, v, x.val] w fun e w' => (∃ A c k z E, e = .returned (.tuple #[.slice A k c, Wy.val z, .int .i64 E]) ∧ ShR w' w.heap.size (.slice A k c) k) ∧ Below w.heap.size w w' := by
  by_cases he : wayCE n s y b ss x = 0
  · obtain ⟨k, t, hk, ht⟩ := (goodC_iff.1 (wayCE_ok he).1).set_ x.ln
    obtain ⟨la, tt, z, E, _, C⟩ := cachePut_in n s y b v ss x k t w h he hk ht
    refine C.mono ?_
    rintro e w' ⟨⟨_, rfl⟩ | ⟨_, A, c, rfl, cf⟩, hb⟩
    · exact ⟨⟨none, 0, 0, wy0, E, rfl, ShR.nil _ _⟩, hb⟩
    · have := cf.sh
      rw [List.length_set] at this
      exact ⟨⟨A, c, _, z, 0, rfl, this⟩, hb⟩
  · refine (cachePut_bad n s y b v ss x w h he).mono ?_
    rintro e w' ⟨rfl, hb⟩
    exact ⟨⟨none, 0, 0, wy0, _, rfl, ShR.nil _ _⟩, hb⟩
theorem take_shape (n s y b : Int) (v : Value) (ss : List St) (m : Int) (w : World) (h : Cs w v ss) :
    Calls Try.prog 26 #[cfg n s y b, v, .int .i64 m] w fun e w' => (∃ A c k z E, e = .returned (.tuple #[.slice A k c, Wy.val z, .int .i64 E]) ∧ ShR w' w.heap.size (.slice A k c) k) ∧ Below w.heap.size w w' := by
  by_cases he : lineE n s y b ss m = 0
  · obtain ⟨k, t, hk, ht⟩ := (goodC_iff.1 (lineE_ok he).1).set_ m
    obtain ⟨la, tt, z, E, _, C⟩ := cacheTake_in n s y b v ss m k t w h he hk ht
    refine C.mono ?_
    rintro e w' ⟨⟨_, rfl⟩ | ⟨_, A, c, rfl, cf⟩, hb⟩
    · exact ⟨⟨none, 0, 0, wy0, E, rfl, ShR.nil _ _⟩, hb⟩
    · have := cf.sh
      rw [List.length_set] at this
      exact ⟨⟨A, c, _, z, 0, rfl, this⟩, hb⟩
  · refine (cacheTake_bad n s y b v ss m w h he).mono ?_
    rintro e w' ⟨rfl, hb⟩
    exact ⟨⟨none, 0, 0, wy0, _, rfl, ShR.nil _ _⟩, hb⟩
end Go.Proofs.Ytahoadfofleacaa
