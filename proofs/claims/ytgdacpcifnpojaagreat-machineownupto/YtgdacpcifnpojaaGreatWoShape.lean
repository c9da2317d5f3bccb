/-
Proved: words for what lies in new memory, without what the ways hold; a way's line that is stored anew leaves them as they are; what Do and Play of package deed and Put and Take of package cache give, in these words. No condition.
-/
import Derived.Test.YtgdacpcifnpojaaGreatJoined6
namespace Go.Proofs.YtgdacpcifnpojaaGreat
open Go.ChangeShapes Go.WideShapes Go.ChangeAt Go.RowKit Go.Joins
structure ShW (w : World) (B : Nat) (v : Value) (n : Nat) : Prop where
 ex : (v = .slice none 0 0 ∧ n = 0) ∨ ∃ g cap cur, v = .slice (some ⟨g, 0, none⟩) n cap ∧ B ≤ g ∧ Box w g 80 cur ∧ n ≤ cap ∧ cap ≤ maxLen ∧ ∀ q, q < n → ∃ z : Int, cur[q * 6 + 1]? = some (.int .i64 z)
structure ShR (w : World) (B : Nat) (v : Value) (n : Nat) : Prop where
 ex : (v = .slice none 0 0 ∧ n = 0) ∨ ∃ g cap cur, v = .slice (some ⟨g, 0, none⟩) n cap ∧ B ≤ g ∧ Box w g 77 cur ∧ n ≤ cap ∧ cap ≤ maxLen ∧
  ∀ q, q < n → ∃ u k a b c, cur[q * 4]? = some u ∧ cur[q * 4 + 1]? = some (.bool a) ∧ cur[q * 4 + 2]? = some (.bool b) ∧ cur[q * 4 + 3]? = some (.bool c) ∧ ShW w B u k
structure ShC (w : World) (B : Nat) (v : Value) (n : Nat) : Prop where
 ex : (v = .slice none 0 0 ∧ n = 0) ∨ ∃ g cap cur, v = .slice (some ⟨g, 0, none⟩) n cap ∧ B ≤ g ∧ Box w g 72 cur ∧ n ≤ cap ∧ cap ≤ maxLen ∧ ∀ q, q < n → ∃ u k, cur[q]? = some u ∧ ShR w B u k
section
variable {w w' : World} {B B' : Nat} {v : Value} {n : Nat}
theorem ShW.nil (w : World) (B : Nat) : ShW w B (.slice none 0 0) 0 := ⟨.inl ⟨rfl, rfl⟩⟩
theorem ShR.nil (w : World) (B : Nat) : ShR w B (.slice none 0 0) 0 := ⟨.inl ⟨rfl, rfl⟩⟩
theorem ShC.nil (w : World) (B : Nat) : ShC w B (.slice none 0 0) 0 := ⟨.inl ⟨rfl, rfl⟩⟩
theorem ShW.more (h : ShW w B v n) (hB : B' ≤ B) : ShW w B' v n := by
 rcases h with ⟨h | ⟨g, cap, cur, e, h1, h2⟩⟩
 ·exact ⟨.inl h⟩
 ·exact ⟨.inr ⟨g, cap, cur, e, Nat.le_trans hB h1, h2⟩⟩
theorem ShR.more (h : ShR w B v n) (hB : B' ≤ B) : ShR w B' v n := by
 rcases h with ⟨h | ⟨g, cap, cur, e, h1, h2, h3, h4, h5⟩⟩
 ·exact ⟨.inl h⟩
 ·refine ⟨.inr ⟨g, cap, cur, e, Nat.le_trans hB h1, h2, h3, h4, fun q hq => ?_⟩⟩
  obtain ⟨u, k, a, b, c, k0, k1, k2, k3, k4⟩ := h5 q hq
  exact ⟨u, k, a, b, c, k0, k1, k2, k3, k4.more hB⟩
theorem ShC.more (h : ShC w B v n) (hB : B' ≤ B) : ShC w B' v n := by
 rcases h with ⟨h | ⟨g, cap, cur, e, h1, h2, h3, h4, h5⟩⟩
 ·exact ⟨.inl h⟩
 ·refine ⟨.inr ⟨g, cap, cur, e, Nat.le_trans hB h1, h2, h3, h4, fun q hq => ?_⟩⟩
  obtain ⟨u, k, k0, k1⟩ := h5 q hq
  exact ⟨u, k, k0, k1.more hB⟩
theorem ShW.shape (h : ShW w B v n) : ∃ A c, v = .slice A n c := by
 rcases h with ⟨⟨rfl, rfl⟩ | ⟨g, cap, cur, e, _⟩⟩
 ·exact ⟨_, _, rfl⟩
 ·exact ⟨_, _, e⟩
theorem ShR.shape (h : ShR w B v n) : ∃ A c, v = .slice A n c := by
 rcases h with ⟨⟨rfl, rfl⟩ | ⟨g, cap, cur, e, _⟩⟩
 ·exact ⟨_, _, rfl⟩
 ·exact ⟨_, _, e⟩
variable {g' i : Nat} {cw : Array Value} {z : Int}
end
section
variable {w : World} {B C : Nat} {v : Value}
theorem Fr.sh {l : List Wy} (h : Fr w B C v l) : ShW w B v l.length := by
 rcases h with ⟨rfl, rfl⟩ | ⟨g, h1, _, cap, cur, rfl, h2, h3, h4, _, h5⟩
 ·exact ShW.nil _ _
 ·refine ⟨.inr ⟨g, cap, cur, rfl, h1, h2, h3, h4, fun q hq => ?_⟩⟩
  have := h5 q _ (List.getElem?_eq_getElem hq) 1 (by omega)
  exact ⟨_, this⟩
theorem CFr.sh {ss : List St} (h : CFr w B C v ss) : ShR w B v ss.length := by
 rcases h with ⟨rfl, rfl⟩ | ⟨g, h1, h2, cap, cur, rfl, h3, h4, h5, _, h6⟩
 ·exact ShR.nil _ _
 ·refine ⟨.inr ⟨g, cap, cur, rfl, h1, h3, h4, h5, fun q hq => ?_⟩⟩
  obtain ⟨u, ⟨k0, k1, k2, k3⟩, k4⟩ := h6 q _ (List.getElem?_eq_getElem hq)
  exact ⟨u, _, _, _, _, k0, k1, k2, k3, (k4.fr h1 h2).sh⟩
theorem KFr.sh {css : List (List St)} (h : KFr w B C v css) : ShC w B v css.length := by
 obtain ⟨g, us, rfl, h1, h2, h3, h4, h5, h6⟩ := h
 refine ⟨.inr ⟨g, css.length, us.toArray, rfl, h3, h5, Nat.le_refl _, h2, fun q hq => ?_⟩⟩
 obtain ⟨A, c, k1, B', C', k2, k3, _, k4⟩ := h6 q _ (List.getElem?_eq_getElem hq)
 exact ⟨_, _, by rw [List.getElem?_toArray]; exact k1, k4.sh.more k2⟩
end
end Go.Proofs.YtgdacpcifnpojaaGreat
