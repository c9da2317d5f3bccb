/-
Proved: words for caches that a call gathers by appending; what EmptyCache and CacheWith of the reference return. Conditions: at most four sets, each of one to four ways.
-/
import Derived.Test.YtgdacpcifnpojaaGreatJoined3
import Derived.Test.YtgdacpcifnpojaaGreatJoined4
import Derived.Test.YtgdacpcifnpojaaGreatRefLow
namespace Go.Proofs.YtgdacpcifnpojaaGreat
open Go.ChangeShapes Go.WideShapes Go.ChangeAt Go.RowKit Go.Joins
def setC (u : Value) (t : St) : List Value := [u, .bool t.a, .bool t.b, .bool t.c]
def setsC (L : List (Value × St)) : List Value := L.flatMap fun p => setC p.1 p.2
theorem setsC_snoc (L : List (Value × St)) (u : Value) (t : St) : setsC (L ++ [(u, t)]) = setsC L ++ setC u t := by simp [setsC]
theorem setsC_at {L : List (Value × St)} {k : Nat} {u : Value} {t : St} (h : L[k]? = some (u, t)) (j : Nat) (hj : j < 4) : (setsC L)[k * 4 + j]? = (setC u t)[j]? := by
 induction L generalizing k with
 | nil => simp at h
 | cons p r ih =>
  have hp : (setC p.1 p.2).length = 4 := rfl
  simp only [setsC, List.flatMap_cons] at *
  cases k with
  | zero =>
   simp at h
   subst h
   rw [List.getElem?_append_left (by omega)]
   simp
  | succ k =>
   rw [List.getElem?_append_right (by omega), hp, show (k + 1) * 4 + j - 4 = k * 4 + j by omega]
   exact ih (by simpa using h)
structure OwnR (w : World) (base : Nat) (s : Value) (ss : List St) : Prop where
 ex : ∃ L : List (Value × St), L.map (·.2) = ss ∧ w.ownsRow base 77 4 s ss.length (setsC L) ∧ ∀ p ∈ L, Fr w base w.heap.size p.1 p.2.l
section
variable {w w' : World} {base : Nat} {s u : Value} {ss : List St} {t : St}
theorem Fr.up {B C : Nat} {l : List Wy} (h : Fr w B w.heap.size u l) (hb : Below w.heap.size w w') : Fr w' B w'.heap.size u l := (h.call hb).more (Nat.le_refl _) hb.size
theorem Fr.grownBox {B C : Nat} {l : List Wy} {row : Option Nat} (h : Fr w B C u l) (g : w.grownBy w' row) (hr : ∀ x, row = some x → ∃ cur, Box w x 77 cur) : Fr w' B C u l := by
 rcases h with h | ⟨x, hx, hc, cap, cur, rfl, h1, h2⟩
 ·exact .inl h
 ·refine .inr ⟨x, hx, hc, cap, cur, rfl, h1.grown g (fun e => ?_), h2⟩
  obtain ⟨cur', hb'⟩ := hr x e.symm
  unfold Box at h1 hb'
  rw [h1] at hb'
  simp at hb'
theorem own_box {n : Nat} {xs : List Value} (h : w.ownsRow base 77 4 s n xs) : ∀ x, s.ownBlock = some x → ∃ cur, Box w x 77 cur := by
 intro x hx
 rcases h.2 with ⟨rfl, _⟩ | ⟨g, cap, cur, rfl, _, hh, _⟩
 ·simp [Value.ownBlock] at hx
 ·simp [Value.ownBlock] at hx
  subst hx
  exact ⟨cur, hh⟩
theorem OwnR.nil (w : World) (base : Nat) : OwnR w base (.slice none 0 0) [] := ⟨[], rfl, World.ownsRow_nil _ _ _ _, fun p hp => by simp at hp⟩
theorem OwnR.call (h : OwnR w base s ss) (hb : Below w.heap.size w w') : OwnR w' base s ss := by
 obtain ⟨L, h1, h2, h3⟩ := h
 exact ⟨L, h1, own_below h2 hb, fun p hp => (h3 p hp).up (C := 0) hb⟩
theorem OwnR.alloc (h : OwnR w base s ss) (o : Obj) : OwnR (w.alloc o) base s ss := h.call (gAlloc (Below.refl _ _) o)
theorem OwnR.drew (h : OwnR w base s ss) : OwnR w.drew base s ss := h.call (Below.refl _ _).drew
theorem owns_more {e : TypeId} {base' size n : Nat} {xs : List Value} (h : w.ownsRow base e size s n xs) (hb : base' ≤ base) : w.ownsRow base' e size s n xs := by
 refine ⟨h.1, ?_⟩
 rcases h.2 with h2 | ⟨g, cap, cur, hv, hg, r⟩
 ·exact .inl h2
 ·exact .inr ⟨g, cap, cur, hv, Nat.le_trans hb hg, r⟩
theorem OwnR.more {base' : Nat} (h : OwnR w base s ss) (hb : base' ≤ base) : OwnR w base' s ss := by
 obtain ⟨L, h1, h2, h3⟩ := h
 exact ⟨L, h1, owns_more h2 hb, fun p hp => (h3 p hp).more hb (Nat.le_refl _)⟩
theorem OwnR.shape (h : OwnR w base s ss) : ∃ A c, s = .slice A ss.length c := by
 obtain ⟨L, h1, h2, h3⟩ := h
 exact own_shape h2
theorem OwnR.lt (h : OwnR w base s ss) : ∀ x, s.ownBlock = some x → base ≤ x ∧ x < w.heap.size := by
 obtain ⟨L, h1, h2, h3⟩ := h
 exact fun x hx => h2.lt x hx
theorem OwnR.cs (h : OwnR w base s ss) : Cs w s ss := by
 obtain ⟨L, h1, h2, h3⟩ := h
 obtain ⟨_, A, c, e, k1, k2, k3⟩ := Sl.ofOwn h2
 refine ⟨A, c, e, k1, k2, fun h0 => ?_⟩
 obtain ⟨b, o, eA, hb, hc⟩ := k3 h0
 refine ⟨b, o, eA, hb, ⟨fun k t hk => ?_⟩⟩
 rw [← h1, List.getElem?_map] at hk
 cases hL : L[k]? with
 | none => rw [hL] at hk; cases hk
 | some p =>
  rw [hL] at hk
  simp at hk
  subst hk
  have fr := h3 p (List.mem_of_getElem? hL)
  obtain ⟨A', c', e'⟩ := fr.shape
  have f : ∀ j u, j < 4 → (setC p.1 p.2)[j]? = some u → w.cell? ⟨b, o + k * 4 + j, none⟩ = some u := fun j u hj hu => by
   rw [Nat.add_assoc]
   exact hc _ _ ((setsC_at (u := p.1) (t := p.2) hL j hj).trans hu)
  exact ⟨A', c', ⟨f 0 _ (by omega) (by rw [← e']; rfl), f 1 _ (by omega) rfl, f 2 _ (by omega) rfl, f 3 _ (by omega) rfl⟩, by rw [← e']; exact fr.ws⟩
end
theorem setC_one {w : World} {B C : Nat} {u : Value} {l : List Wy} {t : St} (h : Fr w B C u l) : ∀ x ∈ setC u t, x.oneCell' = true := by
 obtain ⟨A, c, rfl⟩ := h.shape
 intro x hx
 simp [setC] at hx
 rcases hx with rfl | rfl | rfl | rfl <;> rfl
theorem OwnR.push {w w' : World} {base : Nat} {s s' u : Value} {ss : List St} {t : St} {L : List (Value × St)} (h1 : L.map (·.2) = ss) (own : w.ownsRow base 77 4 s ss.length (setsC L)) (h3 : ∀ p ∈ L, Fr w base w.heap.size p.1 p.2.l)
  (fr : Fr w base w.heap.size u t.l) (own' : w'.ownsRow base 77 4 s' (ss.length + 1) (setsC L ++ setC u t)) (g : w.grownBy w' s.ownBlock) : OwnR w' base s' (ss ++ [t]) := by
 refine ⟨L ++ [(u, t)], by rw [List.map_append, h1]; rfl, by rw [setsC_snoc, List.length_append]; exact own', fun p hp => ?_⟩
 rw [List.mem_append] at hp
 rcases hp with hp | hp
 ·exact ((h3 p hp).grownBox g (own_box own)).more (Nat.le_refl _) g.size
 ·simp at hp
  subst hp
  exact (fr.grownBox g (own_box own)).more (Nat.le_refl _) g.size
theorem new_set (w : World) (u : Value) (t : St) (g q : Nat) (x : Value) (hg : Box w g 77 #[u, .bool t.a, .bool t.b, .bool t.c]) (h : (setC u t)[q]? = some x) : w.cell? ((⟨g, 0, none⟩ : Addr).add q) = some x := by
 have e : (⟨g, 0, none⟩ : Addr).add q = ⟨g, q, none⟩ := by cases q <;> simp [Addr.add]
 rw [e, hg.cell, ← h]
 simp [setC]
theorem take_snoc {ss : List St} {k : Nat} {t : St} (h : ss[k]? = some t) : ss.take (k + 1) = ss.take k ++ [t] := by
 obtain ⟨hk, rfl⟩ := List.getElem?_eq_some_iff.1 h
 exact List.take_succ_eq_append_getElem hk
end Go.Proofs.YtgdacpcifnpojaaGreat
