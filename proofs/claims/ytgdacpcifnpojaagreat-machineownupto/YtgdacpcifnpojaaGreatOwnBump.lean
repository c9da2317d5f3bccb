/-
Proved: words for a machine in new memory whose numbers may be another each: what the stores of the statement MachineOwn leave of it. No condition.
-/
import Derived.Test.YtgdacpcifnpojaaGreatJoined7
import Derived.Test.YtgdacpcifnpojaaGreatWoShape
namespace Go.Proofs.YtgdacpcifnpojaaGreat
open Go.ChangeShapes Go.WideShapes Go.ChangeAt Go.RowKit Go.Joins
structure Bumped (w w' : World) : Prop where
 fix : ∀ g T cs, T ≠ 3 → T ≠ 67 → T ≠ 59 → T ≠ 80 → Box w g T cs → Box w' g T cs
 mov : ∀ g T cs, Box w g T cs → ∃ cs', Box w' g T cs' ∧ ∀ (q : Nat) k z, cs[q]? = some (.int k z) → ∃ z', cs'[q]? = some (.int k z')
section
variable {w w' : World}
theorem Bumped.refl (w : World) : Bumped w w := ⟨fun _ _ _ _ _ _ _ h => h, fun _ _ cs h => ⟨cs, h, fun _ _ z e => ⟨z, e⟩⟩⟩
theorem Bumped.trans {w1 w2 w3 : World} (h : Bumped w1 w2) (k : Bumped w2 w3) : Bumped w1 w3 := by
 refine ⟨fun g T cs a b c d bx => k.fix g T cs a b c d (h.fix g T cs a b c d bx), fun g T cs bx => ?_⟩
 obtain ⟨c1, b1, f1⟩ := h.mov g T cs bx
 obtain ⟨c2, b2, f2⟩ := k.mov g T c1 b1
 refine ⟨c2, b2, fun q kd z e => ?_⟩
 obtain ⟨z1, e1⟩ := f1 q kd z e
 exact f2 q kd z1 e1
theorem Bumped.call (hb : Below w.heap.size w w') : Bumped w w' := ⟨fun _ _ _ _ _ _ _ b => b.call hb, fun _ _ cs b => ⟨cs, b.call hb, fun _ _ z e => ⟨z, e⟩⟩⟩
theorem Bumped.set {g : Nat} {T : TypeId} {cs : Array Value} {i : Nat} {kd : IntKind} {z : Int} (b : Box w g T cs) (ht : T = 3 ∨ T = 67 ∨ T = 59 ∨ T = 80) (hc : cs[i]? = some (.int kd z)) (z' : Int) : Bumped w (w.setCell ⟨g, i, none⟩ (.int kd z')) := by
 have st : Stored w g (w.setCell ⟨g, i, none⟩ (.int kd z')) := Stored.cell1 w ⟨g, i, none⟩ _
 refine ⟨fun h U ds a1 a2 a3 a4 bx => st.box bx (boxNe bx b (by rcases ht with rfl | rfl | rfl | rfl <;> assumption)), fun h U ds bx => ?_⟩
 by_cases e : h = g
 ·subst e
  have hu : U = T ∧ ds = cs := by
   unfold Box at b bx
   rw [b] at bx
   cases bx
   exact ⟨rfl, rfl⟩
  obtain ⟨rfl, rfl⟩ := hu
  refine ⟨_, b.set i (.int kd z'), fun q k y hy => ?_⟩
  rw [Array.getElem?_setIfInBounds]
  by_cases eq : i = q
  ·subst eq
   rw [hc] at hy
   cases hy
   rw [if_pos rfl, if_pos (by rcases Nat.lt_or_ge i ds.size with h | h; exact h; rw [Array.getElem?_eq_none h] at hc; cases hc)]
   exact ⟨z', rfl⟩
  ·rw [if_neg eq]
   exact ⟨y, hy⟩
 ·exact ⟨ds, st.box bx e, fun _ _ y hy => ⟨y, hy⟩⟩
end
structure ShI (T : TypeId) (sz off : Nat) (kd : IntKind) (w : World) (B : Nat) (v : Value) (n : Nat) : Prop where
 ex : (v = .slice none 0 0 ∧ n = 0) ∨ ∃ g cap cur, v = .slice (some ⟨g, 0, none⟩) n cap ∧ B ≤ g ∧ Box w g T cur ∧ n ≤ cap ∧ cap ≤ maxLen ∧ ∀ q, q < n → ∃ z : Int, cur[q * sz + off]? = some (.int kd z)
structure ShP (w : World) (B : Nat) (v : Value) (n : Nat) : Prop where
 ex : (v = .slice none 0 0 ∧ n = 0) ∨ ∃ g cap cur, v = .slice (some ⟨g, 0, none⟩) n cap ∧ B ≤ g ∧ Box w g 52 cur ∧ n ≤ cap ∧ cap ≤ maxLen ∧ ∀ q, q < n → ∃ A c k, cur[q]? = some (.slice A k c) ∧ ShI 59 4 3 .u64 w B (.slice A k c) k
section
variable {w w' : World} {B : Nat} {v : Value} {n : Nat} {T : TypeId} {sz off : Nat} {kd : IntKind}
theorem ShI.nil : ShI T sz off kd w B (.slice none 0 0) 0 := ⟨.inl ⟨rfl, rfl⟩⟩
theorem ShP.nil : ShP w B (.slice none 0 0) 0 := ⟨.inl ⟨rfl, rfl⟩⟩
theorem ShI.bumped (h : ShI T sz off kd w B v n) (b : Bumped w w') : ShI T sz off kd w' B v n := by
 rcases h with ⟨h | ⟨g, cap, cur, e, h1, h2, h3, h4, h5⟩⟩
 ·exact ⟨.inl h⟩
 ·obtain ⟨c', b', f⟩ := b.mov g T cur h2
  exact ⟨.inr ⟨g, cap, c', e, h1, b', h3, h4, fun q hq => by obtain ⟨z, hz⟩ := h5 q hq; exact f _ _ z hz⟩⟩
theorem ShP.bumped (h : ShP w B v n) (b : Bumped w w') : ShP w' B v n := by
 rcases h with ⟨h | ⟨g, cap, cur, e, h1, h2, h3, h4, h5⟩⟩
 ·exact ⟨.inl h⟩
 ·refine ⟨.inr ⟨g, cap, cur, e, h1, b.fix g _ cur (by decide) (by decide) (by decide) (by decide) h2, h3, h4, fun q hq => ?_⟩⟩
  obtain ⟨A, c, k, e1, e2⟩ := h5 q hq
  exact ⟨A, c, k, e1, e2.bumped b⟩
theorem ShW.bumped (h : ShW w B v n) (b : Bumped w w') : ShW w' B v n := by
 rcases h with ⟨h | ⟨g, cap, cur, e, h1, h2, h3, h4, h5⟩⟩
 ·exact ⟨.inl h⟩
 ·obtain ⟨c', b', f⟩ := b.mov g _ cur h2
  exact ⟨.inr ⟨g, cap, c', e, h1, b', h3, h4, fun q hq => by obtain ⟨z, hz⟩ := h5 q hq; exact f _ _ z hz⟩⟩
theorem ShR.bumped (h : ShR w B v n) (b : Bumped w w') : ShR w' B v n := by
 rcases h with ⟨h | ⟨g, cap, cur, e, h1, h2, h3, h4, h5⟩⟩
 ·exact ⟨.inl h⟩
 ·refine ⟨.inr ⟨g, cap, cur, e, h1, b.fix g _ cur (by decide) (by decide) (by decide) (by decide) h2, h3, h4, fun q hq => ?_⟩⟩
  obtain ⟨u, k, a, b0, c, k0, k1, k2, k3, k4⟩ := h5 q hq
  exact ⟨u, k, a, b0, c, k0, k1, k2, k3, k4.bumped b⟩
theorem ShC.bumped (h : ShC w B v n) (b : Bumped w w') : ShC w' B v n := by
 rcases h with ⟨h | ⟨g, cap, cur, e, h1, h2, h3, h4, h5⟩⟩
 ·exact ⟨.inl h⟩
 ·refine ⟨.inr ⟨g, cap, cur, e, h1, b.fix g _ cur (by decide) (by decide) (by decide) (by decide) h2, h3, h4, fun q hq => ?_⟩⟩
  obtain ⟨u, k, k0, k1⟩ := h5 q hq
  exact ⟨u, k, k0, k1.bumped b⟩
theorem ShI.at_ (h : ShI T sz off kd w B v n) (ht : T = 3 ∨ T = 67 ∨ T = 59 ∨ T = 80) {q : Nat} (hq : q < n) : ∃ g cap z, v = .slice (some ⟨g, 0, none⟩) n cap ∧ B ≤ g ∧ w.cell? ⟨g, q * sz + off, none⟩ = some (.int kd z) ∧ w.frozen? ⟨g, q * sz + off, none⟩ = false ∧ n ≤ maxLen ∧
  ∀ z', Bumped w (w.setCell ⟨g, q * sz + off, none⟩ (.int kd z')) := by
 rcases h with ⟨⟨_, h⟩ | ⟨g, cap, cur, e, h1, h2, h3, h4, h5⟩⟩
 ·omega
 ·obtain ⟨z, hz⟩ := h5 q hq
  exact ⟨g, cap, z, e, h1, h2.at_ _ hz, h2.frozen _, by omega, fun z' => Bumped.set h2 ht hz z'⟩
theorem ShW.shI (h : ShW w B v n) : ShI 80 6 1 .i64 w B v n := ⟨h.ex⟩
theorem ShI.ofOwn {xs : List Value} (h : w.ownsRow B T sz v n xs) (hx : ∀ q, q < n → ∃ z : Int, xs[q * sz + off]? = some (.int kd z)) (ho : off < sz) : ShI T sz off kd w B v n := by
 rcases h with ⟨hl, ⟨e, h0⟩ | ⟨g, cap, cur, rfl, hg, hh, hn, hm, hs, ht⟩⟩
 ·exact ⟨.inl ⟨e, h0⟩⟩
 ·refine ⟨.inr ⟨g, cap, cur, rfl, hg, hh, hn, hm, fun q hq => ?_⟩⟩
  obtain ⟨z, hz⟩ := hx q hq
  refine ⟨z, ?_⟩
  rw [← hz, ← ht, List.getElem?_take, if_pos ?_, Array.getElem?_toList]
  have := Nat.mul_le_mul_right sz (show q + 1 ≤ n by omega)
  rw [Nat.add_mul, Nat.one_mul] at this
  omega
end
section
variable {w w' : World} {B B' : Nat} {v : Value} {n : Nat} {T : TypeId} {sz off : Nat} {kd : IntKind}
theorem ShI.more (h : ShI T sz off kd w B v n) (hB : B' ≤ B) : ShI T sz off kd w B' v n := by
 rcases h with ⟨h | ⟨g, cap, cur, e, h1, h2⟩⟩
 ·exact ⟨.inl h⟩
 ·exact ⟨.inr ⟨g, cap, cur, e, Nat.le_trans hB h1, h2⟩⟩
theorem ShP.more (h : ShP w B v n) (hB : B' ≤ B) : ShP w B' v n := by
 rcases h with ⟨h | ⟨g, cap, cur, e, h1, h2, h3, h4, h5⟩⟩
 ·exact ⟨.inl h⟩
 ·exact ⟨.inr ⟨g, cap, cur, e, Nat.le_trans hB h1, h2, h3, h4, fun q hq => by
   obtain ⟨A, c, k, e1, e2⟩ := h5 q hq
   exact ⟨A, c, k, e1, e2.more hB⟩⟩⟩
theorem ShP.at_ (h : ShP w B v n) {q : Nat} (hq : q < n) : ∃ g cap A c k, v = .slice (some ⟨g, 0, none⟩) n cap ∧ w.cell? ⟨g, q, none⟩ = some (.slice A k c) ∧ n ≤ maxLen ∧ ShI 59 4 3 .u64 w B (.slice A k c) k := by
 rcases h with ⟨⟨_, h⟩ | ⟨g, cap, cur, e, h1, h2, h3, h4, h5⟩⟩
 ·omega
 ·obtain ⟨A, c, k, e1, e2⟩ := h5 q hq
  exact ⟨g, cap, A, c, k, e, h2.at_ _ e1, by omega, e2⟩
theorem ShC.at_ (h : ShC w B v n) {q : Nat} (hq : q < n) : ∃ g cap A c k, v = .slice (some ⟨g, 0, none⟩) n cap ∧ w.cell? ⟨g, q, none⟩ = some (.slice A k c) ∧ n ≤ maxLen ∧ ShR w B (.slice A k c) k := by
 rcases h with ⟨⟨_, h⟩ | ⟨g, cap, cur, e, h1, h2, h3, h4, h5⟩⟩
 ·omega
 ·obtain ⟨u, k, e1, e2⟩ := h5 q hq
  obtain ⟨A, c, rfl⟩ := e2.shape
  exact ⟨g, cap, A, c, k, e, h2.at_ _ e1, by omega, e2⟩
theorem ShR.at_ (h : ShR w B v n) {q : Nat} (hq : q < n) : ∃ g cap A c k x y z, v = .slice (some ⟨g, 0, none⟩) n cap ∧ n ≤ maxLen ∧ w.cell? ⟨g, q * 4, none⟩ = some (.slice A k c) ∧ w.cell? ⟨g, q * 4 + 1, none⟩ = some (.bool x) ∧ w.cell? ⟨g, q * 4 + 2, none⟩ = some (.bool y) ∧ w.cell? ⟨g, q * 4 + 3, none⟩ = some (.bool z) ∧ ShW w B (.slice A k c) k := by
 rcases h with ⟨⟨_, h⟩ | ⟨g, cap, cur, e, h1, h2, h3, h4, h5⟩⟩
 ·omega
 ·obtain ⟨u, k, a, b0, c, k0, k1, k2, k3, k4⟩ := h5 q hq
  obtain ⟨A, c', rfl⟩ := k4.shape
  exact ⟨g, cap, A, c', k, a, b0, c, e, by omega, h2.at_ _ k0, h2.at_ _ k1, h2.at_ _ k2, h2.at_ _ k3, k4⟩
end
structure ShM (w : World) (B : Nat) (X : Array Value) : Prop where
 ex : ∃ n s y b A0 k0 c0 m A1 k1 c1 A2 k2 c2 A3 k3 c3 A4 k4 c4 h, X = mcA n s y b (.slice A0 k0 c0) m (.slice A1 k1 c1) (.slice A2 k2 c2) (.slice A3 k3 c3) (.slice A4 k4 c4) h ∧ m.length = 64 ∧
  ShC w B (.slice A0 k0 c0) k0 ∧ ShI 67 4 3 .i64 w B (.slice A1 k1 c1) k1 ∧ ShP w B (.slice A2 k2 c2) k2 ∧ ShI 3 1 0 .i64 w B (.slice A3 k3 c3) k3 ∧ ShI 3 1 0 .i64 w B (.slice A4 k4 c4) k4
section
variable {w w' : World} {B : Nat} {X : Array Value}
theorem ShM.bumped (h : ShM w B X) (b : Bumped w w') : ShM w' B X := by
 obtain ⟨n, s, y, b0, A0, k0, c0, m, A1, k1, c1, A2, k2, c2, A3, k3, c3, A4, k4, c4, hd, e, hm, h0, h1, h2, h3, h4⟩ := h
 exact ⟨n, s, y, b0, A0, k0, c0, m, A1, k1, c1, A2, k2, c2, A3, k3, c3, A4, k4, c4, hd, e, hm, h0.bumped b, h1.bumped b, h2.bumped b, h3.bumped b, h4.bumped b⟩
theorem ShM.more {B' : Nat} (h : ShM w B X) (hB : B' ≤ B) : ShM w B' X := by
 obtain ⟨n, s, y, b0, A0, k0, c0, m, A1, k1, c1, A2, k2, c2, A3, k3, c3, A4, k4, c4, hd, e, hm, h0, h1, h2, h3, h4⟩ := h
 exact ⟨n, s, y, b0, A0, k0, c0, m, A1, k1, c1, A2, k2, c2, A3, k3, c3, A4, k4, c4, hd, e, hm, h0.more hB, h1.more hB, h2.more hB, h3.more hB, h4.more hB⟩
theorem ShM.zero (w : World) (B : Nat) : ShM w B (mcA 0 0 0 0 (.slice none 0 0) zeroL (.slice none 0 0) (.slice none 0 0) (.slice none 0 0) (.slice none 0 0) 0) :=
 ⟨0, 0, 0, 0, none, 0, 0, zeroL, none, 0, 0, none, 0, 0, none, 0, 0, none, 0, 0, 0, rfl, zeroL_length, ShC.nil _ _, ShI.nil, ShP.nil, ShI.nil, ShI.nil⟩
theorem ShM.size (h : ShM w B X) : X.size = 74 ∧ X.all (·.oneCell') = true := by
 obtain ⟨n, s, y, b0, A0, k0, c0, m, A1, k1, c1, A2, k2, c2, A3, k3, c3, A4, k4, c4, hd, rfl, hm, _⟩ := h
 exact ⟨mcA_size hm, mcA_one⟩
theorem NewM.sh {v : Value} {M : Mc} (h : NewM w B v M) : ∃ X, v = .agg X ∧ ShM w B X := by
 obtain ⟨m64, A0, c0, A1, c1, A2, c2, A3, c3, A4, c4, ga, Bk, Ck, Bt, rfl, ⟨k, kb, _, _⟩, ⟨gr, gr0, _, own⟩, p, ⟨a, a0⟩, ⟨t, _, tb⟩⟩ := h
 refine ⟨_, rfl, M.n, M.s, M.y, M.b, A0, M.css.length, c0, M.mem, A1, M.ring.length, c1, A2, M.pr.length, c2, A3, M.at_.length, c3, A4, M.wts.length, c4, M.had, rfl, m64, k.sh.more kb, ?_, ?_, ?_, ?_⟩
 ·obtain ⟨cap, cur, e, b, h1, h2, h3, h4⟩ := own
  exact ⟨.inr ⟨gr, cap, cur, e, gr0, b, h1, h2, fun q hq => ⟨M.ring[q].wt, h4 q _ (List.getElem?_eq_getElem hq) 3 (by omega)⟩⟩⟩
 ·obtain ⟨gp, cp, e, gp0, p8, b, sz, d⟩ := p
  refine ⟨.inr ⟨gp, _, cp, e, gp0, b, Nat.le_refl _, by unfold maxLen; omega, fun q hq => ?_⟩⟩
  obtain ⟨u, e', own⟩ := d q _ hq (List.getElem?_eq_getElem hq)
  obtain ⟨A, c, rfl⟩ := own_shape own
  refine ⟨A, c, _, e', ShI.ofOwn own (fun j hj => ?_) (by omega)⟩
  exact ⟨(M.pr[q])[j].vl, deedsC_at (List.getElem?_eq_getElem hj) 3 (by omega)⟩
 ·obtain ⟨cap, cur, e, b, h1, h2, h3, h4⟩ := a
  refine ⟨.inr ⟨ga, cap, cur, e, a0, b, h1, h2, fun q hq => ⟨M.at_[q], ?_⟩⟩⟩
  rw [Nat.mul_one, Nat.add_zero]
  exact h4 q _ (List.getElem?_eq_getElem hq)
 ·refine ShI.ofOwn (own_wider t tb) (fun q hq => ⟨M.wts[q], ?_⟩) (by omega)
  rw [Nat.mul_one, Nat.add_zero, List.getElem?_map, List.getElem?_eq_getElem hq]
  rfl
end
end Go.Proofs.YtgdacpcifnpojaaGreat
