/-
Proved: a region that draws its order, by hand: what only reads is taken first, what may come up next is carried out. No condition.
-/
import Derived.Test.YtcegjehoejgofaaLaw
import Derived.Deep.RegionHeld3
namespace Go.Proofs.Ytcegjehoejgofaa
open Go.ChangeShapes Go.WideShapes Go.ChangeAt Go.RowKit

/-! Cells that are read, from world to world. -/
theorem drewC {w : World} {p : Addr} {z : Value} (h : w.cell? p = some z) : w.drew.cell? p = some z := h
theorem callC {w w' : World} {p : Addr} {z : Value} (hb : Below w.heap.size w w') (h : w.cell? p = some z) : w'.cell? p = some z := (hb.cell (block_lt_of_cell h)).trans h
theorem allocC {w : World} {p : Addr} {z : Value} (o : Obj) (h : w.cell? p = some z) : (w.alloc o).cell? p = some z := callC (gAlloc (Below.refl _ _) o) h
theorem farC {w : World} {p q : Addr} (h : q.block ≠ p.block) (u : Value) {z : Value} (hz : w.cell? q = some z) : (w.setCell p u).cell? q = some z := by
  rw [← hz]
  unfold World.cell?
  rw [Below.heap_setCell w p u q.block h]

/-! A region that draws its order, by hand: an operation that only reads is taken first; the only one that may come up is carried out. -/
section
variable {P : Program} {ops : Array Oper} {Q : Exit → Act → World → Prop} {md : Region.Mode} {S : World → Prop}
theorem takeFirst {i : Nat} {oi : Oper} {v : Value} {fuel : Nat} {listed : Array Bool} {a : Act} {w : World} (hi : ops.toList[i]? = some oi)
    (hs : Region.noSelect ops = true) (hf : Region.free md ops listed i = true) (hr : (Region.ready md ops listed).contains i = true) (hw : Region.wanted oi (yielded ops a.tmps) = true)
    (hQ : ∀ c a w, Q (.panic c) (a.put oi.dst v) w → Q (.panic c) a w) (hy : ∀ w, S w → (execOp a.eval oi).run P w = .ok (.value v) w) (hS : S w)
    (h : wpAnyH P md ops Q S fuel (listed.setIfInBounds i true) (a.put oi.dst v) w) : wpAnyH P md ops Q S (fuel + 1) listed a w :=
  wpAnyH_take (by rw [← Array.getElem?_toList]; exact hi) hs hf hr hQ (.inl ⟨hw, hy⟩) hS h

theorem skipFirst {i : Nat} {oi : Oper} {fuel : Nat} {listed : Array Bool} {a : Act} {w : World} (hi : ops.toList[i]? = some oi)
    (hs : Region.noSelect ops = true) (hf : Region.free md ops listed i = true) (hr : (Region.ready md ops listed).contains i = true) (hw : Region.wanted oi (yielded ops a.tmps) = false)
    (hQ : ∀ c a w, Q (.panic c) (a.put oi.dst undef) w → Q (.panic c) a w) (hS : S w)
    (h : wpAnyH P md ops Q S fuel (listed.setIfInBounds i true) (a.put oi.dst undef) w) : wpAnyH P md ops Q S (fuel + 1) listed a w :=
  wpAnyH_take (by rw [← Array.getElem?_toList]; exact hi) hs hf hr hQ (.inr ⟨hw, rfl⟩) hS h

theorem stepNext {i : Nat} {oi : Oper} {fuel : Nat} {listed : Array Bool} {a : Act} {w : World} (hr : Region.ready md ops listed = [i]) (hi : ops.toList[i]? = some oi) (hw : Region.wanted oi (yielded ops a.tmps) = true)
    (h : ∀ K : Act → World → Prop, Hid (∀ a w, S w → wpAnyH P md ops Q S fuel (listed.setIfInBounds i true) a w → K a w) → Oper.wp P oi a w K Q) : wpAnyH P md ops Q S (fuel + 1) listed a w :=
  wpAnyH_ready hr (by simp) (AllReadyH.cons (by rw [← Array.getElem?_toList]; exact hi) (fun K hK => by rw [if_pos hw]; exact h K (Lib.hid fun a w hs hx => hK a w hs (fun _ => hx))) AllReadyH.nil)

theorem stepTwo {i1 i2 : Nat} {o1 o2 : Oper} {fuel : Nat} {listed : Array Bool} {a : Act} {w : World} (hr : Region.ready md ops listed = [i1, i2])
    (h1 : ops.toList[i1]? = some o1) (h2 : ops.toList[i2]? = some o2) (w1 : Region.wanted o1 (yielded ops a.tmps) = true) (w2 : Region.wanted o2 (yielded ops a.tmps) = true)
    (k1 : ∀ K : Act → World → Prop, Hid (∀ a w, S w → wpAnyH P md ops Q S fuel (listed.setIfInBounds i1 true) a w → K a w) → Oper.wp P o1 a w K Q)
    (k2 : ∀ K : Act → World → Prop, Hid (∀ a w, S w → wpAnyH P md ops Q S fuel (listed.setIfInBounds i2 true) a w → K a w) → Oper.wp P o2 a w K Q) : wpAnyH P md ops Q S (fuel + 1) listed a w :=
  wpAnyH_ready hr (by simp) (AllReadyH.cons (by rw [← Array.getElem?_toList]; exact h1) (fun K hK => by rw [if_pos w1]; exact k1 K (Lib.hid fun a w hs hx => hK a w hs (fun _ => hx)))
    (AllReadyH.cons (by rw [← Array.getElem?_toList]; exact h2) (fun K hK => by rw [if_pos w2]; exact k2 K (Lib.hid fun a w hs hx => hK a w hs (fun _ => hx))) AllReadyH.nil))

theorem stepThree {i1 i2 i3 : Nat} {o1 o2 o3 : Oper} {fuel : Nat} {listed : Array Bool} {a : Act} {w : World} (hr : Region.ready md ops listed = [i1, i2, i3])
    (h1 : ops.toList[i1]? = some o1) (h2 : ops.toList[i2]? = some o2) (h3 : ops.toList[i3]? = some o3) (w1 : Region.wanted o1 (yielded ops a.tmps) = true) (w2 : Region.wanted o2 (yielded ops a.tmps) = true) (w3 : Region.wanted o3 (yielded ops a.tmps) = true)
    (k1 : ∀ K : Act → World → Prop, Hid (∀ a w, S w → wpAnyH P md ops Q S fuel (listed.setIfInBounds i1 true) a w → K a w) → Oper.wp P o1 a w K Q)
    (k2 : ∀ K : Act → World → Prop, Hid (∀ a w, S w → wpAnyH P md ops Q S fuel (listed.setIfInBounds i2 true) a w → K a w) → Oper.wp P o2 a w K Q)
    (k3 : ∀ K : Act → World → Prop, Hid (∀ a w, S w → wpAnyH P md ops Q S fuel (listed.setIfInBounds i3 true) a w → K a w) → Oper.wp P o3 a w K Q) : wpAnyH P md ops Q S (fuel + 1) listed a w :=
  wpAnyH_ready hr (by simp) (AllReadyH.cons (by rw [← Array.getElem?_toList]; exact h1) (fun K hK => by rw [if_pos w1]; exact k1 K (Lib.hid fun a w hs hx => hK a w hs (fun _ => hx)))
    (AllReadyH.cons (by rw [← Array.getElem?_toList]; exact h2) (fun K hK => by rw [if_pos w2]; exact k2 K (Lib.hid fun a w hs hx => hK a w hs (fun _ => hx)))
    (AllReadyH.cons (by rw [← Array.getElem?_toList]; exact h3) (fun K hK => by rw [if_pos w3]; exact k3 K (Lib.hid fun a w hs hx => hK a w hs (fun _ => hx))) AllReadyH.nil)))

/-- The list of those that have come up, written anew. -/
theorem relist {l1 l2 : Array Bool} (h : l1 = l2) {fuel : Nat} {a : Act} {w : World} (k : wpAnyH P md ops Q S fuel l2 a w) : wpAnyH P md ops Q S fuel l1 a w := h ▸ k
end
end Go.Proofs.Ytcegjehoejgofaa
