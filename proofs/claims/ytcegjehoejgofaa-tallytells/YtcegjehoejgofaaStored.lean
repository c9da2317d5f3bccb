/-
Proved: what a store into one block leaves as it was; a whole block stored anew. No condition.
-/
import Derived.Test.YtcegjehoejgofaaMem
import Derived.Deep.MidRow
namespace Go.Proofs.Ytcegjehoejgofaa
open Go.ChangeShapes Go.WideShapes Go.ChangeAt Go.RowKit

/-- The world behind a store into block 'g'. -/
structure Stored (w : World) (g : Nat) (w' : World) : Prop where
  heap : ∀ {h : Nat}, h ≠ g → w'.heap[h]? = w.heap[h]?
  size : w'.heap.size = w.heap.size
  low : ∀ {B : Nat} {z : World}, Below B z w → B ≤ g → Below B z w'

section
variable {w w' : World} {g : Nat}
theorem Stored.box (st : Stored w g w') {h : Nat} {t : TypeId} {cs : Array Value} (b : Box w h t cs) (hne : h ≠ g) : Box w' h t cs := (st.heap hne).trans b
theorem Stored.cell (st : Stored w g w') {p : Addr} {z : Value} (hne : p.block ≠ g) (h : w.cell? p = some z) : w'.cell? p = some z := by
  rw [← h]
  unfold World.cell?
  rw [st.heap hne]
theorem Stored.row (w : World) {t : TypeId} {old : Array Value} (hg : Box w g t old) (cells : Array Value) : Box (w.setRow g cells) g t cells ∧ Stored w g (w.setRow g cells) := by
  refine ⟨setRow_heap w g old cells t _ hg, fun {h} hne => ?_, by simp [World.setRow], fun {B} {z} b hB => ⟨b.os, b.tape, b.output, ?_, fun x hx => ?_⟩⟩
  · simp [World.setRow, Array.getElem?_modify, Ne.symm hne]
  · have := b.size
    simpa [World.setRow] using this
  · rw [← b.block x hx]
    simp [World.setRow, Array.getElem?_modify, show g ≠ x by omega]
end

/-- A whole block is stored anew. -/
theorem wp_store_box {P : Program} {op : Oper} {a : Act} {w : World} {K : Act → World → Prop} {Q : Exit → Act → World → Prop} (ty : TypeId) (x y : Operand) (ho : op.op = .store ty x y)
    (g : Nat) (cells : Array Value) (hx : a.eval x = .pointer (some ⟨g, 0, none⟩)) (hy : a.eval y = .agg cells) {t : TypeId} {old : Array Value} (hg : Box w g t old)
    (hi : (P.info? ty).map (·.size) = some cells.size) (hold : old.size = cells.size) (h1 : cells.all (·.oneCell') = true)
    (h : ∀ w', Box w' g t cells → Stored w g w' → K (a.put op.dst undef) w') : op.wp P a w K Q :=
  wp_store_row ty x y ho g cells hx hy t old hg hi hold h1 (h _ (Stored.row w hg cells).1 (Stored.row w hg cells).2)

theorem Stored.cell1 (w : World) (p : Addr) (x : Value) : Stored w p.block (w.setCell p x) :=
  ⟨fun {h} hne => Below.heap_setCell w p x h hne, by simp, fun b hB => b.setCell hB x⟩
theorem Stored.trans {w w1 w2 : World} {g : Nat} (h : Stored w g w1) (h' : Stored w1 g w2) : Stored w g w2 :=
  ⟨fun hne => (h'.heap hne).trans (h.heap hne), h'.size.trans h.size, fun b hB => h'.low (h.low b hB) hB⟩
end Go.Proofs.Ytcegjehoejgofaa
