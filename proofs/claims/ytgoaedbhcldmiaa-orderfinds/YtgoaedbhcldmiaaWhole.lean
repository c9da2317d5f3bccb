/-
Proved: laws on whole variables of any struct or array type: a new one, the literal of zeros, read whole, stored whole. No condition.
-/
import Derived.Test.YtgoaedbhcldmiaaStored
import Derived.Deep.WholeRow
import Derived.Deep.RegionHeld3
namespace Go.Proofs.Ytgoaedbhcldmiaa
open Go.ChangeShapes Go.WideShapes Go.ChangeAt Go.RowKit Go.Joins

/-- A type whose variables have these cells at first. -/
structure Ty (T : TypeId) (z : Array Value) : Prop where
  info : (Try.prog.info? T).map (fun i => (i.zero, i.size)) = some (some (.agg z), z.size)
  und : ∃ d, Try.prog.underlying T = some d ∧ d.isRow = true
  lit : ∀ w, (Instr.build T #[]).run Try.prog w = .ok (.agg z) w
theorem Ty.size {T : TypeId} {z : Array Value} (h : Ty T z) : (Try.prog.info? T).map (·.size) = some z.size := (zero_of_info h.info).2

/-- The cells are read whole. -/
theorem load_whole {T : TypeId} {z : Array Value} (ty : Ty T z) {w : World} {g o : Nat} {cs : Array Value} (hc : w.rangeAt g o cs.toList) (hs : cs.size = z.size) : (loadVar T ⟨g, o, none⟩).run Try.prog w = .ok (.agg cs) w := by
  obtain ⟨d, hu, hd⟩ := ty.und
  have := run_loadVar_mid w g o T cs.toList d hc hu hd (by rw [ty.size, Array.length_toList, hs])
  simpa using this

theorem Box.range {w : World} {g : Nat} {t : TypeId} {cs : Array Value} (h : Box w g t cs) : w.rangeAt g 0 cs.toList := fun j v hv => by
  rw [Nat.zero_add, h.cell, ← hv, Array.getElem?_toList]

section
variable {ops : Array Oper} {rest : List Oper} {dst : Option Tmp} {t : TypeId} {pos : String} {after : Array Edge} {a : Act} {w : World} {Q : Exit → Act → World → Prop}

theorem wp_newW {T : TypeId} {z : Array Value} (ty : Ty T z) (h : wpList Try.prog ops Q rest (a.put dst (.pointer (some ⟨w.heap.size, 0, none⟩))) (w.alloc (.cells z T))) :
    wpList Try.prog ops Q (⟨dst, .alloc T, t, pos, after, none⟩ :: rest) a w := by
  refine wpList_plain rfl fun K hK => ?_
  unfold Oper.wp execOp
  simp only [Instr.alloc, Sem.run_bind, (zero_of_info ty.info).1, newVar, newRow, run_newObj_alloc, Sem.run_pure, Result.andThen_ok]
  exact hK _ _ h

theorem wp_zeroW {T : TypeId} {z : Array Value} (ty : Ty T z) (h : wpList Try.prog ops Q rest (a.put dst (.agg z)) w) :
    wpList Try.prog ops Q (⟨dst, .build T #[], t, pos, after, none⟩ :: rest) a w := by
  refine wpList_plain rfl fun K hK => ?_
  unfold Oper.wp execOp
  simp only [Array.map_empty, ty.lit, Sem.run_bind, Sem.run_pure, Result.andThen_ok]
  exact hK _ _ h

theorem wp_loadW {T : TypeId} {z : Array Value} (ty : Ty T z) {gd : Option (Nat × Bool)} {x : Operand} {g o : Nat} {cs : Array Value} (hc : w.rangeAt g o cs.toList) (hs : cs.size = z.size) (hw : Region.wanted ⟨dst, .load T x, t, pos, after, gd⟩ (yielded ops a.tmps) = true) (hx : a.eval x = .pointer (some ⟨g, o, none⟩))
    (h : wpList Try.prog ops Q rest (a.put dst (.agg cs)) w) : wpList Try.prog ops Q (⟨dst, .load T x, t, pos, after, gd⟩ :: rest) a w := by
  unfold wpList
  rw [if_pos hw]
  refine .inl ?_
  unfold Oper.wp execOp
  simp only [hx, Instr.loadAt, Instr.sureAddr, Sem.run_bind, Sem.run_pure, Result.andThen_ok, load_whole ty hc hs]
  exact h

theorem wp_storeW {T : TypeId} {z : Array Value} (ty : Ty T z) {x y : Operand} {g : Nat} {cs new : Array Value} (hb : Box w g T cs) (ho : cs.size = z.size) (hn : new.size = z.size) (h1 : new.all (·.oneCell') = true) (hx : a.eval x = .pointer (some ⟨g, 0, none⟩)) (hy : a.eval y = .agg new)
    (h : ∀ w', Box w' g T new → Stored w g w' → wpList Try.prog ops Q rest (a.put dst undef) w') :
    wpList Try.prog ops Q (⟨dst, .store T x y, t, pos, after, none⟩ :: rest) a w := by
  refine wpList_plain rfl fun K hK => ?_
  refine wp_store_row T x y rfl g new hx hy T cs hb (by rw [ty.size, hn]) (by rw [ho, hn]) h1 ?_
  have := Stored.row w hb new
  exact hK _ _ (h _ this.1 this.2)

theorem wp_freshW {T : TypeId} {z : Array Value} (ty : Ty T z) {x y : Operand} {cs new : Array Value} (ho : cs.size = z.size) (hn : new.size = z.size) (h1 : new.all (·.oneCell') = true) (hx : a.eval x = .pointer (some ⟨w.heap.size, 0, none⟩)) (hy : a.eval y = .agg new)
    (h : wpList Try.prog ops Q rest (a.put dst undef) (w.alloc (.cells new T))) :
    wpList Try.prog ops Q (⟨dst, .store T x y, t, pos, after, none⟩ :: rest) a (w.alloc (.cells cs T)) := by
  refine wpList_plain rfl fun K hK => ?_
  unfold Oper.wp execOp
  simp only [hx, hy, Sem.run_bind, run_storeAt_new w T cs new (by rw [ty.size, hn]) (by rw [ho, hn]) h1, Sem.run_pure, Result.andThen_ok]
  exact hK _ _ h
end

theorem results_first {fn : Func} {T : TypeId} {z : Array Value} (ty : Ty T z) {tmps : Array Value} {i j g : Nat} {cs : Array Value} {v : Value} {w : World} (hr : fn.results = #[.cell i T, .tmp j]) (hi : tmps.getD i undef = .pointer (some ⟨g, 0, none⟩)) (hj : tmps.getD j undef = v) (hb : Box w g T cs) (hs : cs.size = z.size) :
    (results fn tmps).run Try.prog w = .ok (.tuple #[.agg cs, v]) w := by
  rw [Array.getD_eq_getD_getElem?] at hi hj
  simp [results, hr, hi, hj, asAddr, load_whole ty hb.range hs]
theorem results_first3 {fn : Func} {T : TypeId} {z : Array Value} (ty : Ty T z) {tmps : Array Value} {i j k g : Nat} {cs : Array Value} {v u : Value} {w : World} (hr : fn.results = #[.cell i T, .tmp j, .tmp k]) (hi : tmps.getD i undef = .pointer (some ⟨g, 0, none⟩)) (hj : tmps.getD j undef = v) (hk : tmps.getD k undef = u) (hb : Box w g T cs) (hs : cs.size = z.size) :
    (results fn tmps).run Try.prog w = .ok (.tuple #[.agg cs, v, u]) w := by
  rw [Array.getD_eq_getD_getElem?] at hi hj hk
  simp [results, hr, hi, hj, hk, asAddr, load_whole ty hb.range hs]
end Go.Proofs.Ytgoaedbhcldmiaa
