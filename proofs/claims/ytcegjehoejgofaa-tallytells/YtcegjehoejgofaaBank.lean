/-
Proved: what the functions of package bank return, for every argument; none of them changes anything that was there. No condition.
-/
import Derived.Test.YtcegjehoejgofaaWords
import Derived.Test.YtcegjehoejgofaaAddr
import Derived.Test.YtcegjehoejgofaaStored
import Derived.Deep.WholeRow
namespace Go.Proofs.Ytcegjehoejgofaa
open Go.ChangeShapes Go.WideShapes Go.ChangeAt Go.RowKit Go.Joins

/-- The words of a memory as cells. -/
def memA (l : List Int) : Array Value := (l.map (Value.int .u64)).toArray
/-- A memory as a value. -/
abbrev memV (l : List Int) : Value := .agg (memA l)
/-- The memory of zeros. -/
def zeroL : List Int := List.replicate 64 0

/-- Word i of a memory. -/
def wd (l : List Int) (i : Nat) : Int := l.getD i 0

theorem memA_at {l : List Int} (i : Nat) (h : i < l.length) : (memA l)[i]? = some (.int .u64 (wd l i)) := by
  simp [memA, wd, List.getD, h]
theorem memA_size (l : List Int) : (memA l).size = l.length := by simp [memA]
theorem memA_one (l : List Int) : (memA l).all (·.oneCell') = true := all_oneCell_toArray fun v hv => by
  obtain ⟨x, _, rfl⟩ := List.mem_map.1 hv
  rfl
theorem memA_list (l : List Int) : (memA l).toList = l.map (Value.int .u64) := by simp [memA]
theorem zeroL_length : zeroL.length = 64 := by simp [zeroL]
theorem mem_info : (Try.prog.info? 28).map (fun i => (i.zero, i.size)) = some (some (memV zeroL), 64) := by kernel_rfl
theorem mem_size : (Try.prog.info? 28).map (·.size) = some 64 := (zero_of_info mem_info).2

/-- A memory that lies in a block of its own. -/
structure Mb (w : World) (g : Nat) (l : List Int) : Prop where
  box : Box w g 28 (memA l)
  len : l.length = 64

section
variable {w w' : World} {g : Nat} {l : List Int}
theorem Mb.range (h : Mb w g l) : w.rangeAt g 0 (l.map (Value.int .u64)) := fun j v hv => by
  rw [Nat.zero_add, h.1.cell, ← hv, memA, List.getElem?_toArray]
theorem Mb.load (h : Mb w g l) : (loadVar 28 ⟨g, 0, none⟩).run Try.prog w = .ok (memV l) w :=
  run_loadVar_mid w g 0 28 _ _ h.range Try.underlying28 rfl (by rw [mem_size, List.length_map, h.2])
theorem Mb.new (w : World) (hl : l.length = 64) : Mb (w.alloc (.cells (memA l) 28)) w.heap.size l := ⟨Box.new w _ _, hl⟩
theorem Mb.alloc (h : Mb w g l) (o : Obj) : Mb (w.alloc o) g l := ⟨h.1.alloc o, h.2⟩
theorem Mb.call (h : Mb w g l) (hb : Below w.heap.size w w') : Mb w' g l := ⟨h.1.call hb, h.2⟩
theorem Mb.far (h : Mb w g l) {p : Addr} (hp : g ≠ p.block) (u : Value) : Mb (w.setCell p u) g l := ⟨h.1.far hp u, h.2⟩
theorem Mb.drew (h : Mb w g l) : Mb w.drew g l := ⟨h.1.drew, h.2⟩
theorem Mb.lt (h : Mb w g l) : g < w.heap.size := h.1.lt
end

section
variable {ops : Array Oper} {rest : List Oper} {dst : Option Tmp} {t : TypeId} {pos : String} {after : Array Edge} {a : Act} {w : World} {Q : Exit → Act → World → Prop}

/-- A new memory. -/
theorem wp_newMem (h : wpList Try.prog ops Q rest (a.put dst (.pointer (some ⟨w.heap.size, 0, none⟩))) (w.alloc (.cells (memA zeroL) 28))) :
    wpList Try.prog ops Q (⟨dst, .alloc 28, t, pos, after, none⟩ :: rest) a w := by
  refine wpList_plain rfl fun K hK => ?_
  unfold Oper.wp execOp
  simp only [Instr.alloc, Sem.run_bind, (zero_of_info mem_info).1, newVar, newRow, run_newObj_alloc, Sem.run_pure, Result.andThen_ok]
  exact hK _ _ h

/-- The literal 'Memory{}'. -/
theorem wp_zeroMem (h : wpList Try.prog ops Q rest (a.put dst (memV zeroL)) w) :
    wpList Try.prog ops Q (⟨dst, .build 28 #[], t, pos, after, none⟩ :: rest) a w := by
  refine wpList_plain rfl fun K hK => ?_
  have e : (Instr.build 28 #[]).run Try.prog w = .ok (memV zeroL) w := by kernel_rfl
  unfold Oper.wp execOp
  simp only [Array.map_empty, e, Sem.run_bind, Sem.run_pure, Result.andThen_ok]
  exact hK _ _ h

/-- A memory is read whole. -/
theorem wp_loadMem {gd : Option (Nat × Bool)} {x : Operand} {g : Nat} {l : List Int} (hb : Mb w g l) (hw : Region.wanted ⟨dst, .load 28 x, t, pos, after, gd⟩ (yielded ops a.tmps) = true) (hx : a.eval x = .pointer (some ⟨g, 0, none⟩)) (h : wpList Try.prog ops Q rest (a.put dst (memV l)) w) :
    wpList Try.prog ops Q (⟨dst, .load 28 x, t, pos, after, gd⟩ :: rest) a w := by
  unfold wpList
  rw [if_pos hw]
  refine .inl ?_
  unfold Oper.wp execOp
  simp only [hx, Instr.loadAt, Instr.sureAddr, Sem.run_bind, Sem.run_pure, Result.andThen_ok, hb.load]
  exact h

/-- A memory is stored whole. -/
theorem wp_storeMem {x y : Operand} {g : Nat} {l m : List Int} (hb : Mb w g l) (hm : m.length = 64) (hx : a.eval x = .pointer (some ⟨g, 0, none⟩)) (hy : a.eval y = memV m)
    (h : ∀ w', Mb w' g m → Stored w g w' → wpList Try.prog ops Q rest (a.put dst undef) w') :
    wpList Try.prog ops Q (⟨dst, .store 28 x y, t, pos, after, none⟩ :: rest) a w := by
  refine wpList_plain rfl fun K hK => ?_
  refine wp_store_row 28 x y rfl g (memA m) hx hy 28 (memA l) hb.1 (by rw [mem_size, memA_size, hm]) (by rw [memA_size, memA_size, hb.2, hm]) (memA_one m) ?_
  have := Stored.row w hb.1 (memA m)
  exact hK _ _ (h _ ⟨this.1, hm⟩ this.2)

/-- A memory is stored whole into the block that was made last. -/
theorem wp_storeNew {x y : Operand} {l m : List Int} (hl : l.length = 64) (hm : m.length = 64) (hx : a.eval x = .pointer (some ⟨w.heap.size, 0, none⟩)) (hy : a.eval y = memV m)
    (h : wpList Try.prog ops Q rest (a.put dst undef) (w.alloc (.cells (memA m) 28))) :
    wpList Try.prog ops Q (⟨dst, .store 28 x y, t, pos, after, none⟩ :: rest) a (w.alloc (.cells (memA l) 28)) := by
  refine wpList_plain rfl fun K hK => ?_
  unfold Oper.wp execOp
  simp only [hx, hy, Sem.run_bind, run_storeAt_new w 28 (memA l) (memA m) (by rw [mem_size, memA_size, hm]) (by rw [memA_size, memA_size, hl, hm]) (memA_one m), Sem.run_pure, Result.andThen_ok]
  exact hK _ _ h
end

/-- A memory is read whole, in a region that draws. -/
theorem exec_loadMem {ρ : Operand → Value} {dst : Option Tmp} {t : TypeId} {pos : String} {after : Array Edge} {gd : Option (Nat × Bool)} {x : Operand} {g : Nat} {l : List Int} {w : World} (hx : ρ x = .pointer (some ⟨g, 0, none⟩)) (hb : Mb w g l) :
    (execOp ρ ⟨dst, .load 28 x, t, pos, after, gd⟩).run Try.prog w = .ok (.value (memV l)) w := by
  unfold execOp
  simp only [hx, Instr.loadAt, Instr.sureAddr, Sem.run_bind, Sem.run_pure, Result.andThen_ok, hb.load]

theorem results_mem {fn : Func} {tmps : Array Value} {i g : Nat} {l : List Int} {w : World} (hr : fn.results = #[.cell i 28]) (hi : tmps.getD i undef = .pointer (some ⟨g, 0, none⟩)) (hb : Mb w g l) :
    (results fn tmps).run Try.prog w = .ok (memV l) w := by
  rw [Array.getD_eq_getD_getElem?] at hi
  simp [results, hr, hi, asAddr, hb.load]

theorem results_mem2 {fn : Func} {tmps : Array Value} {i j g : Nat} {l : List Int} {v : Value} {w : World} (hr : fn.results = #[.cell i 28, .tmp j]) (hi : tmps.getD i undef = .pointer (some ⟨g, 0, none⟩)) (hj : tmps.getD j undef = v) (hb : Mb w g l) :
    (results fn tmps).run Try.prog w = .ok (.tuple #[memV l, v]) w := by
  rw [Array.getD_eq_getD_getElem?] at hi hj
  simp [results, hr, hi, hj, asAddr, hb.load]

/-- A memory with another word, with another line. -/
def pokeL (l : List Int) (i : Nat) (v : Int) : List Int := l.set i v
def writeL (l : List Int) (k : Nat) (a b c d : Int) : List Int := (((l.set (k * 4) a).set (k * 4 + 1) b).set (k * 4 + 2) c).set (k * 4 + 3) d
theorem pokeL_length (l : List Int) (i : Nat) (v : Int) : (pokeL l i v).length = l.length := by simp [pokeL]
theorem writeL_length (l : List Int) (k : Nat) (a b c d : Int) : (writeL l k a b c d).length = l.length := by simp [writeL]
theorem memA_set (l : List Int) (i : Nat) (v : Int) : (memA l).setIfInBounds i (.int .u64 v) = memA (l.set i v) := by
  simp [memA, List.map_set]

theorem Mb.there {w : World} {g : Nat} {l : List Int} (h : Mb w g l) (o n : Nat) (hn : o + n ≤ 64) : w.there g o n := fun j hj => by
  refine ⟨?_, h.1.frozen _⟩
  rw [h.1.cell, memA_at (o + j) (by have := h.2; omega)]
  rfl

theorem Mb.poke {w : World} {g : Nat} {l : List Int} (h : Mb w g l) (i : Nat) (v : Int) : Mb (w.setCell ⟨g, i, none⟩ (.int .u64 v)) g (pokeL l i v) := by
  refine ⟨?_, by rw [pokeL_length, h.2]⟩
  have := h.1.set i (.int .u64 v)
  rwa [memA_set] at this

theorem Mb.write {w : World} {g : Nat} {l : List Int} (h : Mb w g l) (k : Nat) (a b c d : Int) : Mb (w.setCells g (k * 4) [.int .u64 a, .int .u64 b, .int .u64 c, .int .u64 d]) g (writeL l k a b c d) := by
  have := (((h.poke (k * 4) a).poke (k * 4 + 1) b).poke (k * 4 + 2) c).poke (k * 4 + 3) d
  exact this

theorem setCells_stored (g : Nat) : ∀ (vs : List Value) (o : Nat) (w : World), Stored w g (w.setCells g o vs)
  | [], _, _ => ⟨fun _ => rfl, rfl, fun b _ => b⟩
  | v :: vs, o, w => (Stored.cell1 w ⟨g, o, none⟩ v).trans (setCells_stored g vs (o + 1) _)

theorem run_storeWord {w : World} {g : Nat} {l : List Int} (h : Mb w g l) (i : Nat) (hi : i < 64) (v : Int) :
    (storeVar 24 ⟨g, i, none⟩ (.int .u64 v)).run Try.prog w = .ok () (w.setCell ⟨g, i, none⟩ (.int .u64 v)) := by
  have c := h.1.cell i
  rw [memA_at i (by rw [h.2]; exact hi)] at c
  have f := h.1.frozen i
  have z : (Try.prog.info? 24).map (·.size) = some 1 := by kernel_rfl
  have := run_storeCells_cells (P := Try.prog) g i [.int .u64 v] 0 w (fun j hj => by obtain rfl : j = 0 := (by simpa using hj); simp [c]) (fun j hj => by obtain rfl : j = 0 := (by simpa using hj); simp [f]) (fun u hu => by simp at hu; subst hu; rfl)
  cases hq : Try.prog.info? 24 with
  | none => rw [hq] at z; cases z
  | some y =>
    have hs : y.size = 1 := by rw [hq] at z; simpa using z
    simp only [Nat.add_zero] at this
    simp [storeVar, sizeOf, typeInfo, hq, Value.cells, hs, this, World.setCells]

section
variable {ops : Array Oper} {rest : List Oper} {dst : Option Tmp} {t : TypeId} {pos : String} {after : Array Edge} {a : Act} {w : World} {Q : Exit → Act → World → Prop}

/-- A word is stored into a memory. -/
theorem wp_storeWord {x y : Operand} {g : Nat} {l : List Int} (hb : Mb w g l) (i : Nat) (hi : i < 64) (v : Int) (hx : a.eval x = .pointer (some ⟨g, i, none⟩)) (hy : a.eval y = .int .u64 v)
    (h : ∀ w', Mb w' g (pokeL l i v) → Stored w g w' → wpList Try.prog ops Q rest (a.put dst undef) w') :
    wpList Try.prog ops Q (⟨dst, .store 24 x y, t, pos, after, none⟩ :: rest) a w := by
  refine wpList_plain rfl fun K hK => ?_
  unfold Oper.wp execOp
  simp only [hx, hy, Instr.storeAt, Instr.sureAddr, Sem.run_bind, Sem.run_pure, Result.andThen_ok, run_storeWord hb i hi v]
  exact hK _ _ (h _ (hb.poke i v) (Stored.cell1 w ⟨g, i, none⟩ _))

/-- A line is stored into a memory. -/
theorem wp_storeLine {x y : Operand} {g : Nat} {l : List Int} (hb : Mb w g l) (k : Nat) (hk : k < 16) (p q r s : Int) (hx : a.eval x = .pointer (some ⟨g, k * 4, none⟩)) (hy : a.eval y = line p q r s)
    (h : ∀ w', Mb w' g (writeL l k p q r s) → Stored w g w' → wpList Try.prog ops Q rest (a.put dst undef) w') :
    wpList Try.prog ops Q (⟨dst, .store 26 x y, t, pos, after, none⟩ :: rest) a w := by
  refine wpList_store_mid rfl 26 x y rfl g (k * 4) _ hx hy (hb.there _ _ (by simp; omega)) (by kernel_rfl) (by simp [Value.oneCell']) ?_
  exact h _ (hb.write k p q r s) (setCells_stored g _ _ w)
end

/-- A line of a memory. -/
abbrev lineAt (l : List Int) (k : Nat) : Value := line (wd l (k * 4)) (wd l (k * 4 + 1)) (wd l (k * 4 + 2)) (wd l (k * 4 + 3))





theorem addrLine_at (q r : Nat) (w : World) (hq : q < 16) (hr : r < 4) :
    Calls Try.prog 28 #[.int .i64 ((q * 4 + r : Nat) : Int)] w fun e w' => e = .returned (.tuple #[.int .i64 q, .int .i64 r, .int .i64 0]) ∧ w = w' := by
  have := line_ok ((q * 4 + r : Nat) : Int) w (by omega) (by omega)
  rwa [show ((q * 4 + r : Nat) : Int) / 4 = q by omega, show ((q * 4 + r : Nat) : Int) % 4 = r by omega] at this

theorem bankWord_at (l : List Int) (hl : l.length = 64) (q r : Nat) (hq : q < 16) (hr : r < 4) (w : World) : Calls Try.prog 21 #[memV l, .int .i64 ((q * 4 + r : Nat) : Int)] w fun e w' =>
    e = .returned (.tuple #[.int .u64 (wd l (q * 4 + r)), .int .i64 0]) ∧ Below w.heap.size w w' := by
  have B := Lib.hid fun W => addrLine_at q r W hq hr
  have m0 := memA_at (l := l) (q * 4 + r) (by omega)
  generalize ((q * 4 + r : Nat) : Int) = i at *
  clear hl
  go_enter Try.func21, Try.ntmps21
  go_wp2_with fail
  refine (B.out _).mono ?_; rintro e w' ⟨rfl, rfl⟩
  go_wp2_with fail
  go_ret2
  exact ⟨rfl, gAlloc (Below.refl _ _) _⟩

theorem bankWord_ok (l : List Int) (hl : l.length = 64) (i : Nat) (hi : i < 64) (w : World) : Calls Try.prog 21 #[memV l, .int .i64 i] w fun e w' =>
    e = .returned (.tuple #[.int .u64 (wd l i), .int .i64 0]) ∧ Below w.heap.size w w' := by
  have := bankWord_at l hl (i / 4) (i % 4) (by omega) (by omega) w
  rwa [show i / 4 * 4 + i % 4 = i by omega] at this

theorem bankWord_out (l : List Int) (i : Int) (h : i < 0 ∨ 63 < i) (w : World) : Calls Try.prog 21 #[memV l, .int .i64 i] w fun e w' =>
    e = .returned (.tuple #[.int .u64 0, .int .i64 4]) ∧ Below w.heap.size w w' := by
  have B := Lib.hid fun W => line_out i W h
  clear h
  go_enter Try.func21, Try.ntmps21
  go_wp2_with fail
  refine (B.out _).mono ?_; rintro e w' ⟨rfl, rfl⟩
  go_wp2_with fail
  go_ret2
  exact ⟨rfl, gAlloc (Below.refl _ _) _⟩

set_option maxHeartbeats 1000000 in
theorem bankPoke_at (l : List Int) (hl : l.length = 64) (q r : Nat) (hq : q < 16) (hr : r < 4) (v : Int) (w : World) : Calls Try.prog 23 #[memV l, .int .i64 ((q * 4 + r : Nat) : Int), .int .u64 v] w fun e w' =>
    e = .returned (.tuple #[memV (pokeL l (q * 4 + r) v), .int .i64 0]) ∧ Below w.heap.size w w' := by
  have B := Lib.hid fun W => addrLine_at q r W hq hr
  generalize ((q * 4 + r : Nat) : Int) = i at *
  have low := Below.refl w.heap.size w
  have mb := boxNext low 28 (memA l)
  replace low := gAlloc low (.cells (memA l) 28)
  try simp only [World.size_alloc] at mb
  have ob := boxNext low 28 (memA zeroL)
  replace low := gAlloc low (.cells (memA zeroL) 28)
  replace mb := mb.alloc (.cells (memA zeroL) 28)
  try simp only [World.size_alloc] at ob
  go_enter Try.func23, Try.ntmps23
  go_wp2_with (with_reducible refine wp_newMem ?_)
  refine (B.out _).mono ?_; rintro e w' ⟨rfl, rfl⟩
  go_wp2_with ((with_reducible refine wp_storeWord (⟨mb, hl⟩) (q * 4 + r) (by omega) (v) ?_ ?_ ?_); rfl; rfl)
  intro w2 m2 st
  replace ob := st.box ob (by omega)
  replace low := st.low low (Nat.le_refl _)
  clear mb st
  have hl2 := m2.2
  go_wp2_with (first | ((with_reducible refine wp_loadMem (m2) ?_ ?_ ?_); rfl; rfl) | ((with_reducible refine wp_storeMem (⟨ob, zeroL_length⟩) (hl2) ?_ ?_ ?_); rfl; rfl))
  intro w3 m3 st
  replace low := st.low low (by omega)
  clear m2 st ob
  go_wp2_with fail
  refine bodyPost_ret (v := .tuple #[memV (pokeL l (q * 4 + r) v), .int .i64 0]) (results_mem2 Try.results23 rfl rfl m3) rfl ⟨rfl, low⟩

theorem bankPoke_ok (l : List Int) (hl : l.length = 64) (i : Nat) (hi : i < 64) (v : Int) (w : World) : Calls Try.prog 23 #[memV l, .int .i64 i, .int .u64 v] w fun e w' =>
    e = .returned (.tuple #[memV (pokeL l i v), .int .i64 0]) ∧ Below w.heap.size w w' := by
  have := bankPoke_at l hl (i / 4) (i % 4) (by omega) (by omega) v w
  rwa [show i / 4 * 4 + i % 4 = i by omega] at this

set_option maxHeartbeats 1000000 in
theorem bankPoke_out (l : List Int) (i : Int) (h : i < 0 ∨ 63 < i) (v : Int) (w : World) : Calls Try.prog 23 #[memV l, .int .i64 i, .int .u64 v] w fun e w' =>
    e = .returned (.tuple #[memV zeroL, .int .i64 4]) ∧ Below w.heap.size w w' := by
  have B := Lib.hid fun W => line_out i W h
  clear h
  have low := Below.refl w.heap.size w
  have mb := boxNext low 28 (memA l)
  replace low := gAlloc low (.cells (memA l) 28)
  try simp only [World.size_alloc] at mb
  have ob := boxNext low 28 (memA zeroL)
  replace low := gAlloc low (.cells (memA zeroL) 28)
  try simp only [World.size_alloc] at ob
  clear mb
  go_enter Try.func23, Try.ntmps23
  go_wp2_with (with_reducible refine wp_newMem ?_)
  refine (B.out _).mono ?_; rintro e w' ⟨rfl, rfl⟩
  go_wp2_with (first | (with_reducible refine wp_zeroMem ?_) | ((with_reducible refine wp_storeMem (⟨ob, zeroL_length⟩) (zeroL_length) ?_ ?_ ?_); rfl; rfl))
  intro w3 m3 st
  replace low := st.low low (by omega)
  clear st ob
  go_wp2_with fail
  refine bodyPost_ret (v := .tuple #[memV zeroL, .int .i64 4]) (results_mem2 Try.results23 rfl rfl m3) rfl ⟨rfl, low⟩
end Go.Proofs.Ytcegjehoejgofaa
