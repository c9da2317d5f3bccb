/-
Proved: words for the places of a search: a place's cells, '==' on places; a map of places that the call makes: asked, and put into. Condition: a place has 8 counts and 64 words.
-/
import Derived.Test.YtcegjehoejgofaaGreatSearchFacts
import Derived.Test.YtcegjehoejgofaaGreatJoined1
import Derived.Test.YtcegjehoejgofaaGreatJoined5
import Derived.Test.YtcegjehoejgofaaGreatJoined3
import Derived.Maps.OwnOps
namespace Go.Proofs.YtcegjehoejgofaaGreat
open Go.ChangeShapes Go.WideShapes Go.ChangeAt Go.RowKit Go.Joins
def cntL (a : List Nat) : List Value := a.map fun (j : Nat) => Value.int .i64 (j : Int)
def ptL (a : List Nat) (m : List Int) : List Value := cntL a ++ m.map (Value.int .u64)
def ptA (a : List Nat) (m : List Int) : Array Value := (ptL a m).toArray
theorem ptL_length {a : List Nat} {m : List Int} (ha : a.length = 8) (hm : m.length = 64) : (ptL a m).length = 72 := by simp [ptL, cntL, ha, hm]
theorem ptA_size {a : List Nat} {m : List Int} (ha : a.length = 8) (hm : m.length = 64) : (ptA a m).size = 72 := by simp [ptA, ptL_length ha hm]
theorem ptL_one (a : List Nat) (m : List Int) : ∀ v ∈ ptL a m, v.oneCell' = true := by
 intro v hv
 rcases List.mem_append.1 hv with h | h
 ·obtain ⟨j, _, rfl⟩ := List.mem_map.1 h
  rfl
 ·obtain ⟨j, _, rfl⟩ := List.mem_map.1 h
  rfl
theorem ptA_one (a : List Nat) (m : List Int) : (ptA a m).all (·.oneCell') = true := all_oneCell_toArray (ptL_one a m)
theorem ptL_at {a : List Nat} {m : List Int} {k j : Nat} (h : a[k]? = some j) : (ptL a m)[k]? = some (.int .i64 (j : Int)) := by
 have hk := (List.getElem?_eq_some_iff.1 h).1
 unfold ptL cntL
 rw [List.getElem?_append_left (by simpa using hk), List.getElem?_map, h]
 rfl
theorem ptA_at {a : List Nat} {m : List Int} {k j : Nat} (h : a[k]? = some j) : (ptA a m)[k]? = some (.int .i64 (j : Int)) := by
 rw [ptA, List.getElem?_toArray, ptL_at h]
theorem ptA_set {a : List Nat} {m : List Int} {k j : Nat} (h : k < a.length) : (ptA a m).setIfInBounds k (.int .i64 (j : Int)) = ptA (a.set k j) m := by
 unfold ptA ptL cntL
 rw [List.setIfInBounds_toArray, List.set_append_left _ _ (by simpa using h), List.map_set]
def zero8 : List Nat := List.replicate 8 0
theorem zero8_length : zero8.length = 8 := rfl
theorem tyPt : Ty 145 (ptA zero8 zeroL) := ⟨by kernel_rfl, ⟨_, Tryz.underlying145, rfl⟩, fun w => by kernel_rfl⟩
theorem ptA_zsize {a : List Nat} {m : List Int} (ha : a.length = 8) (hm : m.length = 64) : (ptA a m).size = (ptA zero8 zeroL).size := by rw [ptA_size ha hm, ptA_size zero8_length zeroL_length]
theorem ptL_mem {a : List Nat} {m : List Int} (ha : a.length = 8) (i : Nat) : (ptL a m)[8 + i]? = (m.map (Value.int .u64))[i]? := by
 unfold ptL
 rw [List.getElem?_append_right (by simp [cntL, ha]), show 8 + i - (cntL a).length = i by simp [cntL, ha]]
theorem allK_append : ∀ {ks ks' : List Sc} {cs cs' : List Value}, AllK ks cs → AllK ks' cs' → AllK (ks ++ ks') (cs ++ cs')
 | [], _, [], _, _, h => h
 | [], _, _ :: _, _, h, _ => h.elim
 | _ :: _, _, [], _, h, _ => h.elim
 | _ :: _, _, _ :: _, _, h, h' => ⟨h.1, allK_append h.2 h'⟩
theorem allK_counts : ∀ (a : List Nat), AllK (List.replicate a.length (.int .i64)) (cntL a)
 | [] => trivial
 | j :: a => ⟨⟨(j : Int), rfl⟩, allK_counts a⟩
theorem eqCells_counts : ∀ (a b : List Nat), a.length = b.length → eqCells (cntL a) (cntL b) = decide (a = b)
 | [], [], _ => rfl
 | [], _ :: _, h => by cases h
 | _ :: _, [], h => by cases h
 | i :: a, j :: b, h => by
  have ih := eqCells_counts a b (by simpa using h)
  simp only [cntL, List.map_cons, eqCells, scEq] at *
  rw [ih, Bool.eq_iff_iff]
  simp
  omega
theorem allK_place {a : List Nat} {m : List Int} (ha : a.length = 8) (hm : m.length = 64) : AllK (List.replicate 8 (.int .i64) ++ List.replicate 64 (.int .u64)) (ptL a m) := by
 have h1 := allK_counts a
 have h2 := allK_words m
 rw [ha] at h1
 rw [hm] at h2
 exact allK_append h1 h2
theorem eqPt {a b : List Nat} {m k : List Int} (ha : a.length = 8) (hm : m.length = 64) (hb : b.length = 8) (hk : k.length = 64) (w : World) :
  (Op.equalIn 10000 145 (.agg (ptA a m)) (.agg (ptA b k))).run Tryz.prog w = .ok (decide (a = b) && sameM m k) w := by
 have := equal_flat (P := Tryz.prog) 5 145 (List.replicate 8 (.int .i64) ++ List.replicate 64 (.int .u64)) (by kernel_rfl) (by kernel_rfl) 10000 (by omega) w _ _ (.agg (ptA a m)) (.agg (ptA b k)) (allK_place ha hm) (allK_place hb hk)
  (by simp [ValIs, Tryz.underlying145, ptA]) (by simp [ValIs, Tryz.underlying145, ptA])
 unfold ptL at this
 rwa [eqCells_append (by simp [cntL, ha, hb]), eqCells_counts a b (by rw [ha, hb]), eqCells_words m k (by rw [hm, hk])] at this
theorem list_fn {α : Type} {l : List α} {n : Nat} (h : l.length = n) (z : α) : l = (List.range n).map fun i => l.getD i z := by
 apply List.ext_getElem?
 intro i
 by_cases hi : i < n
 ·simp [hi, List.getElem?_eq_getElem (show i < l.length by omega), List.getD]
 ·rw [List.getElem?_eq_none (by omega), List.getElem?_eq_none (by simp; omega)]
set_option maxRecDepth 10000 in
theorem check_fn (f : Nat → Nat) (g : Nat → Int) (em : Bool) (w : World) : (Instr.checkKey em 10000 145 (.agg (ptA ((List.range 8).map f) ((List.range 64).map g)))).run Tryz.prog w = .ok () w := by kernel_rfl
theorem check_pt {a : List Nat} {m : List Int} (ha : a.length = 8) (hm : m.length = 64) (em : Bool) (w : World) : (Instr.checkKey em 10000 145 (.agg (ptA a m))).run Tryz.prog w = .ok () w := by
 rw [list_fn ha 0, list_fn hm 0]
 exact check_fn _ _ em w
theorem sameBits_ints : ∀ (l : List Value) (n : Nat), (∀ v ∈ l, ∃ k x, v = .int k x) → (l.zip l).all (fun (x, y) => Instr.sameBits n x y) = true
 | [], n, _ => rfl
 | v :: l, n, h => by
  obtain ⟨k, x, rfl⟩ := h v (by simp)
  rw [List.zip_cons_cons, List.all_cons, sameBits_ints l n (fun u hu => h u (by simp [hu]))]
  cases n <;> simp [Instr.sameBits]
theorem stays_pt (a : List Nat) (m : List Int) (w : World) : (Instr.keyThatStays (.agg (ptA a m)) (.agg (ptA a m))).run Tryz.prog w = .ok (.agg (ptA a m)) w := by
 have h : Instr.sameBits 10000 (.agg (ptA a m)) (.agg (ptA a m)) = true := by
  show ((ptA a m).size == (ptA a m).size && ((ptA a m).toList.zip (ptA a m).toList).all fun (x, y) => Instr.sameBits 9999 x y) = true
  rw [sameBits_ints]
  ·simp
  ·intro v hv
   rw [ptA] at hv
   rcases List.mem_append.1 hv with h | h
   ·obtain ⟨j, _, rfl⟩ := List.mem_map.1 h
    exact ⟨_, _, rfl⟩
   ·obtain ⟨j, _, rfl⟩ := List.mem_map.1 h
    exact ⟨_, _, rfl⟩
 unfold Instr.keyThatStays
 rw [if_pos h]
 rfl
def Marked (D : List Int → List Nat → Prop) (es : List MapEntry) : Prop := ∀ e ∈ es, ∃ b k, b.length = 8 ∧ k.length = 64 ∧ e.key = .agg (ptA b k) ∧ e.val = .bool true ∧ D k b
theorem find_asking {D : List Int → List Nat → Prop} {a : List Nat} {m : List Int} (ha : a.length = 8) (hm : m.length = 64) (w : World) : ∀ (es : List MapEntry) (i : Nat), Marked D es →
  (Instr.findAsking 145 (.agg (ptA a m)) es i).run Tryz.prog w = .ok none w ∨ (D m a ∧ ∃ j e, es[j]? = some e ∧ e.key = .agg (ptA a m) ∧ (Instr.findAsking 145 (.agg (ptA a m)) es i).run Tryz.prog w = .ok (some (i + j, .bool true)) w)
 | [], i, _ => .inl rfl
 | e :: es, i, h => by
  obtain ⟨b, k, hb, hk, h1, h2, h3⟩ := h e (by simp)
  have q := eqPt ha hm hb hk w
  have ih := find_asking (D := D) ha hm w es (i + 1) (fun x hx => h x (by simp [hx]))
  have hq : (Op.equal 145 (.agg (ptA a m)) e.key).run Tryz.prog w = .ok (decide (a = b) && sameM m k) w := by rw [h1]; exact q
  unfold Instr.findAsking
  cases hd : (decide (a = b) && sameM m k) with
  | true =>
   rw [hd] at hq
   simp only [Bool.and_eq_true, decide_eq_true_eq, sameM] at hd
   obtain ⟨rfl, rfl⟩ := hd
   exact .inr ⟨h3, 0, e, rfl, h1, by simp [hq, h2, Result.andThen]⟩
  | false =>
   rw [hd] at hq
   rcases ih with e1 | ⟨hD, j, x, hj, hk', e1⟩
   ·exact .inl (by simp [hq, e1, Result.andThen])
   ·exact .inr ⟨hD, j + 1, x, by simpa using hj, hk', by simp [hq, e1, Result.andThen]; omega⟩
theorem find_pt {D : List Int → List Nat → Prop} {a : List Nat} {m : List Int} (ha : a.length = 8) (hm : m.length = 64) (w : World) (es : List MapEntry) (h : Marked D es) :
  (Instr.findKey 145 (.agg (ptA a m)) es).run Tryz.prog w = .ok none w ∨ (D m a ∧ ∃ j e, es[j]? = some e ∧ e.key = .agg (ptA a m) ∧ (Instr.findKey 145 (.agg (ptA a m)) es).run Tryz.prog w = .ok (some (j, .bool true)) w) := by
 cases es with
 | nil => exact .inl (by simp [Instr.findKey, run_underlying Tryz.underlying145, Instr.findNow, Result.andThen])
 | cons e es =>
  have e1 : (Instr.findKey 145 (.agg (ptA a m)) (e :: es)).run Tryz.prog w = (Instr.findAsking 145 (.agg (ptA a m)) (e :: es) 0).run Tryz.prog w := by
   simp [Instr.findKey, run_underlying Tryz.underlying145, Instr.findNow, Instr.sameNow, Result.andThen]
  rw [e1]
  have := find_asking (D := D) ha hm w (e :: es) 0 h
  simpa using this
def Marks (D : List Int → List Nat → Prop) (w : World) (b : Nat) : Prop := ∃ es clock, w.heap[b]? = some (.map es clock) ∧ Marked D es.toList
section
variable {D : List Int → List Nat → Prop} {w w' : World} {b : Nat}
theorem Marks.lt (h : Marks D w b) : b < w.heap.size := by
 obtain ⟨es, c, hb, _⟩ := h
 exact (Array.getElem?_eq_some_iff.1 hb).1
theorem Marks.made (D : List Int → List Nat → Prop) (w : World) : Marks D (w.alloc (.map #[] 0)) w.heap.size := ⟨#[], 0, (MapKept.heap_alloc w _).1, fun _ h => by simp at h⟩
theorem Marks.call (h : Marks D w b) (hb : Below w.heap.size w w') : Marks D w' b := by
 have hlt := h.lt
 obtain ⟨es, c, h1, h2⟩ := h
 exact ⟨es, c, (hb.block b hlt).trans h1, h2⟩
theorem Marks.alloc (h : Marks D w b) (o : Obj) : Marks D (w.alloc o) b := h.call (gAlloc (Below.refl _ _) o)
theorem Marks.drew (h : Marks D w b) : Marks D w.drew b := h
theorem Marks.ne {g : Nat} {t : TypeId} {cs : Array Value} (h : Marks D w b) (x : Box w g t cs) : g ≠ b := by
 rintro rfl
 obtain ⟨es, c, h1, _⟩ := h
 unfold Box at x
 rw [x] at h1
 cases h1
theorem Marks.stored {g : Nat} (h : Marks D w b) (st : Stored w g w') (hne : b ≠ g) : Marks D w' b := by
 obtain ⟨es, c, h1, h2⟩ := h
 exact ⟨es, c, (st.heap hne).trans h1, h2⟩
theorem Marks.grown {row : Option Nat} (h : Marks D w b) (hg : w.grownBy w' row) (hne : some b ≠ row) : Marks D w' b := by
 have hlt := h.lt
 obtain ⟨es, c, h1, h2⟩ := h
 exact ⟨es, c, (hg.block b hlt hne).trans h1, h2⟩
theorem Marks.look (h : Marks D w b) {a : List Nat} {m : List Int} (ha : a.length = 8) (hm : m.length = 64) : ∃ r, (Instr.lookup 142 (.map (some b)) (.agg (ptA a m)) false).run Tryz.prog w = .ok (.bool r) w ∧ (r = true → D m a) := by
 obtain ⟨es, c, h1, h2⟩ := h
 have hz : (zeroValue 4).run Tryz.prog w = .ok (.bool false) w := by kernel_rfl
 rcases find_pt ha hm w es.toList h2 with e | ⟨hD, j, x, _, _, e⟩
 ·exact ⟨false, by simp [Instr.lookup, run_underlying Tryz.underlying142, MapKept.run_getObj_map h1, check_pt ha hm, e, hz, Result.andThen], fun h => by cases h⟩
 ·exact ⟨true, by simp [Instr.lookup, run_underlying Tryz.underlying142, MapKept.run_getObj_map h1, check_pt ha hm, e, Result.andThen], fun _ => hD⟩
theorem Marks.put (h : Marks D w b) {a : List Nat} {m : List Int} (ha : a.length = 8) (hm : m.length = 64) (hD : D m a) : ∃ w', (Instr.mapUpdate 142 (.map (some b)) (.agg (ptA a m)) (.bool true)).run Tryz.prog w = .ok () w' ∧ Marks D w' b ∧ w.grownBy w' (some b) := by
 obtain ⟨es, c, h1, h2⟩ := h
 have gr : ∀ o : Obj, w.grownBy { w with heap := w.heap.setIfInBounds b o } (some b) := fun o => ⟨rfl, rfl, rfl, by simp, fun i _ hi => (MapKept.heap_set h1).2 i (fun e => hi (by rw [e]))⟩
 rcases find_pt ha hm w es.toList h2 with e | ⟨-, j, x, hj, hx, e⟩
 ·refine ⟨_, by simp [Instr.mapUpdate, run_underlying Tryz.underlying142, MapKept.run_getObj_map h1, check_pt ha hm, e, MapKept.run_setObj_map _ h1, Result.andThen]; rfl, ⟨_, _, (MapKept.heap_set h1).1, ?_⟩, gr _⟩
  intro y hy
  rw [Array.toList_push] at hy
  rcases List.mem_append.1 hy with hy | hy
  ·exact h2 y hy
  ·obtain rfl := List.mem_singleton.1 hy
   exact ⟨a, m, ha, hm, rfl, rfl, hD⟩
 ·rw [Array.getElem?_toList] at hj
  refine ⟨_, by simp [Instr.mapUpdate, run_underlying Tryz.underlying142, MapKept.run_getObj_map h1, check_pt ha hm, e, hj, hx, stays_pt, MapKept.run_setObj_map _ h1, Result.andThen]; rfl, ⟨_, _, (MapKept.heap_set h1).1, ?_⟩, gr _⟩
  intro y hy
  rw [Array.toList_modify] at hy
  obtain ⟨i, hi⟩ := List.mem_iff_getElem?.1 hy
  rw [List.getElem?_modify] at hi
  obtain ⟨z, hz, rfl⟩ := Option.map_eq_some_iff.1 hi
  by_cases hij : j = i
  ·rw [if_pos hij]
   exact ⟨a, m, ha, hm, rfl, rfl, hD⟩
  ·rw [if_neg hij]
   exact h2 z (List.mem_of_getElem? hz)
end
end Go.Proofs.YtcegjehoejgofaaGreat
