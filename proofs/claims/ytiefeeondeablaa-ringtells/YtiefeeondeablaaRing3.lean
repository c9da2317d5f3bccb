/-
Proved: what New and Put of package ring return, for every configuration and ring that can be read; they change nothing that was there, and what they return is new. No condition.
-/
import Derived.Test.YtiefeeondeablaaRing2
namespace Go.Proofs.Ytiefeeondeablaa
open Go.ChangeShapes Go.WideShapes Go.ChangeAt Go.RowKit Go.Joins

theorem info_slot : (Try.prog.info? 38).map (fun i => (i.zero, i.size, i.bytes)) = some (some (.agg slot0), 4, 32) := by kernel_rfl

/-- The slice lies in block 'g', which is known whole and of which the slots are the first. -/
def OwnS (w : World) (g : Nat) (v : Value) (l : List Sw) : Prop :=
  ∃ cap cur, v = .slice (some ⟨g, 0, none⟩) l.length cap ∧ Box w g 38 cur ∧ l.length ≤ cap ∧ cap ≤ maxLen ∧ cur.size = cap * 4 ∧ ∀ (q : Nat) (y : Sw), l[q]? = some y → ∀ r, r < 4 → cur[q * 4 + r]? = y.cells[r]?

theorem ownS_at {cur : Array Value} {l : List Sw} (ht : cur.toList.take (l.length * 4) = ringC l) {k : Nat} {x : Sw} (h : l[k]? = some x) (j : Nat) (hj : j < 4) : cur[k * 4 + j]? = x.cells[j]? := by
  have hk : k < l.length := (List.getElem?_eq_some_iff.1 h).1
  rw [← ringC_at h j hj, ← ht, List.getElem?_take, if_pos (by omega), Array.getElem?_toList]

/-- A slot stored into a slice of one's own. -/
def putS (w : World) (g k : Nat) (x : Sw) : World :=
  (((w.setCell ⟨g, k * 4, none⟩ (.int .i64 x.pl)).setCell ⟨g, k * 4 + 1, none⟩ (.bool x.fu)).setCell ⟨g, k * 4 + 2, none⟩ (.int .i64 x.nd)).setCell ⟨g, k * 4 + 3, none⟩ (.int .i64 x.wt)

theorem OwnS.rs {w : World} {g : Nat} {v : Value} {l : List Sw} (h : OwnS w g v l) : Rs w v l := by
  obtain ⟨cap, cur, rfl, hb, hn, hm, hs, ht⟩ := h
  refine ⟨ringC_length l, some ⟨g, 0, none⟩, cap, rfl, hn, hm, fun _ => ⟨g, 0, rfl, hb.lt, fun j u hu => ?_⟩⟩
  rw [hb.cell, Nat.zero_add]
  have hj : j < l.length * 4 := by
    have := (List.getElem?_eq_some_iff.1 hu).1
    rwa [ringC_length] at this
  have hq : j / 4 < l.length := by omega
  have hjq : j / 4 * 4 + j % 4 = j := by omega
  have h1 := ht (j / 4) l[j / 4] (List.getElem?_eq_getElem hq) (j % 4) (by omega)
  have h2 := ringC_at (List.getElem?_eq_getElem hq) (j % 4) (by omega)
  rw [hjq] at h1 h2
  rw [h1, ← h2, hu]

theorem OwnS.lt {w : World} {g : Nat} {v : Value} {l : List Sw} (h : OwnS w g v l) : g < w.heap.size := by
  obtain ⟨_, _, _, hb, _⟩ := h
  exact hb.lt
theorem OwnS.call {w w' : World} {g : Nat} {v : Value} {l : List Sw} (h : OwnS w g v l) (hb : Below w.heap.size w w') : OwnS w' g v l := by
  obtain ⟨cap, cur, rfl, h1, h2⟩ := h
  exact ⟨cap, cur, rfl, h1.call hb, h2⟩
theorem OwnS.alloc {w : World} {g : Nat} {v : Value} {l : List Sw} (h : OwnS w g v l) (o : Obj) : OwnS (w.alloc o) g v l := h.call (gAlloc (Below.refl _ _) o)
theorem OwnS.drew {w : World} {g : Nat} {v : Value} {l : List Sw} (h : OwnS w g v l) : OwnS w.drew g v l := h.call (Below.refl _ _).drew
theorem OwnS.stored {w w' : World} {g x : Nat} {v : Value} {l : List Sw} (h : OwnS w g v l) (st : Stored w x w') (hne : g ≠ x) : OwnS w' g v l := by
  obtain ⟨cap, cur, rfl, h1, h2⟩ := h
  exact ⟨cap, cur, rfl, st.box h1 hne, h2⟩

theorem OwnS.put {w : World} {g : Nat} {v : Value} {l : List Sw} (h : OwnS w g v l) (k : Nat) (x : Sw) (hk : k < l.length) : OwnS (putS w g k x) g v (l.set k x) := by
  obtain ⟨cap, cur, rfl, hb, hn, hm, hs, ht⟩ := h
  have box : Box (putS w g k x) g 38 _ := ((((hb.set (k * 4) (.int .i64 x.pl)).set (k * 4 + 1) (.bool x.fu)).set (k * 4 + 2) (.int .i64 x.nd)).set (k * 4 + 3) (.int .i64 x.wt))
  refine ⟨cap, _, by rw [List.length_set], box, by rw [List.length_set]; exact hn, hm, by simpa using hs, fun q y hy r hr4 => ?_⟩
  by_cases e : q = k
  · subst e
    rw [List.getElem?_set_self hk] at hy
    cases hy
    have hsz : q * 4 + 3 < cur.size := by omega
    match r, hr4 with
    | 0, _ | 1, _ | 2, _ | 3, _ =>
      simp [Array.getElem?_setIfInBounds, Sw.cells]
      omega
  · rw [List.getElem?_set_ne (fun h => e h.symm)] at hy
    have := ht q y hy r hr4
    simp only [Array.getElem?_setIfInBounds]
    repeat rw [if_neg (by omega)]
    exact this

/-- The place of a slot alone is stored. -/
theorem OwnS.head {w : World} {g : Nat} {v : Value} {l : List Sw} (h : OwnS w g v l) (k : Nat) (x : Sw) (a : Int) (hx : l[k]? = some x) : OwnS (w.setCell ⟨g, k * 4, none⟩ (.int .i64 a)) g v (l.set k ⟨a, x.fu, x.nd, x.wt⟩) := by
  obtain ⟨cap, cur, rfl, hb, hn, hm, hs, ht⟩ := h
  have hk := (List.getElem?_eq_some_iff.1 hx).1
  refine ⟨cap, _, by rw [List.length_set], hb.set (k * 4) (.int .i64 a), by rw [List.length_set]; exact hn, hm, by simpa using hs, fun q y hy r hr4 => ?_⟩
  by_cases e : q = k
  · subst e
    rw [List.getElem?_set_self hk] at hy
    cases hy
    have := ht q x hx r hr4
    match r, hr4 with
    | 0, _ => simp [Array.getElem?_setIfInBounds, Sw.cells]; omega
    | 1, _ => rw [Array.getElem?_setIfInBounds, if_neg (by omega), this]; rfl
    | 2, _ => rw [Array.getElem?_setIfInBounds, if_neg (by omega), this]; rfl
    | 3, _ => rw [Array.getElem?_setIfInBounds, if_neg (by omega), this]; rfl
  · rw [List.getElem?_set_ne (fun h => e h.symm)] at hy
    rw [Array.getElem?_setIfInBounds, if_neg (by omega)]
    exact ht q y hy r hr4
theorem OwnS.first {w : World} {g : Nat} {v : Value} {l : List Sw} {k : Nat} (own : OwnS w g v l) (hk : k < l.length) : ∃ u, w.cell? ⟨g, k * 4, none⟩ = some u ∧ w.frozen? ⟨g, k * 4, none⟩ = false := by
  obtain ⟨cap, cur, rfl, hb, hn, hm, hs, ht⟩ := own
  have := ht k _ (List.getElem?_eq_getElem hk) 0 (by omega)
  exact ⟨_, (hb.cell _).trans this, hb.frozen _⟩

/-- A slice that is new: it lies in no block below 'B', and in none from 'C' on. -/
def FrS (w : World) (B C : Nat) (v : Value) (l : List Sw) : Prop := ∃ g, B ≤ g ∧ g < C ∧ OwnS w g v l
section
variable {w w' : World} {B B' C C' : Nat} {v : Value} {l : List Sw}
theorem FrS.rs (h : FrS w B C v l) : Rs w v l := by
  obtain ⟨g, _, _, h⟩ := h
  exact h.rs
theorem FrS.shape (h : FrS w B C v l) : ∃ A c, v = .slice A l.length c := h.rs.shape
theorem FrS.more (h : FrS w B C v l) (hB : B' ≤ B) (hC : C ≤ C') : FrS w B' C' v l := by
  obtain ⟨g, hg, hc, h⟩ := h
  exact ⟨g, by omega, by omega, h⟩
theorem FrS.call (h : FrS w B C v l) (hb : Below w.heap.size w w') : FrS w' B C v l := by
  obtain ⟨g, hg, hc, h⟩ := h
  exact ⟨g, hg, hc, h.call hb⟩
theorem FrS.alloc (h : FrS w B C v l) (o : Obj) : FrS (w.alloc o) B C v l := h.call (gAlloc (Below.refl _ _) o)
end

theorem lowS_put {B : Nat} {w w' : World} {g k : Nat} {x : Sw} (h : Below B w w') (hg : B ≤ g) : Below B w (putS w' g k x) := by
  unfold putS
  exact (((h.setCell hg _).setCell hg _).setCell hg _).setCell hg _

theorem size_slot : (Try.prog.info? 38).map (·.size) = some 4 := by kernel_rfl

theorem wpList_put_slot {ops : Array Oper} {rest : List Oper} {op : Oper} {a : Act} {w : World} {Q : Exit → Act → World → Prop} (hgd : op.guard = none) (x y : Operand) (ho : op.op = .store 38 x y)
    (g : Nat) (v : Value) (l : List Sw) (k : Nat) (X : Sw) (own : OwnS w g v l) (hk : k < l.length) (hx : a.eval x = .pointer (some ⟨g, k * 4, none⟩)) (hy : a.eval y = X.val)
    (h : ∀ w', OwnS w' g v (l.set k X) → Stored w g w' → wpList Try.prog ops Q rest (a.put op.dst undef) w') : wpList Try.prog ops Q (op :: rest) a w := by
  refine wpList_store_mid hgd 38 x y ho g (k * 4) X.arr hx hy ?_ size_slot (by simp [Value.oneCell']) ?_
  · obtain ⟨cap, cur, rfl, hbx, hn, hm, hs, ht⟩ := own
    intro j hj
    have hj4 : j < 4 := hj
    refine ⟨?_, hbx.frozen _⟩
    rw [hbx.cell, ht k _ (List.getElem?_eq_getElem hk) j hj4]
    match j, hj4 with
    | 0, _ | 1, _ | 2, _ | 3, _ => rfl
  · refine h _ (own.put k X hk) ⟨fun {h} hne => ?_, ?_, fun b hB => lowS_put b hB⟩
    · have f : ∀ (w : World) (o : Nat) (u : Value), (w.setCell ⟨g, o, none⟩ u).heap[h]? = w.heap[h]? := fun w o u => Below.heap_setCell w ⟨g, o, none⟩ u h hne
      show (putS w g k X).heap[h]? = _
      unfold putS
      rw [f, f, f, f]
    · show (putS w g k X).heap.size = _
      simp [putS]

theorem nilRing (A : Addr) (n c : Nat) : ∀ w, (binOp .eql 25 (.slice (some A) n c) (.slice none 0 0)).run Try.prog w = .ok (.bool false) w := fun w => by kernel_rfl

theorem cloneRing_any (v : Value) (l : List Sw) (w : World) (h : Rs w v l) (h0 : 0 < l.length) (h4 : l.length ≤ 8) :
    Calls Try.prog 29 #[v] w fun e w' => ∃ v' g, e = .returned v' ∧ OwnS w' g v' l ∧ w.heap.size ≤ g ∧ Below w.heap.size w w' := by
  obtain ⟨hl, A, c, rfl, h1, h2, h3⟩ := h
  obtain ⟨b, o, rfl, hb, hc⟩ := h3 h0
  have HC := Lib.hid hc
  have HL := Lib.hid hl
  obtain ⟨i0, hi, hz0, hz1, hz2⟩ := info_parts info_slot
  have HI := Lib.hid hi
  have HZ := Lib.hid (And.intro hz0 (And.intro hz1 hz2))
  clear hc hl h3 hi hz0 hz1 hz2
  go_enter Try.func29, Try.ntmps29
  have en := nilRing ⟨b, o, none⟩ l.length c
  go_wp2_with (at_builtin; refine wpList_append_own _ rfl _ _ 25 rfl w.heap.size 38 i0 (.agg slot0) 4 32 Try.underlying25 HI.out HZ.out.1 HZ.out.2.1 HZ.out.2.2 rfl (by decide) _ 0 [] rfl ?c0 ⟨b, o, none⟩ l.length c (ringC l) rfl HL.out ?c1 (ringC_one l) ?c3 ?c4 ?c5 ?_)
  case c0 => exact ⟨rfl, .inr ⟨w.heap.size, 0, #[], rfl, Nat.le_refl _, Box.new w 38 #[], Nat.le_refl _, Nat.zero_le _, rfl, rfl⟩⟩
  case c1 =>
    intro j u hu
    have k := HC.out j u hu
    have e : (⟨b, o, none⟩ : Addr).add j = ⟨b, o + j, none⟩ := by cases j <;> simp [Addr.add]
    rw [e]
    exact ((Below.refl w.heap.size w).alloc (Nat.le_refl _) _).cell (p := ⟨b, o + j, none⟩) hb |>.trans k
  case c3 => unfold maxLen; omega
  case c4 => omega
  case c5 => simp
  intro v' w1 own grow _
  have low : Below w.heap.size w w1 := (gAlloc (Below.refl _ _) _).grown grow (by simp) (fun g e => by simp [Value.ownBlock] at e; omega)
  try simp only [Nat.zero_add, List.nil_append] at own
  obtain ⟨o1, o2⟩ := own
  rcases o2 with ⟨_, o2⟩ | ⟨g, cap, cur, rfl, hg, hh, hn, hm, hs, ht⟩
  · omega
  have O := Lib.hid (show OwnS w1 g (.slice (some ⟨g, 0, none⟩) l.length cap) l from ⟨cap, cur, rfl, hh, hn, hm, hs, fun q y h r hr => ownS_at ht h r hr⟩)
  clear hh hs ht o1 grow
  go_wp2_with fail
  go_ret
  exact ⟨_, g, rfl, O.out, hg, low⟩

/-! A new ring. -/
def newS (n : Nat) : Array Value := madeCells slot0 (n * 4)
theorem newS_in {n q r : Nat} (h : q < n) (hr : r < 4) : (newS n)[q * 4 + r]? = sw0.cells[r]? := by
  unfold newS
  rw [Array.getElem?_eq_getElem (by rw [size_madeCells]; omega)]
  match r, hr with
  | 0, _ | 1, _ | 2, _ | 3, _ => simp [madeCells, Sw.cells]
theorem OwnS.new (w : World) (n : Nat) (hn : n ≤ maxLen) : OwnS (w.alloc (.cells (newS n) 38)) w.heap.size (.slice (some ⟨w.heap.size, 0, none⟩) n n) (List.replicate n sw0) := by
  refine ⟨n, newS n, by rw [List.length_replicate], Box.new w _ _, by rw [List.length_replicate]; exact Nat.le_refl _, hn, size_madeCells _ _, fun q y hq r hr => ?_⟩
  have hlt : q < n := by have := (List.getElem?_eq_some_iff.1 hq).1; simpa using this
  rw [List.getElem?_replicate, if_pos hlt] at hq
  cases hq
  exact newS_in hlt hr

theorem make_slots (n : Nat) (hn : n ≤ 8) (w : World) : (Instr.makeSlice 25 (.int .i64 n) (.int .i64 n)).run Try.prog w = .ok (.slice (some ⟨w.heap.size, 0, none⟩) n n) (w.alloc (.cells (newS n) 38)) := by
  obtain ⟨i0, hi, hz0, hz1, hz2⟩ := info_parts info_slot
  have := run_make w 25 38 i0 (.agg slot0) Try.underlying25 hi hz0 .i64 .i64 n n (by omega) (Int.le_refl _) (by rw [hz2]; omega) (by omega)
  rw [this, hz1]
  simp [newS, Value.cells]

/-- The first j slots of a new ring are laid. -/
def newR (n : Int) (m j : Nat) : List Sw := (List.range m).map fun (k : Nat) => if k < j then ⟨nodeAt n 0 k, false, 0, 0⟩ else sw0
theorem newR_length (n : Int) (m j : Nat) : (newR n m j).length = m := by simp [newR]
theorem newR_zero (n : Int) (m : Nat) : newR n m 0 = List.replicate m sw0 := by
  apply List.ext_getElem?
  intro i
  by_cases h : i < m <;> simp [newR, h]
theorem newR_at (n : Int) {m j k : Nat} (hk : k < m) (hj : j ≤ k) : (newR n m j)[k]? = some sw0 := by
  simp [newR, hk, Nat.not_lt.2 hj]
theorem newR_succ (n : Int) {m j : Nat} (hj : j < m) : (newR n m j).set j ⟨nodeAt n 0 j, false, 0, 0⟩ = newR n m (j + 1) := by
  apply List.ext_getElem?
  intro i
  by_cases e : i = j
  · subst e
    rw [List.getElem?_set_self (by rw [newR_length]; exact hj)]
    simp [newR, hj]
  · rw [List.getElem?_set_ne (fun h => e h.symm)]
    by_cases h : i < m
    · simp [newR, h]
      by_cases h2 : i < j
      · rw [if_pos h2, if_pos (by omega)]
      · rw [if_neg h2, if_neg (by omega)]
    · simp [newR, h]

theorem ringNew_bad (n s y b k : Int) (w : World) (hE : cntE n s y b k ≠ 0) : Calls Try.prog 6 #[cfg n s y b, .int .i64 k] w fun e w' =>
    e = .returned (.tuple #[.slice none 0 0, .int .i64 4]) ∧ Below w.heap.size w w' := by
  have C := Lib.hid fun w => checkSlots_any n s y b k w
  rw [cntE_bad hE] at C
  clear hE
  have low := Below.refl w.heap.size w
  have cb := boxNext low 23 #[.int .i64 n, .int .i64 s, .int .i64 y, .int .i64 b]
  replace low := gAlloc low (.cells #[.int .i64 n, .int .i64 s, .int .i64 y, .int .i64 b] 23)
  try simp only [World.size_alloc] at cb
  go_enter Try.func6, Try.ntmps6
  go_wp2_with fail
  (with_reducible refine (C.out _).mono ?_); rintro e w1 ⟨rfl, hb⟩
  replace cb := cb.call hb
  replace low := gCall low hb
  clear hb
  go_wp2_with fail
  go_ret2
  exact ⟨rfl, low⟩

set_option maxHeartbeats 1000000 in
theorem ringNew_ok (n s y b : Int) (m : Nat) (w : World) (hE : cntE n s y b m = 0) : Calls Try.prog 6 #[cfg n s y b, .int .i64 m] w fun e w' =>
    (∃ v', e = .returned (.tuple #[v', .int .i64 0]) ∧ FrS w' w.heap.size w'.heap.size v' (newR n m m)) ∧ Below w.heap.size w w' := by
  have C := Lib.hid fun w => checkSlots_any n s y b m w
  rw [hE] at C
  obtain ⟨g1, m1, m8⟩ := cntE_ok hE
  have hn : 2 ≤ n ∧ n ≤ 8 := by have := cfgB_iff.1 g1; omega
  have NO := Lib.hid fun (k : Nat) (hk : k < m) w => node_ok n s y b 0 k w g1 (by omega) (by omega) (by omega) (by omega)
  have MS := fun w => make_slots m (by omega) w
  clear hE g1
  have low := Below.refl w.heap.size w
  have cb := boxNext low 23 #[.int .i64 n, .int .i64 s, .int .i64 y, .int .i64 b]
  replace low := gAlloc low (.cells #[.int .i64 n, .int .i64 s, .int .i64 y, .int .i64 b] 23)
  try simp only [World.size_alloc] at cb
  go_enter Try.func6, Try.ntmps6
  go_wp2_with fail
  (with_reducible refine (C.out _).mono ?_); rintro e w1 ⟨rfl, hb⟩
  replace cb := cb.call hb
  replace low := gCall low hb
  clear hb
  clear C
  have z2 : w.heap.size < w1.heap.size := cb.lt
  have own := OwnS.new w1 m (by unfold maxLen; omega)
  rw [← newR_zero n m] at own
  have OW := Lib.hid own
  replace cb := cb.alloc (.cells (newS m) 38)
  replace low := gAlloc low (.cells (newS m) 38)
  clear own
  go_wp2_with fail
  clear MS
  go_loopw [21] (fun i wr => ∃ j : Nat, j ≤ m ∧ i = .int .i64 j ∧ Hid (OwnS wr w1.heap.size (.slice (some ⟨w1.heap.size, 0, none⟩) m m) (newR n m j)) ∧ Box wr w.heap.size 23 #[.int .i64 n, .int .i64 s, .int .i64 y, .int .i64 b] ∧ Below w.heap.size w wr) (fun i _ => m - (intOf i).toNat)
  case atStart => exact ⟨0, Nat.zero_le _, rfl, OW, cb, low⟩
  case round =>
    clear OW cb low
    obtain ⟨j, hj, rfl, own, cb, low⟩ := hrel
    by_cases hlt : j < m
    · have k0 : (0 : Int) ≤ j := by omega
      have k1 : (j : Int) < m := by omega
      have N := Lib.hid fun w => NO.out j hlt w
      have OW := Lib.hid fun w' (hb : Below wr.heap.size wr w') => ((own.out.call hb).head j sw0 (nodeAt n 0 j) (newR_at n hlt (Nat.le_refl j)))
      have FI := Lib.hid fun w' (hb : Below wr.heap.size wr w') => (own.out.call hb).first (k := j) (by rw [newR_length]; exact hlt)
      simp only [newR_succ n hlt] at OW
      generalize nodeAt n 0 j = a at *
      have zr := own.out.lt
      clear own
      have cb_0 := cb.at_ 0 rfl
      have cb_1 := cb.at_ 1 rfl
      have cb_2 := cb.at_ 2 rfl
      have cb_3 := cb.at_ 3 rfl
      go_wp2_with fail
      (with_reducible refine (N.out _).mono ?_); rintro e w2 ⟨rfl, hb⟩
      replace cb := cb.call hb
      replace low := gCall low hb
      have OW2 := Lib.hid (OW.out w2 hb)
      obtain ⟨u, cu, fu⟩ := FI.out w2 hb
      have z3 := hb.size
      clear hb OW FI
      clear cb_0 cb_1 cb_2 cb_3
      replace cb := cb.far (p := ⟨w1.heap.size, j * 4, none⟩) (by dsimp only; omega) (.int .i64 a)
      replace low := gSet low (p := ⟨w1.heap.size, j * 4, none⟩) (by dsimp only; omega) (.int .i64 a)
      go_wp2_with fail
      go_roundw
      case rel => exact ⟨j + 1, by omega, by go_num, OW2, cb, low⟩
      case measure => simp [intOf]; omega
    · obtain rfl : j = m := by omega
      have O := own.out
      have F := Lib.hid (show FrS wr w.heap.size wr.heap.size (.slice (some ⟨w1.heap.size, 0, none⟩) j j) (newR n j j) from ⟨_, by omega, O.lt, O⟩)
      clear own O
      go_wp2_with fail
      go_ret2
      exact ⟨⟨_, rfl, F.out⟩, low⟩

/-! What Put gives. -/
def freS (node : Int) (x : Sw) : Bool := !x.fu && x.pl == node
def putR (l : List Sw) (node t : Int) : List Sw := if idxS (freS node) l < 0 then l else l.set (idxS (freS node) l).toNat ⟨node, true, node, t⟩
def rputE (n s y b : Int) (l : List Sw) (node t : Int) : Int :=
  if ringE n s y b l = 0 then (if nodB n node = true ∧ waitB t = true then (if filB l node = true then 6 else 0) else 4) else ringE n s y b l

theorem ringE_cnt {n s y b : Int} {l : List Sw} (h : ringE n s y b l = 0) : cntE n s y b l.length = 0 := by
  unfold ringE at h
  by_cases e : cntE n s y b l.length = 0
  · exact e
  · rw [if_neg e] at h
    cases h

theorem rputE_ok {n s y b : Int} {l : List Sw} {node t : Int} (h : rputE n s y b l node t = 0) : ringE n s y b l = 0 ∧ nodB n node = true ∧ waitB t = true ∧ filB l node = false := by
  unfold rputE at h
  by_cases h0 : ringE n s y b l = 0
  · rw [if_pos h0] at h
    by_cases h1 : nodB n node = true ∧ waitB t = true
    · rw [if_pos h1] at h
      refine ⟨h0, h1.1, h1.2, ?_⟩
      cases e : filB l node
      · rfl
      · rw [e] at h; simp at h
    · rw [if_neg h1] at h; cases h
  · rw [if_neg h0] at h; exact absurd h h0

theorem put1_any (x : Sw) (node : Int) (g : Nat) (w : World) (hc : w.cell? ⟨g, 0, none⟩ = some (.int .i64 node)) :
    Calls Try.prog 30 #[x.val, .pointer (some ⟨g, 0, none⟩)] w fun e w' => e = .returned (.bool (freS node x)) ∧ Below w.heap.size w w' := by
  obtain ⟨a, f, n, t⟩ := x
  have hg := block_lt_of_cell hc
  unfold freS
  simp only at hg ⊢
  have low := Below.refl w.heap.size w
  cases f
  · generalize hq : (a == node) = B
    go_enter Try.func30, Try.ntmps30
    go_wp2_with fail
    go_ret
    exact ⟨rfl, gAlloc low _⟩
  · go_enter Try.func30, Try.ntmps30
    go_wp2_with fail
    go_ret
    exact ⟨rfl, gAlloc low _⟩

set_option maxHeartbeats 1000000 in
theorem ringPut_bad (n s y b : Int) (v : Value) (l : List Sw) (node t : Int) (w : World) (h : Rs w v l) (hE : rputE n s y b l node t ≠ 0) :
    Calls Try.prog 7 #[cfg n s y b, v, .int .i64 node, .int .i64 t] w fun e w' => e = .returned (.tuple #[.slice none 0 0, .bool false, .int .i64 (rputE n s y b l node t)]) ∧ Below w.heap.size w w' := by
  have C := Lib.hid fun w hw => ringCheck_any n s y b v l w hw
  have N1 := Lib.hid fun w => isNode_any n s y b node w
  have N2 := Lib.hid fun w => isWait_any t w
  have HF := Lib.hid fun w hw => hasFilled_any v l node w hw
  unfold rputE at hE ⊢
  by_cases h0 : ringE n s y b l = 0
  · rw [h0] at C
    rw [if_pos h0] at hE ⊢
    clear h0
    cases h1 : nodB n node
    · rw [h1] at N1
      rw [if_neg (by simp)]
      clear h1 hE N2 HF
      obtain ⟨A, c, rfl⟩ := h.shape
      have low := Below.refl w.heap.size w
      have cb := boxNext low 23 #[.int .i64 n, .int .i64 s, .int .i64 y, .int .i64 b]
      replace low := gAlloc low (.cells #[.int .i64 n, .int .i64 s, .int .i64 y, .int .i64 b] 23)
      replace h := h.alloc (.cells #[.int .i64 n, .int .i64 s, .int .i64 y, .int .i64 b] 23)
      try simp only [World.size_alloc] at cb
      have nb := boxNext low 3 #[.int .i64 node]
      replace low := gAlloc low (.cells #[.int .i64 node] 3)
      replace h := h.alloc (.cells #[.int .i64 node] 3)
      replace cb := cb.alloc (.cells #[.int .i64 node] 3)
      try simp only [World.size_alloc] at nb
      go_enter Try.func7, Try.ntmps7
      go_wp2_with fail
      (with_reducible refine (C.out _ h).mono ?_); rintro e w1 ⟨rfl, hb⟩
      replace h := h.call hb
      replace cb := cb.call hb
      replace nb := nb.call hb
      replace low := gCall low hb
      clear hb
      have cb_0 := cb.at_ 0 rfl
      have cb_1 := cb.at_ 1 rfl
      have cb_2 := cb.at_ 2 rfl
      have cb_3 := cb.at_ 3 rfl
      have nb_0 := nb.at_ 0 rfl
      go_wp2_with fail
      (with_reducible refine (N1.out _).mono ?_); rintro e w2 ⟨rfl, hb⟩
      replace h := h.call hb
      replace cb := cb.call hb
      replace nb := nb.call hb
      replace low := gCall low hb
      clear hb cb_0 cb_1 cb_2 cb_3 nb_0
      go_wp2_with fail
      go_ret3
      exact ⟨rfl, low⟩
    · rw [h1] at N1 hE
      cases h2 : waitB t
      · rw [h2] at N2
        rw [if_neg (by simp)]
        clear h1 h2 hE HF
        obtain ⟨A, c, rfl⟩ := h.shape
        have low := Below.refl w.heap.size w
        have cb := boxNext low 23 #[.int .i64 n, .int .i64 s, .int .i64 y, .int .i64 b]
        replace low := gAlloc low (.cells #[.int .i64 n, .int .i64 s, .int .i64 y, .int .i64 b] 23)
        replace h := h.alloc (.cells #[.int .i64 n, .int .i64 s, .int .i64 y, .int .i64 b] 23)
        try simp only [World.size_alloc] at cb
        have nb := boxNext low 3 #[.int .i64 node]
        replace low := gAlloc low (.cells #[.int .i64 node] 3)
        replace h := h.alloc (.cells #[.int .i64 node] 3)
        replace cb := cb.alloc (.cells #[.int .i64 node] 3)
        try simp only [World.size_alloc] at nb
        go_enter Try.func7, Try.ntmps7
        go_wp2_with fail
        (with_reducible refine (C.out _ h).mono ?_); rintro e w1 ⟨rfl, hb⟩
        replace h := h.call hb
        replace cb := cb.call hb
        replace nb := nb.call hb
        replace low := gCall low hb
        clear hb
        have cb_0 := cb.at_ 0 rfl
        have cb_1 := cb.at_ 1 rfl
        have cb_2 := cb.at_ 2 rfl
        have cb_3 := cb.at_ 3 rfl
        have nb_0 := nb.at_ 0 rfl
        go_wp2_with fail
        (with_reducible refine (N1.out _).mono ?_); rintro e w2 ⟨rfl, hb⟩
        replace h := h.call hb
        replace cb := cb.call hb
        replace nb := nb.call hb
        replace low := gCall low hb
        clear hb cb_0 cb_1 cb_2 cb_3 nb_0
        go_wp2_with fail
        (with_reducible refine (N2.out _).mono ?_); rintro e w3 ⟨rfl, rfl⟩
        go_wp2_with fail
        go_ret3
        exact ⟨rfl, low⟩
      · rw [h2] at N2 hE
        rw [if_pos ⟨rfl, rfl⟩] at hE ⊢
        have h3 : filB l node = true := by
          cases e : filB l node
          · rw [e] at hE; exact absurd rfl hE
          · rfl
        rw [h3] at HF
        rw [if_pos h3]
        clear h1 h2 h3 hE
        obtain ⟨A, c, rfl⟩ := h.shape
        have low := Below.refl w.heap.size w
        have cb := boxNext low 23 #[.int .i64 n, .int .i64 s, .int .i64 y, .int .i64 b]
        replace low := gAlloc low (.cells #[.int .i64 n, .int .i64 s, .int .i64 y, .int .i64 b] 23)
        replace h := h.alloc (.cells #[.int .i64 n, .int .i64 s, .int .i64 y, .int .i64 b] 23)
        try simp only [World.size_alloc] at cb
        have nb := boxNext low 3 #[.int .i64 node]
        replace low := gAlloc low (.cells #[.int .i64 node] 3)
        replace h := h.alloc (.cells #[.int .i64 node] 3)
        replace cb := cb.alloc (.cells #[.int .i64 node] 3)
        try simp only [World.size_alloc] at nb
        go_enter Try.func7, Try.ntmps7
        go_wp2_with fail
        (with_reducible refine (C.out _ h).mono ?_); rintro e w1 ⟨rfl, hb⟩
        replace h := h.call hb
        replace cb := cb.call hb
        replace nb := nb.call hb
        replace low := gCall low hb
        clear hb
        have cb_0 := cb.at_ 0 rfl
        have cb_1 := cb.at_ 1 rfl
        have cb_2 := cb.at_ 2 rfl
        have cb_3 := cb.at_ 3 rfl
        have nb_0 := nb.at_ 0 rfl
        go_wp2_with fail
        (with_reducible refine (N1.out _).mono ?_); rintro e w2 ⟨rfl, hb⟩
        replace h := h.call hb
        replace cb := cb.call hb
        replace nb := nb.call hb
        replace low := gCall low hb
        clear hb cb_0 cb_1 cb_2 cb_3 nb_0
        have nb_0 := nb.at_ 0 rfl
        go_wp2_with fail
        (with_reducible refine (N2.out _).mono ?_); rintro e w3 ⟨rfl, rfl⟩
        go_wp2_with fail
        (with_reducible refine (HF.out _ h).mono ?_); rintro e w4 ⟨rfl, hb⟩
        replace h := h.call hb
        replace cb := cb.call hb
        replace nb := nb.call hb
        replace low := gCall low hb
        clear hb nb_0
        go_wp2_with fail
        go_ret3
        exact ⟨rfl, low⟩
  · rw [if_neg h0]
    generalize ringE n s y b l = E at *
    have h0' : (E != 0) = true := by simpa using h0
    clear h0 hE N1 N2 HF
    obtain ⟨A, c, rfl⟩ := h.shape
    have low := Below.refl w.heap.size w
    have cb := boxNext low 23 #[.int .i64 n, .int .i64 s, .int .i64 y, .int .i64 b]
    replace low := gAlloc low (.cells #[.int .i64 n, .int .i64 s, .int .i64 y, .int .i64 b] 23)
    replace h := h.alloc (.cells #[.int .i64 n, .int .i64 s, .int .i64 y, .int .i64 b] 23)
    try simp only [World.size_alloc] at cb
    have nb := boxNext low 3 #[.int .i64 node]
    replace low := gAlloc low (.cells #[.int .i64 node] 3)
    replace h := h.alloc (.cells #[.int .i64 node] 3)
    replace cb := cb.alloc (.cells #[.int .i64 node] 3)
    try simp only [World.size_alloc] at nb
    go_enter Try.func7, Try.ntmps7
    go_wp2_with fail
    (with_reducible refine (C.out _ h).mono ?_); rintro e w1 ⟨rfl, hb⟩
    replace h := h.call hb
    replace cb := cb.call hb
    replace nb := nb.call hb
    replace low := gCall low hb
    clear hb
    go_wp2_with fail
    go_ret3
    exact ⟨rfl, low⟩

set_option maxHeartbeats 2000000 in
theorem ringPut_ok (n s y b : Int) (v : Value) (l : List Sw) (node t : Int) (w : World) (h : Rs w v l) (hE : rputE n s y b l node t = 0) :
    Calls Try.prog 7 #[cfg n s y b, v, .int .i64 node, .int .i64 t] w fun e w' =>
      (∃ v', e = .returned (.tuple #[v', .bool (l.any (freS node)), .int .i64 0]) ∧ FrS w' w.heap.size w'.heap.size v' (putR l node t)) ∧ Below w.heap.size w w' := by
  obtain ⟨e1, e2, e3, e4⟩ := rputE_ok hE
  obtain ⟨_, m1, m8⟩ := cntE_ok (ringE_cnt e1)
  have C := Lib.hid fun w hw => ringCheck_any n s y b v l w hw
  have N1 := Lib.hid fun w => isNode_any n s y b node w
  have N2 := Lib.hid fun w => isWait_any t w
  have HF := Lib.hid fun w hw => hasFilled_any v l node w hw
  have CL := Lib.hid fun w hw => cloneRing_any v l w hw (by omega) (by omega)
  have IX := Lib.hid (fun (W : World) (v' : Value) (hr : Rs W v' l) (hc : Box W (w.heap.size + 1) 3 #[.int .i64 node]) => indexSlot 30 (fun _ _ => by kernel_rfl) (w.heap.size + 1) (freS node) v' l W hr (fun x W' hb => put1_any x node (w.heap.size + 1) W' ((hc.call hb).at_ 0 rfl)))
  rw [e1] at C
  rw [e2] at N1
  rw [e3] at N2
  rw [e4] at HF
  clear hE e1 e2 e3 e4
  unfold putR
  rw [← idxS_any]
  have IC := Lib.hid (idxS_cases (freS node) l)
  generalize idxS (freS node) l = i at *
  obtain ⟨A, c, rfl⟩ := h.shape
  have low := Below.refl w.heap.size w
  have cb := boxNext low 23 #[.int .i64 n, .int .i64 s, .int .i64 y, .int .i64 b]
  replace low := gAlloc low (.cells #[.int .i64 n, .int .i64 s, .int .i64 y, .int .i64 b] 23)
  replace h := h.alloc (.cells #[.int .i64 n, .int .i64 s, .int .i64 y, .int .i64 b] 23)
  try simp only [World.size_alloc] at cb
  have nb := boxNext low 3 #[.int .i64 node]
  replace low := gAlloc low (.cells #[.int .i64 node] 3)
  replace h := h.alloc (.cells #[.int .i64 node] 3)
  replace cb := cb.alloc (.cells #[.int .i64 node] 3)
  try simp only [World.size_alloc] at nb
  go_enter Try.func7, Try.ntmps7
  go_wp2_with fail
  (with_reducible refine (C.out _ h).mono ?_); rintro e w1 ⟨rfl, hb⟩
  replace h := h.call hb
  replace cb := cb.call hb
  replace nb := nb.call hb
  replace low := gCall low hb
  clear hb
  have cb_0 := cb.at_ 0 rfl
  have cb_1 := cb.at_ 1 rfl
  have cb_2 := cb.at_ 2 rfl
  have cb_3 := cb.at_ 3 rfl
  have nb_0 := nb.at_ 0 rfl
  go_wp2_with fail
  (with_reducible refine (N1.out _).mono ?_); rintro e w2 ⟨rfl, hb⟩
  replace h := h.call hb
  replace cb := cb.call hb
  replace nb := nb.call hb
  replace low := gCall low hb
  clear hb cb_0 cb_1 cb_2 cb_3 nb_0
  have nb_0 := nb.at_ 0 rfl
  go_wp2_with fail
  (with_reducible refine (N2.out _).mono ?_); rintro e w3 ⟨rfl, rfl⟩
  go_wp2_with fail
  (with_reducible refine (HF.out _ h).mono ?_); rintro e w4 ⟨rfl, hb⟩
  replace h := h.call hb
  replace cb := cb.call hb
  replace nb := nb.call hb
  replace low := gCall low hb
  clear hb nb_0
  have z4 := nb.lt
  go_wp2_with fail
  (with_reducible refine (CL.out _ h).mono ?_); rintro e w5 ⟨v', g, rfl, own, hg, hb⟩
  replace nb := nb.call hb
  replace low := gCall low hb
  clear hb C N1 N2 HF CL cb
  obtain ⟨c', cur, rfl, o1, o2, o3, o4, o5⟩ := own
  have OW := Lib.hid (show OwnS w5 g (.slice (some ⟨g, 0, none⟩) l.length c') l from ⟨c', cur, rfl, o1, o2, o3, o4, o5⟩)
  clear o1 o2 o3 o4 o5
  go_wp2_with fail
  (with_reducible refine (IX.out _ _ OW.out.rs nb).mono ?_); rintro e w6 ⟨rfl, hb⟩
  replace nb := nb.call hb
  replace low := gCall low hb
  replace OW := Lib.hid (OW.out.call hb)
  clear hb IX
  rcases IC.out with ⟨rfl, _⟩ | ⟨k, x, rfl, hx, _⟩
  · have F := Lib.hid (show FrS w6 w.heap.size w6.heap.size (.slice (some ⟨g, 0, none⟩) l.length c') l from ⟨g, by omega, OW.out.lt, OW.out⟩)
    clear OW
    go_wp2_with fail
    go_ret3
    exact ⟨⟨_, rfl, F.out⟩, low⟩
  · have hk := (List.getElem?_eq_some_iff.1 hx).1
    have k0 : (0 : Int) ≤ k := by omega
    have k1 : (k : Int) < l.length := by omega
    have k2 : decide ((k : Int) < 0) = false := decide_eq_false (by omega)
    have k4 : decide ((0 : Int) ≤ k) = true := decide_eq_true (by omega)
    have HK := Lib.hid hk
    clear hx hk
    have nb_0 := nb.at_ 0 rfl
    go_wp2_with (refine wpList_put_slot rfl (.tmp 48) (.tmp 47) rfl g _ l k ⟨node, true, node, t⟩ OW.out HK.out rfl rfl ?_)
    intro w7 own st
    replace low := st.low low (by omega)
    have F := Lib.hid (show FrS w7 w.heap.size w7.heap.size (.slice (some ⟨g, 0, none⟩) l.length c') (l.set k ⟨node, true, node, t⟩) from ⟨g, by omega, own.lt, own⟩)
    clear own st OW nb
    go_wp2_with fail
    go_ret3
    exact ⟨⟨_, rfl, F.out⟩, low⟩
end Go.Proofs.Ytiefeeondeablaa
