/-
Proved: what the functions of package row return, for every set that can be read; none of them changes anything that was there. No condition.
-/
import Derived.Test.YtopdcibbiaeakaaWay
import Derived.Test.YtopdcibbiaeakaaPlru3
import Derived.Test.YtopdcibbiaeakaaStored
namespace Go.Proofs.Ytopdcibbiaeakaa
open Go.ChangeShapes Go.WideShapes Go.ChangeAt Go.RowKit Go.Joins

theorem info_way : (Try.prog.info? 43).map (fun i => (i.zero, i.size, i.bytes)) = some (some wy0.val, 6, 48) := by kernel_rfl

theorem waysC_one (l : List Wy) : ∀ u ∈ waysC l, u.oneCell' = true := by
  intro u hu
  simp only [waysC, List.mem_flatMap] at hu
  obtain ⟨x, _, hx⟩ := hu
  simp [Wy.cells] at hx
  rcases hx with rfl | rfl | rfl | rfl | rfl | rfl <;> rfl

/-- The slice lies in block 'g', which is known whole and of which the ways are the first. -/
def Own (w : World) (g : Nat) (v : Value) (l : List Wy) : Prop :=
  ∃ cap cur, v = .slice (some ⟨g, 0, none⟩) l.length cap ∧ Box w g 43 cur ∧ l.length ≤ cap ∧ cap ≤ maxLen ∧ cur.size = cap * 6 ∧ ∀ (q : Nat) (y : Wy), l[q]? = some y → ∀ r, r < 6 → cur[q * 6 + r]? = y.cells[r]?

theorem own_at {cur : Array Value} {l : List Wy} (ht : cur.toList.take (l.length * 6) = waysC l) {k : Nat} {x : Wy} (h : l[k]? = some x) (j : Nat) (hj : j < 6) : cur[k * 6 + j]? = x.cells[j]? := by
  have hk : k < l.length := (List.getElem?_eq_some_iff.1 h).1
  rw [← waysC_at h j hj, ← ht, List.getElem?_take, if_pos (by omega), Array.getElem?_toList]


/-- A way stored into a slice of one's own. -/
def putW (w : World) (g k : Nat) (x : Wy) : World :=
  (((((w.setCell ⟨g, k * 6, none⟩ (.int .i64 x.st)).setCell ⟨g, k * 6 + 1, none⟩ (.int .i64 x.ln)).setCell ⟨g, k * 6 + 2, none⟩ (.int .u64 x.a)).setCell ⟨g, k * 6 + 3, none⟩ (.int .u64 x.b)).setCell ⟨g, k * 6 + 4, none⟩ (.int .u64 x.c)).setCell ⟨g, k * 6 + 5, none⟩ (.int .u64 x.d)

theorem Own.ws {w : World} {g : Nat} {v : Value} {l : List Wy} (h : Own w g v l) : Ws w v l := by
  obtain ⟨cap, cur, rfl, hb, hn, hm, hs, ht⟩ := h
  refine ⟨waysC_length l, some ⟨g, 0, none⟩, cap, rfl, hn, hm, fun _ => ⟨g, 0, rfl, hb.lt, fun j u hu => ?_⟩⟩
  rw [hb.cell, Nat.zero_add]
  have hj : j < l.length * 6 := by
    have := (List.getElem?_eq_some_iff.1 hu).1
    rwa [waysC_length] at this
  have hq : j / 6 < l.length := by omega
  have hjq : j / 6 * 6 + j % 6 = j := by omega
  have h1 := ht (j / 6) l[j / 6] (List.getElem?_eq_getElem hq) (j % 6) (by omega)
  have h2 := waysC_at (List.getElem?_eq_getElem hq) (j % 6) (by omega)
  rw [hjq] at h1 h2
  rw [h1, ← h2, hu]

theorem Own.far {w : World} {g : Nat} {v : Value} {l : List Wy} (h : Own w g v l) {p : Addr} (hp : g ≠ p.block) (u : Value) : Own (w.setCell p u) g v l := by
  obtain ⟨cap, cur, rfl, hb, r⟩ := h
  exact ⟨cap, cur, rfl, hb.far hp u, r⟩

theorem Own.put {w : World} {g : Nat} {v : Value} {l : List Wy} (h : Own w g v l) (k : Nat) (x : Wy) (hk : k < l.length) : Own (putW w g k x) g v (l.set k x) := by
  obtain ⟨cap, cur, rfl, hb, hn, hm, hs, ht⟩ := h
  have box : Box (putW w g k x) g 43 _ := ((((((hb.set (k * 6) (.int .i64 x.st)).set (k * 6 + 1) (.int .i64 x.ln)).set (k * 6 + 2) (.int .u64 x.a)).set (k * 6 + 3) (.int .u64 x.b)).set (k * 6 + 4) (.int .u64 x.c)).set (k * 6 + 5) (.int .u64 x.d))
  refine ⟨cap, _, by rw [List.length_set], box, by rw [List.length_set]; exact hn, hm, by simpa using hs, fun q y hy r hr6 => ?_⟩
  by_cases e : q = k
  · subst e
    rw [List.getElem?_set_self hk] at hy
    cases hy
    have hsz : q * 6 + 5 < cur.size := by omega
    match r, hr6 with
    | 0, _ | 1, _ | 2, _ | 3, _ | 4, _ | 5, _ =>
      simp [Array.getElem?_setIfInBounds, Wy.cells]
      omega
  · rw [List.getElem?_set_ne (fun h => e h.symm)] at hy
    have := ht q y hy r hr6
    simp only [Array.getElem?_setIfInBounds]
    repeat rw [if_neg (by omega)]
    exact this

/-- A slice that is new: it lies in no block below 'B', and in none from 'C' on. -/
def Fr (w : World) (B C : Nat) (v : Value) (l : List Wy) : Prop := (v = .slice none 0 0 ∧ l = []) ∨ ∃ g, B ≤ g ∧ g < C ∧ Own w g v l

section
variable {w w' : World} {B B' C C' : Nat} {v : Value} {l : List Wy}
theorem Fr.nil (w : World) (B C : Nat) : Fr w B C (.slice none 0 0) [] := .inl ⟨rfl, rfl⟩
theorem Fr.ws (h : Fr w B C v l) : Ws w v l := by
  rcases h with ⟨rfl, rfl⟩ | ⟨g, _, _, h⟩
  · exact Ws.nil w
  · exact h.ws
theorem Fr.shape (h : Fr w B C v l) : ∃ A c, v = .slice A l.length c := by
  obtain ⟨_, A, c, e, _⟩ := h.ws
  exact ⟨A, c, e⟩
theorem Fr.far (h : Fr w B C v l) {p : Addr} (hp : p.block < B ∨ C ≤ p.block) (u : Value) : Fr (w.setCell p u) B C v l := by
  rcases h with h | ⟨g, hg, hc, h⟩
  · exact .inl h
  · exact .inr ⟨g, hg, hc, h.far (by omega) u⟩
theorem Fr.more (h : Fr w B C v l) (hB : B' ≤ B) (hC : C ≤ C') : Fr w B' C' v l := by
  rcases h with h | ⟨g, hg, hc, h⟩
  · exact .inl h
  · exact .inr ⟨g, by omega, by omega, h⟩
theorem Fr.call (h : Fr w B C v l) (hb : Below w.heap.size w w') : Fr w' B C v l := by
  rcases h with h | ⟨g, hg, hc, cap, cur, rfl, h1, h2⟩
  · exact .inl h
  · exact .inr ⟨g, hg, hc, cap, cur, rfl, h1.call hb, h2⟩
theorem Fr.alloc (h : Fr w B C v l) (o : Obj) : Fr (w.alloc o) B C v l := h.call (gAlloc (Below.refl _ _) o)
theorem Own.lt {g : Nat} (h : Own w g v l) : g < w.heap.size := by
  obtain ⟨_, _, _, hb, _⟩ := h
  exact hb.lt
end

theorem low_put {B : Nat} {w w' : World} {g k : Nat} {x : Wy} (h : Below B w w') (hg : B ≤ g) : Below B w (putW w' g k x) := by
  unfold putW
  exact (((((h.setCell hg _).setCell hg _).setCell hg _).setCell hg _).setCell hg _).setCell hg _

theorem size_way : (Try.prog.info? 43).map (·.size) = some 6 := by kernel_rfl

section
variable {w w' : World} {g : Nat}
theorem Stored.fr (st : Stored w g w') {B C : Nat} {v : Value} {l : List Wy} (h : Fr w B C v l) (hg : g < B ∨ C ≤ g) : Fr w' B C v l := by
  rcases h with h | ⟨x, hx, hc, cap, cur, rfl, h1, h2⟩
  · exact .inl h
  · exact .inr ⟨x, hx, hc, cap, cur, rfl, st.box h1 (by omega), h2⟩
end

theorem wpList_put_way {ops : Array Oper} {rest : List Oper} {op : Oper} {a : Act} {w : World} {Q : Exit → Act → World → Prop} (hgd : op.guard = none) (x y : Operand) (ho : op.op = .store 43 x y)
    (g : Nat) (v : Value) (l : List Wy) (k : Nat) (X : Wy) (own : Own w g v l) (hk : k < l.length) (hx : a.eval x = .pointer (some ⟨g, k * 6, none⟩)) (hy : a.eval y = X.val)
    (h : ∀ w', Own w' g v (l.set k X) → Stored w g w' → wpList Try.prog ops Q rest (a.put op.dst undef) w') : wpList Try.prog ops Q (op :: rest) a w := by
  refine wpList_store_mid hgd 43 x y ho g (k * 6) X.arr hx hy ?_ size_way (by simp [Value.oneCell']) ?_
  · obtain ⟨cap, cur, rfl, hbx, hn, hm, hs, ht⟩ := own
    intro j hj
    have hj6 : j < 6 := hj
    refine ⟨?_, hbx.frozen _⟩
    rw [hbx.cell, ht k _ (List.getElem?_eq_getElem hk) j hj6]
    match j, hj6 with
    | 0, _ | 1, _ | 2, _ | 3, _ | 4, _ | 5, _ => rfl
  · refine h _ (own.put k X hk) ⟨fun {h} hne => ?_, ?_, fun b hB => low_put b hB⟩
    · have f : ∀ (w : World) (o : Nat) (u : Value), (w.setCell ⟨g, o, none⟩ u).heap[h]? = w.heap[h]? := fun w o u => Below.heap_setCell w ⟨g, o, none⟩ u h hne
      show (putW w g k X).heap[h]? = _
      unfold putW
      rw [f, f, f, f, f, f]
    · show (putW w g k X).heap.size = _
      simp [putW]


/-- The place for a new line. -/
def roomN (l : List Wy) (a b c : Bool) (n : Int) : Int := if idxP empW l < 0 then victimN a b c n else idxP empW l



theorem waysC_one1 (x : Wy) : ∀ u ∈ x.cells, u.oneCell' = true := by
  intro u hu
  simp [Wy.cells] at hu
  rcases hu with rfl | rfl | rfl | rfl | rfl | rfl <;> rfl

theorem own_shape {w : World} {base size n : Nat} {e : TypeId} {v : Value} {xs : List Value} (h : w.ownsRow base e size v n xs) : ∃ A c, v = .slice A n c := by
  rcases h.2 with ⟨rfl, rfl⟩ | ⟨g, cap, cur, rfl, _⟩
  · exact ⟨_, _, rfl⟩
  · exact ⟨_, _, rfl⟩

/-- The cells of a way in a block that is new. -/
theorem new_cells (w : World) (t : TypeId) (x : Wy) (g q : Nat) (u : Value) (hg : g = w.heap.size) (h : x.cells[q]? = some u) : (w.alloc (.cells x.arr t)).cell? ((⟨g, 0, none⟩ : Addr).add q) = some u := by
  subst hg
  have e : (⟨w.heap.size, 0, none⟩ : Addr).add q = ⟨w.heap.size, q, none⟩ := by cases q <;> simp [Addr.add]
  rw [e, (Box.new w t x.arr).cell, ← h]
  simp [Wy.cells]

/-- What a call has gathered by itself is new. -/
theorem fr_own {w : World} {base n : Nat} {v : Value} {xs : List Value} {l : List Wy} (h : w.ownsRow base 43 6 v n xs) (hx : xs = waysC l) (hn : n = l.length) : Fr w base w.heap.size v l := by
  subst hx hn
  rcases h.2 with ⟨rfl, h0⟩ | ⟨g, cap, cur, rfl, hg, hh, h1, h2, h3, h4⟩
  · exact .inl ⟨rfl, List.eq_nil_of_length_eq_zero h0⟩
  · have own : Own w g (.slice (some ⟨g, 0, none⟩) l.length cap) l := ⟨cap, cur, rfl, hh, h1, h2, h3, fun q y hy r hr => own_at h4 hy r hr⟩
    exact .inr ⟨g, hg, own.lt, own⟩
theorem fr_of_own {w : World} {g B : Nat} {v : Value} {l : List Wy} (h : Own w g v l) (hB : B ≤ g) : Fr w B w.heap.size v l := .inr ⟨g, hB, h.lt, h⟩
end Go.Proofs.Ytopdcibbiaeakaa
