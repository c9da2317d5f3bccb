/-
Proved: words for caches of a call's own; what replace of package cache returns. Conditions: the cache has at most four sets, each of one to four ways.
-/
import Derived.Test.YtmodajmjmdigfaaCache2
import Derived.Laws.MakeOwn
namespace Go.Proofs.Ytmodajmjmdigfaa
open Go.ChangeShapes Go.WideShapes Go.ChangeAt Go.RowKit Go.Joins

/-- The cells of set 'q' in a block. -/
def SetIn (cur : Array Value) (q : Nat) (u : Value) (t : St) : Prop :=
  cur[q * 4]? = some u ∧ cur[q * 4 + 1]? = some (.bool t.a) ∧ cur[q * 4 + 2]? = some (.bool t.b) ∧ cur[q * 4 + 3]? = some (.bool t.c)

/-- The ways are new, and do not lie in block 'g'. -/
def Frx (w : World) (B C g : Nat) (u : Value) (l : List Wy) : Prop := Fr w B g u l ∨ Fr w (g + 1) C u l

/-- The slice lies in block 'g', which is known whole and of which the sets are the first; their ways are new. -/
def OwnC (w : World) (B C g : Nat) (v : Value) (ss : List St) : Prop :=
  ∃ cap cur, v = .slice (some ⟨g, 0, none⟩) ss.length cap ∧ Box w g 26 cur ∧ ss.length ≤ cap ∧ cap ≤ maxLen ∧ cur.size = cap * 4 ∧ ∀ (q : Nat) (t : St), ss[q]? = some t → ∃ u, SetIn cur q u t ∧ Frx w B C g u t.l

/-- A cache that is new: it lies in no block below 'B', and in none from 'C' on. -/
def CFr (w : World) (B C : Nat) (v : Value) (ss : List St) : Prop := (v = .slice none 0 0 ∧ ss = []) ∨ ∃ g, B ≤ g ∧ g < C ∧ OwnC w B C g v ss

section
variable {w w' : World} {B B' C C' g : Nat} {v u : Value} {l : List Wy} {ss : List St}
theorem Frx.call (h : Frx w B C g u l) (hb : Below w.heap.size w w') : Frx w' B C g u l := h.imp (·.call hb) (·.call hb)
theorem Frx.more (h : Frx w B C g u l) (hB : B' ≤ B) (hC : C ≤ C') : Frx w B' C' g u l := h.imp (·.more hB (Nat.le_refl _)) (·.more (Nat.le_refl _) hC)
theorem Frx.stored (h : Frx w B C g u l) (st : Stored w g w') : Frx w' B C g u l := h.imp (fun k => st.fr k (.inr (Nat.le_refl _))) (fun k => st.fr k (.inl (Nat.lt_succ_self _)))
theorem Frx.out (h : Frx w B C g u l) {x : Nat} (st : Stored w x w') (hx : x < B ∨ C ≤ x) (hB : B ≤ g) (hC : g < C) : Frx w' B C g u l := h.imp (fun k => st.fr k (by omega)) (fun k => st.fr k (by omega))
theorem Frx.ws (h : Frx w B C g u l) : Ws w u l := h.elim (·.ws) (·.ws)
theorem Frx.nil (w : World) (B C g : Nat) : Frx w B C g (.slice none 0 0) [] := .inl (Fr.nil _ _ _)
theorem Frx.fr (h : Frx w B C g u l) (hB : B ≤ g) (hC : g < C) : Fr w B C u l := h.elim (·.more (Nat.le_refl _) (by omega)) (·.more (by omega) (Nat.le_refl _))

theorem OwnC.lt (h : OwnC w B C g v ss) : g < w.heap.size := by
  obtain ⟨_, _, _, hb, _⟩ := h
  exact hb.lt
theorem OwnC.call (h : OwnC w B C g v ss) (hb : Below w.heap.size w w') : OwnC w' B C g v ss := by
  obtain ⟨cap, cur, e, h1, h2, h3, h4, h5⟩ := h
  refine ⟨cap, cur, e, h1.call hb, h2, h3, h4, fun q t hq => ?_⟩
  obtain ⟨u, k1, k2⟩ := h5 q t hq
  exact ⟨u, k1, k2.call hb⟩
theorem OwnC.more (h : OwnC w B C g v ss) (hB : B' ≤ B) (hC : C ≤ C') : OwnC w B' C' g v ss := by
  obtain ⟨cap, cur, e, h1, h2, h3, h4, h5⟩ := h
  refine ⟨cap, cur, e, h1, h2, h3, h4, fun q t hq => ?_⟩
  obtain ⟨u, k1, k2⟩ := h5 q t hq
  exact ⟨u, k1, k2.more hB hC⟩
theorem OwnC.alloc (h : OwnC w B C g v ss) (o : Obj) : OwnC (w.alloc o) B C g v ss := h.call (gAlloc (Below.refl _ _) o)
theorem OwnC.drew (h : OwnC w B C g v ss) : OwnC w.drew B C g v ss := h.call (Below.refl _ _).drew

theorem OwnC.cs (h : OwnC w B C g v ss) : Cs w v ss := by
  obtain ⟨cap, cur, rfl, h1, h2, h3, h4, h5⟩ := h
  refine ⟨some ⟨g, 0, none⟩, cap, rfl, h2, h3, fun _ => ⟨g, 0, rfl, h1.lt, ⟨fun k t hk => ?_⟩⟩⟩
  obtain ⟨u, ⟨k0, k1, k2, k3⟩, k4⟩ := h5 k t hk
  obtain ⟨_, A, c, rfl, _⟩ := k4.ws
  refine ⟨A, c, ⟨?_, ?_, ?_, ?_⟩, k4.ws⟩
  · rw [h1.cell, Nat.zero_add]; exact k0
  · rw [h1.cell, Nat.zero_add]; exact k1
  · rw [h1.cell, Nat.zero_add]; exact k2
  · rw [h1.cell, Nat.zero_add]; exact k3

theorem OwnC.out (h : OwnC w B C g v ss) {x : Nat} (st : Stored w x w') (hx : x < B ∨ C ≤ x) (hB : B ≤ g) (hC : g < C) : OwnC w' B C g v ss := by
  obtain ⟨cap, cur, e, h1, h2, h3, h4, h5⟩ := h
  refine ⟨cap, cur, e, st.box h1 (by omega), h2, h3, h4, fun q t hq => ?_⟩
  obtain ⟨u, k1, k2⟩ := h5 q t hq
  exact ⟨u, k1, k2.out st hx hB hC⟩

theorem CFr.nil (w : World) (B C : Nat) : CFr w B C (.slice none 0 0) [] := .inl ⟨rfl, rfl⟩
theorem CFr.cs (h : CFr w B C v ss) : Cs w v ss := by
  rcases h with ⟨rfl, rfl⟩ | ⟨g, _, _, h⟩
  · exact Cs.nil w
  · exact h.cs
theorem CFr.shape (h : CFr w B C v ss) : ∃ A c, v = .slice A ss.length c := by
  obtain ⟨A, c, e, _⟩ := h.cs
  exact ⟨A, c, e⟩
theorem CFr.call (h : CFr w B C v ss) (hb : Below w.heap.size w w') : CFr w' B C v ss := h.imp id fun ⟨g, h1, h2, h3⟩ => ⟨g, h1, h2, h3.call hb⟩
theorem CFr.more (h : CFr w B C v ss) (hB : B' ≤ B) (hC : C ≤ C') : CFr w B' C' v ss := h.imp id fun ⟨g, h1, h2, h3⟩ => ⟨g, by omega, by omega, h3.more hB hC⟩
theorem CFr.out (h : CFr w B C v ss) {x : Nat} (st : Stored w x w') (hx : x < B ∨ C ≤ x) : CFr w' B C v ss := h.imp id fun ⟨g, h1, h2, h3⟩ => ⟨g, h1, h2, h3.out st hx h1 h2⟩
theorem CFr.alloc (h : CFr w B C v ss) (o : Obj) : CFr (w.alloc o) B C v ss := h.call (gAlloc (Below.refl _ _) o)
end

theorem CFr.far {w : World} {B C : Nat} {v : Value} {ss : List St} (h : CFr w B C v ss) {p : Addr} (hp : p.block < B ∨ C ≤ p.block) (x : Value) : CFr (w.setCell p x) B C v ss := h.out (Stored.cell1 w p x) hp

theorem set4_ne {cur : Array Value} {k i : Nat} {a b c d : Value} (h : i < k * 4 ∨ k * 4 + 3 < i) : ((((cur.setIfInBounds (k * 4) a).setIfInBounds (k * 4 + 1) b).setIfInBounds (k * 4 + 2) c).setIfInBounds (k * 4 + 3) d)[i]? = cur[i]? := by
  simp only [Array.getElem?_setIfInBounds]
  repeat rw [if_neg (by omega)]

/-- A set stored into a cache of one's own. -/
theorem wp_put_set {op : Oper} {a : Act} {w : World} {K : Act → World → Prop} {Q : Exit → Act → World → Prop} (x y : Operand) (ho : op.op = .store 26 x y)
    (B C g : Nat) (v : Value) (L : List St) (k : Nat) (A : Option Addr) (c : Nat) (t : St) (own : OwnC w B C g v L) (hk : k < L.length) (fr : Frx w B C g (.slice A t.l.length c) t.l)
    (hx : a.eval x = .pointer (some ⟨g, k * 4, none⟩)) (hy : a.eval y = rowV (.slice A t.l.length c) t.a t.b t.c)
    (h : ∀ w', OwnC w' B C g v (L.set k t) → Stored w g w' → K (a.put op.dst undef) w') : op.wp Try.prog a w K Q := by
  obtain ⟨cap, cur, rfl, hb, h2, h3, h4, h5⟩ := own
  refine wp_store_mid 26 x y ho g (k * 4) (rowA (.slice A t.l.length c) t.a t.b t.c) hx hy ?_ size_row (by simp [Value.oneCell']) ?_
  · intro j hj
    have hj4 : j < 4 := hj
    refine ⟨?_, hb.frozen _⟩
    rw [hb.cell, Array.getElem?_eq_getElem (by omega)]
    rfl
  · have b1 := (((hb.set (k * 4) (.slice A t.l.length c)).set (k * 4 + 1) (.bool t.a)).set (k * 4 + 2) (.bool t.b)).set (k * 4 + 3) (.bool t.c)
    have st : Stored w g ((((w.setCell ⟨g, k * 4, none⟩ (.slice A t.l.length c)).setCell ⟨g, k * 4 + 1, none⟩ (.bool t.a)).setCell ⟨g, k * 4 + 2, none⟩ (.bool t.b)).setCell ⟨g, k * 4 + 3, none⟩ (.bool t.c)) :=
      (((Stored.cell1 w ⟨g, k * 4, none⟩ _).trans (Stored.cell1 _ ⟨g, k * 4 + 1, none⟩ _)).trans (Stored.cell1 _ ⟨g, k * 4 + 2, none⟩ _)).trans (Stored.cell1 _ ⟨g, k * 4 + 3, none⟩ _)
    refine h _ ⟨cap, _, by rw [List.length_set], b1, by rw [List.length_set]; exact h2, h3, by simpa using h4, fun q z hz => ?_⟩ st
    by_cases e : q = k
    · subst e
      rw [List.getElem?_set_self hk] at hz
      cases hz
      refine ⟨_, ?_, fr.stored st⟩
      have hsz : q * 4 + 3 < cur.size := by omega
      refine ⟨?_, ?_, ?_, ?_⟩ <;> (simp [Array.getElem?_setIfInBounds]; omega)
    · rw [List.getElem?_set_ne (fun h => e h.symm)] at hz
      obtain ⟨u, ⟨k0, k1, k2, k3⟩, k4⟩ := h5 q z hz
      exact ⟨u, ⟨(set4_ne (by omega)).trans k0, (set4_ne (by omega)).trans k1, (set4_ne (by omega)).trans k2, (set4_ne (by omega)).trans k3⟩, k4.stored st⟩

theorem wpList_put_set {ops : Array Oper} {rest : List Oper} {op : Oper} {a : Act} {w : World} {Q : Exit → Act → World → Prop} (hgd : op.guard = none) (x y : Operand) (ho : op.op = .store 26 x y)
    (B C g : Nat) (v : Value) (L : List St) (k : Nat) (A : Option Addr) (c : Nat) (t : St) (own : OwnC w B C g v L) (hk : k < L.length) (fr : Frx w B C g (.slice A t.l.length c) t.l)
    (hx : a.eval x = .pointer (some ⟨g, k * 4, none⟩)) (hy : a.eval y = rowV (.slice A t.l.length c) t.a t.b t.c)
    (h : ∀ w', OwnC w' B C g v (L.set k t) → Stored w g w' → wpList Try.prog ops Q rest (a.put op.dst undef) w') : wpList Try.prog ops Q (op :: rest) a w :=
  wpList_plain hgd fun _ hK => wp_put_set x y ho B C g v L k A c t own hk fr hx hy fun w' h1 h2 => hK _ _ (h w' h1 h2)

/-- A set without a way. -/
def st0 : St := ⟨[], false, false, false⟩

/-- The first 'k' of a list, the others without a way. -/
def partL (L : List St) (k : Nat) : List St := L.take k ++ List.replicate (L.length - k) st0
theorem partL_length {L : List St} {k : Nat} (h : k ≤ L.length) : (partL L k).length = L.length := by
  simp [partL]; omega
theorem partL_all (L : List St) : partL L L.length = L := by simp [partL]
theorem partL_zero (L : List St) : partL L 0 = List.replicate L.length st0 := by simp [partL]
theorem partL_succ {L : List St} {k : Nat} {t : St} (h : L[k]? = some t) : (partL L k).set k t = partL L (k + 1) := by
  obtain ⟨hk, rfl⟩ := List.getElem?_eq_some_iff.1 h
  have e : L.length - k = (L.length - (k + 1)) + 1 := by omega
  unfold partL
  rw [e, List.replicate_succ, List.take_succ_eq_append_getElem hk, List.set_append_right _ _ (by rw [List.length_take]; omega), List.length_take, Nat.min_eq_left (Nat.le_of_lt hk), Nat.sub_self, List.set_cons_zero, List.append_assoc]
  rfl

theorem info_row : (Try.prog.info? 26).map (fun i => (i.zero, i.size, i.bytes)) = some (some noRow, 4, 32) := by kernel_rfl

/-- The cells of 'n' sets without a way. -/
def newC (n : Nat) : Array Value := madeCells (rowA (.slice none 0 0) false false false) (n * 4)

theorem newC_in {n q : Nat} (h : q < n) : SetIn (newC n) q (.slice none 0 0) st0 := by
  unfold newC
  refine ⟨?_, ?_, ?_, ?_⟩ <;> (rw [Array.getElem?_eq_getElem (by rw [size_madeCells]; omega)]; simp [madeCells, st0])

theorem OwnC.new (w : World) (B C n : Nat) (hn : n ≤ maxLen) : OwnC (w.alloc (.cells (newC n) 26)) B C w.heap.size (.slice (some ⟨w.heap.size, 0, none⟩) n n) (List.replicate n st0) := by
  refine ⟨n, newC n, by rw [List.length_replicate], Box.new w _ _, by rw [List.length_replicate]; exact Nat.le_refl _, hn, size_madeCells _ _, fun q t hq => ?_⟩
  have hlt : q < n := by have := st_lt hq; simpa using this
  rw [List.getElem?_replicate, if_pos hlt] at hq
  cases hq
  exact ⟨_, newC_in hlt, Frx.nil _ _ _ _⟩

/-- make, as the walk has it. -/
theorem make_sets (n : Nat) (hn : n ≤ 4) (w : World) : (Instr.makeSlice 46 (.int .i64 n) (.int .i64 n)).run Try.prog w = .ok (.slice (some ⟨w.heap.size, 0, none⟩) n n) (w.alloc (.cells (newC n) 26)) := by
  obtain ⟨i0, hi, hz0, hz1, hz2⟩ := info_parts info_row
  have := run_make w 46 26 i0 noRow Try.underlying46 hi hz0 .i64 .i64 n n (by omega) (Int.le_refl _) (by rw [hz2]; omega) (by omega)
  rw [this, hz1]
  simp [newC, Value.cells]

set_option maxRecDepth 10000 in
set_option maxHeartbeats 1000000 in
theorem cacheReplace_any (v : Value) (ss : List St) (k : Nat) (A : Option Addr) (c : Nat) (t : St) (w : World) (B : Nat) (h : Cs w v ss) (hk : k < ss.length) (hn : ss.length ≤ 4)
    (hl : ∀ (q : Nat) t, ss[q]? = some t → 0 < t.l.length ∧ t.l.length ≤ 4) (fr : Fr w B w.heap.size (.slice A t.l.length c) t.l) (hB : B ≤ w.heap.size) :
    Calls Try.prog 53 #[v, .int .i64 k, rowV (.slice A t.l.length c) t.a t.b t.c] w fun e w' => (∃ v', e = .returned v' ∧ CFr w' B w'.heap.size v' (ss.set k t)) ∧ Below w.heap.size w w' := by
  have HL := Lib.hid hl
  obtain ⟨Ah, cp, rfl, h1, h2, h3⟩ := h
  obtain ⟨bb, o, rfl, hb, hc⟩ := h3 (by omega)
  have HC := Lib.hid hc
  have MS := fun w => make_sets ss.length hn w
  unfold maxLen at h2
  clear hl h3 hc
  obtain ⟨L, hL⟩ : ∃ L, L = ss.set k t := ⟨_, rfl⟩
  rw [← hL]
  have LL := Lib.hid (show L.length = ss.length by rw [hL, List.length_set])
  have GL := Lib.hid (fun (q : Nat) z (hz : ss[q]? = some z) => show L[q]? = some (if q = k then t else z) by
    rw [hL]
    by_cases e : q = k
    · subst e; rw [if_pos rfl, List.getElem?_set_self hk]
    · rw [if_neg e, List.getElem?_set_ne (fun h => e h.symm), hz])
  clear hL
  have low := Below.refl w.heap.size w
  have rb := boxNext low 26 (rowA (.slice A t.l.length c) t.a t.b t.c)
  replace low := gAlloc low (.cells (rowA (.slice A t.l.length c) t.a t.b t.c) 26)
  replace fr := fr.alloc (.cells (rowA (.slice A t.l.length c) t.a t.b t.c) 26)
  try simp only [World.size_alloc] at rb
  simp only [rowA] at rb
  have own := OwnC.new (w.alloc (.cells (rowA (.slice A t.l.length c) t.a t.b t.c) 26)) B (w.heap.size + 1 + 1) ss.length (by unfold maxLen; omega)
  simp only [World.size_alloc] at own
  rw [show List.replicate ss.length st0 = partL L 0 by rw [partL_zero, LL.out]] at own
  replace fr := fr.alloc (.cells (newC ss.length) 26)
  replace rb := rb.alloc (.cells (newC ss.length) 26)
  replace low := gAlloc low (.cells (newC ss.length) 26)
  have FR := Lib.hid fr
  have OW := Lib.hid own
  clear fr own
  go_enter Try.func53, Try.ntmps53
  go_wp2_with fail
  go_loopw [15] (fun i wr => ∃ j : Nat, j ≤ ss.length ∧ i = .int .i64 j ∧ Hid (OwnC wr B wr.heap.size (w.heap.size + 1) (.slice (some ⟨w.heap.size + 1, 0, none⟩) ss.length ss.length) (partL L j)) ∧
      Hid (Fr wr B w.heap.size (.slice A t.l.length c) t.l) ∧ Box wr w.heap.size 26 (rowA (.slice A t.l.length c) t.a t.b t.c) ∧ Below w.heap.size w wr) (fun i _ => ss.length - (intOf i).toNat)
  case atStart => exact ⟨0, Nat.zero_le _, rfl, Lib.hid (OW.out.more (Nat.le_refl _) (by simp)), FR, rb, low⟩
  case round =>
    clear rb low OW FR
    obtain ⟨j, hj, rfl, own, fr, rb, low⟩ := hrel
    simp only [rowA] at rb
    by_cases hlt : j < ss.length
    · have hx : ss[j]? = some ss[j] := List.getElem?_eq_getElem _
      generalize ss[j] = z at hx
      obtain ⟨A', c', ra, ws⟩ := HC.out.at_ j z hx
      obtain ⟨c0, c1, c2, c3⟩ := rowAt_of ra hb low
      replace ws := ws.call low
      obtain ⟨z0, z4⟩ := HL.out j z hx
      have HX := Lib.hid (GL.out j z hx)
      have jp := Lib.hid (show j < (partL L j).length by rw [partL_length (by rw [LL.out]; omega), LL.out]; omega)
      clear hx ra
      have k0 : (0 : Int) ≤ j := by omega
      have k1 : (j : Int) < ss.length := by omega
      have zr : w.heap.size + 1 < wr.heap.size := own.out.lt
      by_cases hjk : j = k
      · have kj : ((j : Int) == (k : Int)) = true := by simp [hjk]
        replace HX := Lib.hid (HX.out.trans (by rw [if_pos hjk]))
        clear hjk
        have zb := boxNext low 26 (rowA (.slice A' z.l.length c') z.a z.b z.c)
        replace low := gAlloc low (.cells (rowA (.slice A' z.l.length c') z.a z.b z.c) 26)
        replace rb := rb.alloc (.cells (rowA (.slice A' z.l.length c') z.a z.b z.c) 26)
        try simp only [World.size_alloc] at zb
        simp only [rowA] at zb
        have rb_0 := rb.at_ 0 rfl
        have rb_1 := rb.at_ 1 rfl
        have rb_2 := rb.at_ 2 rfl
        have rb_3 := rb.at_ 3 rfl
        go_wp2_with (refine wpList_put_set rfl (.tmp 26) (.tmp 25) rfl B (wr.heap.size + 1) (w.heap.size + 1) _ (partL L j) j A c t ((own.out.alloc _).more (Nat.le_refl _) (by omega)) jp.out (.inl ((fr.out.alloc _).more (Nat.le_refl _) (by omega))) rfl rfl ?_)
        intro w2 own2 st
        clear rb_0 rb_1 rb_2 rb_3
        rw [partL_succ HX.out] at own2
        replace rb := st.box rb (by omega)
        replace low := st.low low (by omega)
        have fr2 := Lib.hid (st.fr (fr.out.alloc (.cells (rowA (.slice A' z.l.length c') z.a z.b z.c) 26)) (.inr (by omega)))
        have z2 := st.size
        have OW := Lib.hid own2
        clear st own2 c0 c1 c2 c3
        simp only [World.size_alloc] at z2
        go_wp2_with fail
        go_roundw
        case rel => exact ⟨j + 1, by omega, by go_num, Lib.hid (OW.out.more (Nat.le_refl _) (by omega)), fr2, rb, low⟩
        case measure => simp [intOf]; omega
      · have kj : ((j : Int) == (k : Int)) = false := by simp; omega
        replace HX := Lib.hid (HX.out.trans (by rw [if_neg hjk]))
        clear hjk
        have zb := boxNext low 26 (rowA (.slice A' z.l.length c') z.a z.b z.c)
        replace low := gAlloc low (.cells (rowA (.slice A' z.l.length c') z.a z.b z.c) 26)
        replace rb := rb.alloc (.cells (rowA (.slice A' z.l.length c') z.a z.b z.c) 26)
        replace ws := ws.alloc (.cells (rowA (.slice A' z.l.length c') z.a z.b z.c) 26)
        try simp only [World.size_alloc] at zb
        simp only [rowA] at zb
        obtain ⟨s0, s1, s2, s3⟩ := zb.rowC
        have CL := Lib.hid fun w hw => clone_any (.slice A' z.l.length c') z.l w hw z0 z4
        go_wp2_with fail
        refine wp_region_noPanic ?_
        refine wp_region_held_drew (S := fun w' => w'.cell? ⟨wr.heap.size, 0, none⟩ = some (.slice A' z.l.length c') ∧ w'.cell? ⟨wr.heap.size, 1, none⟩ = some (.bool z.a) ∧ w'.cell? ⟨wr.heap.size, 2, none⟩ = some (.bool z.b) ∧ w'.cell? ⟨wr.heap.size, 3, none⟩ = some (.bool z.c)) (by kernel_rfl) ⟨drewC s0, drewC s1, drewC s2, drewC s3⟩ (fun hHeld => ?_)
        refine takeFirst (i := 0) (v := ?_) rfl (by kernel_rfl) (by kernel_rfl) (by kernel_rfl) (by rfl) (fun _ _ _ h => h) ?_ (by assumption) ?_
        rotate_left
        · (intro w hSw; go_simp; try (with_reducible rfl))
        try simp only [Act.put, List.setIfInBounds_toArray, List.set_cons_zero, List.set_cons_succ]
        refine takeFirst (i := 1) (v := ?_) rfl (by kernel_rfl) (by kernel_rfl) (by kernel_rfl) (by rfl) (fun _ _ _ h => h) ?_ (by assumption) ?_
        rotate_left
        · (intro w hSw; go_simp; try (with_reducible rfl))
        try simp only [Act.put, List.setIfInBounds_toArray, List.set_cons_zero, List.set_cons_succ]
        refine takeFirst (i := 2) (v := ?_) rfl (by kernel_rfl) (by kernel_rfl) (by kernel_rfl) (by rfl) (fun _ _ _ h => h) ?_ (by assumption) ?_
        rotate_left
        · (intro w hSw; go_simp; try (with_reducible rfl))
        try simp only [Act.put, List.setIfInBounds_toArray, List.set_cons_zero, List.set_cons_succ]
        refine takeFirst (i := 3) (v := ?_) rfl (by kernel_rfl) (by kernel_rfl) (by kernel_rfl) (by rfl) (fun _ _ _ h => h) ?_ (by assumption) ?_
        rotate_left
        · (intro w hSw; go_simp; try (with_reducible rfl))
        try simp only [Act.put, List.setIfInBounds_toArray, List.set_cons_zero, List.set_cons_succ]
        refine takeFirst (i := 5) (v := ?_) rfl (by kernel_rfl) (by kernel_rfl) (by kernel_rfl) (by rfl) (fun _ _ _ h => h) ?_ (by assumption) ?_
        rotate_left
        · (intro w hSw; go_simp; try (with_reducible rfl))
        try simp only [Act.put, List.setIfInBounds_toArray, List.set_cons_zero, List.set_cons_succ]
        refine takeFirst (i := 6) (v := ?_) rfl (by kernel_rfl) (by kernel_rfl) (by kernel_rfl) (by rfl) (fun _ _ _ h => h) ?_ (by assumption) ?_
        rotate_left
        · (intro w hSw; go_simp; try (with_reducible rfl))
        try simp only [Act.put, List.setIfInBounds_toArray, List.set_cons_zero, List.set_cons_succ]
        refine stepNext (i := 4) (by kernel_rfl) rfl (by rfl) (fun K hK => ?_)
        go_simp
        (with_reducible refine (CL.out _ ws.drew).mono ?_); rintro e w2 ⟨v', g', rfl, own', hg', hb2⟩
        have frz := fr_of_own own' hg'
        obtain ⟨Az, cz, rfl⟩ := frz.shape
        have own2 := (own.out.alloc (.cells (rowA (.slice A' z.l.length c') z.a z.b z.c) 26)).drew.call hb2
        have fr2 := (fr.out.alloc (.cells (rowA (.slice A' z.l.length c') z.a z.b z.c) 26)).call (Below.refl _ _).drew |>.call hb2
        have sz2 : wr.heap.size + 1 ≤ w2.heap.size := by have := hb2.size; simpa using this
        simp only [World.size_drew, World.size_alloc] at frz
        replace rb := rb.drew.call hb2
        replace low := gCall low.drew hb2
        obtain ⟨hh0, hh1, hh2, hh3⟩ := hHeld
        have hHeld := (And.intro (callC hb2 hh0) (And.intro (callC hb2 hh1) (And.intro (callC hb2 hh2) (callC hb2 hh3))))
        clear hh0 hh1 hh2 hh3
        clear hb2 own'
        refine hK.out _ _ hHeld ?_
        clear hK K
        try simp only [Act.put]
        try simp only [List.setIfInBounds_toArray, List.set_cons_zero, List.set_cons_succ]
        refine takeFirst (i := 7) (v := ?_) rfl (by kernel_rfl) (by kernel_rfl) (by kernel_rfl) (by rfl) (fun _ _ _ h => h) ?_ (by assumption) ?_
        rotate_left
        · (intro w hSw; go_simp; try (with_reducible rfl))
        try simp only [Act.put, List.setIfInBounds_toArray, List.set_cons_zero, List.set_cons_succ]
        refine takeFirst (i := 8) (v := ?_) rfl (by kernel_rfl) (by kernel_rfl) (by kernel_rfl) (by rfl) (fun _ _ _ h => h) ?_ (by assumption) ?_
        rotate_left
        · (intro w hSw; go_simp; try (with_reducible rfl))
        try simp only [Act.put, List.setIfInBounds_toArray, List.set_cons_zero, List.set_cons_succ]
        refine stepNext (i := 9) (by kernel_rfl) rfl (by rfl) (fun K hK => ?_)
        refine wp_put_set (.tmp 35) (.tmp 34) rfl B w2.heap.size (w.heap.size + 1) _ (partL L j) j Az cz z (own2.more (Nat.le_refl _) (by omega)) jp.out (.inr (frz.more (by omega) (Nat.le_refl _))) rfl rfl ?_
        intro w3 own3 st
        rw [partL_succ HX.out] at own3
        replace rb := st.box rb (by omega)
        replace low := st.low low (by omega)
        have fr3 := Lib.hid (st.fr fr2 (.inr (by omega)))
        have z3 := st.size
        have OW := Lib.hid own3
        obtain ⟨hh0, hh1, hh2, hh3⟩ := hHeld
        have hHeld := (And.intro (st.cell (by dsimp only; omega) hh0) (And.intro (st.cell (by dsimp only; omega) hh1) (And.intro (st.cell (by dsimp only; omega) hh2) (st.cell (by dsimp only; omega) hh3))))
        clear hh0 hh1 hh2 hh3
        clear st own3 fr2 own2 frz
        refine hK.out _ _ hHeld ?_
        clear hK K
        try simp only [Act.put]
        try simp only [List.setIfInBounds_toArray, List.set_cons_zero, List.set_cons_succ]
        refine wpAnyH_done (by kernel_rfl) ?_ _
        refine NoPanic.normal ?_
        clear hHeld s0 s1 s2 s3 c0 c1 c2 c3 zb ws
        go_wp2_with fail
        go_roundw
        case rel => exact ⟨j + 1, by omega, by go_num, Lib.hid (OW.out.more (Nat.le_refl _) (by omega)), fr3, rb, low⟩
        case measure => simp [intOf]; omega
    · obtain rfl : j = ss.length := by omega
      have OW := own.out
      rw [← LL.out, partL_all, LL.out] at OW
      have CF := Lib.hid (show CFr wr B wr.heap.size _ L from .inr ⟨_, by omega, OW.lt, OW⟩)
      clear OW own
      go_wp2_with fail
      go_ret
      exact ⟨⟨_, rfl, CF.out⟩, low⟩

theorem GoodC.small {n s y b : Int} {ss : List St} (h : GoodC n s y b ss) : ss.length ≤ 4 ∧ ∀ (q : Nat) t, ss[q]? = some t → 0 < t.l.length ∧ t.l.length ≤ 4 := by
  obtain ⟨h1, h2, h3⟩ := h
  have hs := cfgB_iff.1 h1
  refine ⟨by omega, fun q t hq => ?_⟩
  obtain ⟨_, h4, _⟩ := rowE_ok (h3 q t hq).1
  omega
end Go.Proofs.Ytmodajmjmdigfaa
