/-
Proved: what the functions of package row return, for every set that can be read; none of them changes anything that was there. No condition.
-/
import Derived.Test.YtmodajmjmdigfaaWay
import Derived.Test.YtmodajmjmdigfaaPlru3
import Derived.Test.YtmodajmjmdigfaaStored
namespace Go.Proofs.Ytmodajmjmdigfaa
open Go.ChangeShapes Go.WideShapes Go.ChangeAt Go.RowKit Go.Joins

theorem info_way : (Try.prog.info? 32).map (fun i => (i.zero, i.size, i.bytes)) = some (some wy0.val, 6, 48) := by kernel_rfl

theorem waysC_one (l : List Wy) : ∀ u ∈ waysC l, u.oneCell' = true := by
  intro u hu
  simp only [waysC, List.mem_flatMap] at hu
  obtain ⟨x, _, hx⟩ := hu
  simp [Wy.cells] at hx
  rcases hx with rfl | rfl | rfl | rfl | rfl | rfl <;> rfl

/-- The slice lies in block 'g', which is known whole and of which the ways are the first. -/
def Own (w : World) (g : Nat) (v : Value) (l : List Wy) : Prop :=
  ∃ cap cur, v = .slice (some ⟨g, 0, none⟩) l.length cap ∧ Box w g 32 cur ∧ l.length ≤ cap ∧ cap ≤ maxLen ∧ cur.size = cap * 6 ∧ ∀ (q : Nat) (y : Wy), l[q]? = some y → ∀ r, r < 6 → cur[q * 6 + r]? = y.cells[r]?

theorem own_at {cur : Array Value} {l : List Wy} (ht : cur.toList.take (l.length * 6) = waysC l) {k : Nat} {x : Wy} (h : l[k]? = some x) (j : Nat) (hj : j < 6) : cur[k * 6 + j]? = x.cells[j]? := by
  have hk : k < l.length := (List.getElem?_eq_some_iff.1 h).1
  rw [← waysC_at h j hj, ← ht, List.getElem?_take, if_pos (by omega), Array.getElem?_toList]

theorem nilWays (A : Addr) (n c : Nat) : ∀ w, (binOp .eql 22 (.slice (some A) n c) (.slice none 0 0)).run Try.prog w = .ok (.bool false) w := fun w => by kernel_rfl

theorem clone_any (v : Value) (l : List Wy) (w : World) (h : Ws w v l) (h0 : 0 < l.length) (h4 : l.length ≤ 4) :
    Calls Try.prog 76 #[v] w fun e w' => ∃ v' g, e = .returned v' ∧ Own w' g v' l ∧ w.heap.size ≤ g ∧ Below w.heap.size w w' := by
  obtain ⟨hl, A, c, rfl, h1, h2, h3⟩ := h
  obtain ⟨b, o, rfl, hb, hc⟩ := h3 h0
  have HC := Lib.hid hc
  have HL := Lib.hid hl
  obtain ⟨i0, hi, hz0, hz1, hz2⟩ := info_parts info_way
  have HI := Lib.hid hi
  have HZ := Lib.hid (And.intro hz0 (And.intro hz1 hz2))
  clear hc hl h3 hi hz0 hz1 hz2
  go_enter Try.func76, Try.ntmps76
  have en := nilWays ⟨b, o, none⟩ l.length c
  go_wp2_with (at_builtin; refine wpList_append_own _ rfl _ _ 22 rfl w.heap.size 32 i0 wy0.val 6 48 Try.underlying22 HI.out HZ.out.1 HZ.out.2.1 HZ.out.2.2 rfl (by decide) _ 0 [] rfl ?c0 ⟨b, o, none⟩ l.length c (waysC l) rfl HL.out ?c1 (waysC_one l) ?c3 ?c4 ?c5 ?_)
  case c0 => exact ⟨rfl, .inr ⟨w.heap.size, 0, #[], rfl, Nat.le_refl _, Box.new w 32 #[], Nat.le_refl _, Nat.zero_le _, rfl, rfl⟩⟩
  case c1 =>
    intro j u hu
    have k := HC.out j u hu
    have e : (⟨b, o, none⟩ : Addr).add j = ⟨b, o + j, none⟩ := by cases j <;> simp [Addr.add]
    rw [e]
    exact ((Below.refl w.heap.size w).alloc (Nat.le_refl _) _).cell (p := ⟨b, o + j, none⟩) hb |>.trans k
  case c3 => unfold maxLen; omega
  case c4 => omega
  case c5 => simp
  intro v' w1 own grow _
  have low : Below w.heap.size w w1 := (gAlloc (Below.refl _ _) _).grown grow (by simp) (fun g e => by simp [Value.ownBlock] at e; omega)
  try simp only [Nat.zero_add, List.nil_append] at own
  obtain ⟨o1, o2⟩ := own
  rcases o2 with ⟨_, o2⟩ | ⟨g, cap, cur, rfl, hg, hh, hn, hm, hs, ht⟩
  · omega
  have O := Lib.hid (show Own w1 g (.slice (some ⟨g, 0, none⟩) l.length cap) l from ⟨cap, cur, rfl, hh, hn, hm, hs, fun q y h r hr => own_at ht h r hr⟩)
  clear hh hs ht o1 grow
  go_wp2_with fail
  go_ret
  exact ⟨_, g, rfl, O.out, hg, low⟩

/-- A way stored into a slice of one's own. -/
def putW (w : World) (g k : Nat) (x : Wy) : World :=
  (((((w.setCell ⟨g, k * 6, none⟩ (.int .i64 x.st)).setCell ⟨g, k * 6 + 1, none⟩ (.int .i64 x.ln)).setCell ⟨g, k * 6 + 2, none⟩ (.int .u64 x.a)).setCell ⟨g, k * 6 + 3, none⟩ (.int .u64 x.b)).setCell ⟨g, k * 6 + 4, none⟩ (.int .u64 x.c)).setCell ⟨g, k * 6 + 5, none⟩ (.int .u64 x.d)

theorem Own.ws {w : World} {g : Nat} {v : Value} {l : List Wy} (h : Own w g v l) : Ws w v l := by
  obtain ⟨cap, cur, rfl, hb, hn, hm, hs, ht⟩ := h
  refine ⟨waysC_length l, some ⟨g, 0, none⟩, cap, rfl, hn, hm, fun _ => ⟨g, 0, rfl, hb.lt, fun j u hu => ?_⟩⟩
  rw [hb.cell, Nat.zero_add]
  have hj : j < l.length * 6 := by
    have := (List.getElem?_eq_some_iff.1 hu).1
    rwa [waysC_length] at this
  have hq : j / 6 < l.length := by omega
  have hjq : j / 6 * 6 + j % 6 = j := by omega
  have h1 := ht (j / 6) l[j / 6] (List.getElem?_eq_getElem hq) (j % 6) (by omega)
  have h2 := waysC_at (List.getElem?_eq_getElem hq) (j % 6) (by omega)
  rw [hjq] at h1 h2
  rw [h1, ← h2, hu]

theorem Own.far {w : World} {g : Nat} {v : Value} {l : List Wy} (h : Own w g v l) {p : Addr} (hp : g ≠ p.block) (u : Value) : Own (w.setCell p u) g v l := by
  obtain ⟨cap, cur, rfl, hb, r⟩ := h
  exact ⟨cap, cur, rfl, hb.far hp u, r⟩

theorem Own.put {w : World} {g : Nat} {v : Value} {l : List Wy} (h : Own w g v l) (k : Nat) (x : Wy) (hk : k < l.length) : Own (putW w g k x) g v (l.set k x) := by
  obtain ⟨cap, cur, rfl, hb, hn, hm, hs, ht⟩ := h
  have box : Box (putW w g k x) g 32 _ := ((((((hb.set (k * 6) (.int .i64 x.st)).set (k * 6 + 1) (.int .i64 x.ln)).set (k * 6 + 2) (.int .u64 x.a)).set (k * 6 + 3) (.int .u64 x.b)).set (k * 6 + 4) (.int .u64 x.c)).set (k * 6 + 5) (.int .u64 x.d))
  refine ⟨cap, _, by rw [List.length_set], box, by rw [List.length_set]; exact hn, hm, by simpa using hs, fun q y hy r hr6 => ?_⟩
  by_cases e : q = k
  · subst e
    rw [List.getElem?_set_self hk] at hy
    cases hy
    have hsz : q * 6 + 5 < cur.size := by omega
    match r, hr6 with
    | 0, _ | 1, _ | 2, _ | 3, _ | 4, _ | 5, _ =>
      simp [Array.getElem?_setIfInBounds, Wy.cells]
      omega
  · rw [List.getElem?_set_ne (fun h => e h.symm)] at hy
    have := ht q y hy r hr6
    simp only [Array.getElem?_setIfInBounds]
    repeat rw [if_neg (by omega)]
    exact this

/-- A slice that is new: it lies in no block below 'B', and in none from 'C' on. -/
def Fr (w : World) (B C : Nat) (v : Value) (l : List Wy) : Prop := (v = .slice none 0 0 ∧ l = []) ∨ ∃ g, B ≤ g ∧ g < C ∧ Own w g v l

section
variable {w w' : World} {B B' C C' : Nat} {v : Value} {l : List Wy}
theorem Fr.nil (w : World) (B C : Nat) : Fr w B C (.slice none 0 0) [] := .inl ⟨rfl, rfl⟩
theorem Fr.ws (h : Fr w B C v l) : Ws w v l := by
  rcases h with ⟨rfl, rfl⟩ | ⟨g, _, _, h⟩
  · exact Ws.nil w
  · exact h.ws
theorem Fr.shape (h : Fr w B C v l) : ∃ A c, v = .slice A l.length c := by
  obtain ⟨_, A, c, e, _⟩ := h.ws
  exact ⟨A, c, e⟩
theorem Fr.far (h : Fr w B C v l) {p : Addr} (hp : p.block < B ∨ C ≤ p.block) (u : Value) : Fr (w.setCell p u) B C v l := by
  rcases h with h | ⟨g, hg, hc, h⟩
  · exact .inl h
  · exact .inr ⟨g, hg, hc, h.far (by omega) u⟩
theorem Fr.more (h : Fr w B C v l) (hB : B' ≤ B) (hC : C ≤ C') : Fr w B' C' v l := by
  rcases h with h | ⟨g, hg, hc, h⟩
  · exact .inl h
  · exact .inr ⟨g, by omega, by omega, h⟩
theorem Fr.call (h : Fr w B C v l) (hb : Below w.heap.size w w') : Fr w' B C v l := by
  rcases h with h | ⟨g, hg, hc, cap, cur, rfl, h1, h2⟩
  · exact .inl h
  · exact .inr ⟨g, hg, hc, cap, cur, rfl, h1.call hb, h2⟩
theorem Fr.alloc (h : Fr w B C v l) (o : Obj) : Fr (w.alloc o) B C v l := h.call (gAlloc (Below.refl _ _) o)
theorem Own.lt {g : Nat} (h : Own w g v l) : g < w.heap.size := by
  obtain ⟨_, _, _, hb, _⟩ := h
  exact hb.lt
end

theorem low_put {B : Nat} {w w' : World} {g k : Nat} {x : Wy} (h : Below B w w') (hg : B ≤ g) : Below B w (putW w' g k x) := by
  unfold putW
  exact (((((h.setCell hg _).setCell hg _).setCell hg _).setCell hg _).setCell hg _).setCell hg _

theorem size_way : (Try.prog.info? 32).map (·.size) = some 6 := by kernel_rfl

section
variable {w w' : World} {g : Nat}
theorem Stored.fr (st : Stored w g w') {B C : Nat} {v : Value} {l : List Wy} (h : Fr w B C v l) (hg : g < B ∨ C ≤ g) : Fr w' B C v l := by
  rcases h with h | ⟨x, hx, hc, cap, cur, rfl, h1, h2⟩
  · exact .inl h
  · exact .inr ⟨x, hx, hc, cap, cur, rfl, st.box h1 (by omega), h2⟩
end

theorem wpList_put_way {ops : Array Oper} {rest : List Oper} {op : Oper} {a : Act} {w : World} {Q : Exit → Act → World → Prop} (hgd : op.guard = none) (x y : Operand) (ho : op.op = .store 32 x y)
    (g : Nat) (v : Value) (l : List Wy) (k : Nat) (X : Wy) (own : Own w g v l) (hk : k < l.length) (hx : a.eval x = .pointer (some ⟨g, k * 6, none⟩)) (hy : a.eval y = X.val)
    (h : ∀ w', Own w' g v (l.set k X) → Stored w g w' → wpList Try.prog ops Q rest (a.put op.dst undef) w') : wpList Try.prog ops Q (op :: rest) a w := by
  refine wpList_store_mid hgd 32 x y ho g (k * 6) X.arr hx hy ?_ size_way (by simp [Value.oneCell']) ?_
  · obtain ⟨cap, cur, rfl, hbx, hn, hm, hs, ht⟩ := own
    intro j hj
    have hj6 : j < 6 := hj
    refine ⟨?_, hbx.frozen _⟩
    rw [hbx.cell, ht k _ (List.getElem?_eq_getElem hk) j hj6]
    match j, hj6 with
    | 0, _ | 1, _ | 2, _ | 3, _ | 4, _ | 5, _ => rfl
  · refine h _ (own.put k X hk) ⟨fun {h} hne => ?_, ?_, fun b hB => low_put b hB⟩
    · have f : ∀ (w : World) (o : Nat) (u : Value), (w.setCell ⟨g, o, none⟩ u).heap[h]? = w.heap[h]? := fun w o u => Below.heap_setCell w ⟨g, o, none⟩ u h hne
      show (putW w g k X).heap[h]? = _
      unfold putW
      rw [f, f, f, f, f, f]
    · show (putW w g k X).heap.size = _
      simp [putW]

set_option maxHeartbeats 1000000 in
theorem replace_any (v : Value) (l : List Wy) (a b c : Bool) (k : Nat) (x : Wy) (w : World) (h : Ws w v l) (hk : k < l.length) (h4 : l.length ≤ 4) :
    Calls Try.prog 45 #[rowV v a b c, .int .i64 k, x.val] w fun e w' => (∃ v', e = .returned (rowV v' a b c) ∧ Fr w' w.heap.size w'.heap.size v' (l.set k x)) ∧ Below w.heap.size w w' := by
  have H := Lib.hid h
  clear h
  have low := Below.refl w.heap.size w
  have rb := boxNext low 26 (rowA v a b c)
  replace low := gAlloc low (.cells (rowA v a b c) 26)
  try simp only [World.size_alloc] at rb
  simp only [rowA] at rb
  have xb := boxNext low 32 x.arr
  replace low := gAlloc low (.cells x.arr 32)
  replace rb := rb.alloc (.cells x.arr 32)
  try simp only [World.size_alloc] at xb
  simp only [Wy.arr] at xb
  have ob := boxNext low 26 (rowA (.slice none 0 0) false false false)
  replace low := gAlloc low (.cells (rowA (.slice none 0 0) false false false) 26)
  replace rb := rb.alloc (.cells (rowA (.slice none 0 0) false false false) 26)
  replace xb := xb.alloc (.cells (rowA (.slice none 0 0) false false false) 26)
  try simp only [World.size_alloc] at ob
  simp only [rowA] at ob
  go_enter Try.func45, Try.ntmps45
  go_wp2_with fail
  (with_reducible refine (clone_any v l _ (((H.out.alloc _).alloc _).alloc _) (by omega) h4).mono ?_); rintro e w1 ⟨v', g, rfl, own, hg, hb⟩
  replace rb := rb.call hb
  replace xb := xb.call hb
  replace ob := ob.call hb
  replace low := gCall low hb
  clear hb
  simp only [World.size_alloc] at hg
  obtain ⟨cap, cur, rfl, o1, o2, o3, o4, o5⟩ := own
  have own := Lib.hid (show Own w1 g _ l from ⟨cap, cur, rfl, o1, o2, o3, o4, o5⟩)
  clear o1 o3 o4 o5
  have rb_0 := rb.at_ 0 rfl
  have rb_1 := rb.at_ 1 rfl
  have rb_2 := rb.at_ 2 rfl
  have rb_3 := rb.at_ 3 rfl
  have xb_0 := xb.at_ 0 rfl
  have xb_1 := xb.at_ 1 rfl
  have xb_2 := xb.at_ 2 rfl
  have xb_3 := xb.at_ 3 rfl
  have xb_4 := xb.at_ 4 rfl
  have xb_5 := xb.at_ 5 rfl
  go_wp2_with (refine wpList_put_way rfl (.tmp 14) (.tmp 13) rfl g _ l k x own.out hk rfl rfl ?_)
  intro w2 own2 st
  clear rb_0 rb_1 rb_2 rb_3 xb_0 xb_1 xb_2 xb_3 xb_4 xb_5
  replace rb := st.box rb (by omega)
  replace ob := st.box ob (by omega)
  replace low := st.low low (by omega)
  have O2 := Lib.hid own2
  clear own2 st xb own
  have z2 : w.heap.size + 1 + 1 < w2.heap.size := ob.lt
  have rb_0 := rb.at_ 0 rfl
  have rb_1 := rb.at_ 1 rfl
  have rb_2 := rb.at_ 2 rfl
  have rb_3 := rb.at_ 3 rfl
  have ob_0 := ob.at_ 0 rfl
  have ob_1 := ob.at_ 1 rfl
  have ob_2 := ob.at_ 2 rfl
  have ob_3 := ob.at_ 3 rfl
  have f0 := ob.frozen 0
  have f1 := ob.frozen 1
  have f2 := ob.frozen 2
  have f3 := ob.frozen 3
  go_wp2_with fail
  refine bodyPost_ret (v := rowV (.slice (some ⟨g, 0, none⟩) l.length cap) a b c) (by simp [results, Try.results45, go_sem, ob_0, ob_1, ob_2, ob_3]) rfl ⟨⟨_, rfl, ?_⟩, ?_⟩
  · exact .inr ⟨g, by omega, by simpa using O2.out.lt, (((O2.out.far (by dsimp only; omega) _).far (by dsimp only; omega) _).far (by dsimp only; omega) _).far (by dsimp only; omega) _⟩
  · repeat (refine gSet ?_ (by dsimp only; omega) _)
    exact low

/-- The place for a new line. -/
def roomN (l : List Wy) (a b c : Bool) (n : Int) : Int := if idxP empW l < 0 then victimN a b c n else idxP empW l

set_option maxHeartbeats 1000000 in
theorem room_any (v : Value) (l : List Wy) (a b c : Bool) (n : Int) (w : World) (h : Ws w v l) (ht : treeE a b c n = 0) :
    Calls Try.prog 43 #[rowV v a b c, .int .i64 n] w fun e w' => e = .returned (.int .i64 (roomN l a b c n)) ∧ Below w.heap.size w w' := by
  obtain ⟨hl, A, cp, rfl, h1, h2, h3⟩ := h
  have H3 := Lib.hid h3
  have HT := Lib.hid ht
  unfold maxLen at h2
  clear hl h3 ht
  have low := Below.refl w.heap.size w
  have rb := boxNext low 26 (rowA (.slice A l.length cp) a b c)
  replace low := gAlloc low (.cells (rowA (.slice A l.length cp) a b c) 26)
  try simp only [World.size_alloc] at rb
  simp only [rowA] at rb
  go_enter Try.func43, Try.ntmps43
  go_wp2
  go_loopw [12] (fun i wr => ∃ k : Nat, k ≤ l.length ∧ i = .int .i64 k ∧ Hid (∀ j x, j < k → l[j]? = some x → empW x = false) ∧ Box wr w.heap.size 26 (rowA (.slice A l.length cp) a b c) ∧ Below w.heap.size w wr) (fun i _ => l.length - (intOf i).toNat)
  case atStart => exact ⟨0, Nat.zero_le _, rfl, Lib.hid fun j x hj => absurd hj (by omega), rb, low⟩
  case round =>
    clear rb low
    obtain ⟨k, hk, rfl, hno, rb, low⟩ := hrel
    simp only [rowA] at rb
    by_cases hlt : k < l.length
    · obtain ⟨bb, o, rfl, hb, hc⟩ := H3.out (by omega)
      have hx : l[k]? = some l[k] := List.getElem?_eq_getElem _
      generalize l[k] = x at hx
      obtain ⟨c0, c1, c2, c3, c4, c5⟩ := wayAt_of hc hb low hx
      have HX := Lib.hid hx
      clear hx hc
      cases he : (x.st == 0)
      · have HW := Lib.hid (show empW x = false from he)
        go_wp2
        go_roundw
        case rel => exact ⟨k + 1, by omega, by go_num, Lib.hid (upto hno.out HX.out HW.out), rb.alloc _, gAlloc low _⟩
        case measure => simp [intOf]; omega
      · have HW := Lib.hid (show empW x = true from he)
        go_wp2
        go_ret
        exact ⟨by rw [roomN, idxP_some hno.out HX.out HW.out, if_neg (by omega)]; rfl, gAlloc low _⟩
    · have HN := Lib.hid (idxP_none (all_upto hno.out hlt))
      have rb_0 := rb.at_ 0 rfl
      have rb_1 := rb.at_ 1 rfl
      have rb_2 := rb.at_ 2 rfl
      have rb_3 := rb.at_ 3 rfl
      go_wp2_with fail
      (with_reducible refine (victim_ok _ _ _ _ _ HT.out).mono ?_); rintro e w2 ⟨rfl, hb⟩
      replace rb := rb.call hb
      replace low := gCall low hb
      clear hb rb_0 rb_1 rb_2 rb_3
      go_wp2_with fail
      go_ret
      exact ⟨by rw [roomN, HN.out, if_pos (by decide)]; rfl, low⟩

set_option maxHeartbeats 2000000 in
theorem access_any (v : Value) (l : List Wy) (a b c : Bool) (n : Int) (k : Nat) (x : Wy) (w : World) (h : Ws w v l) (ht : treeE a b c n = 0) (hn : (l.length : Int) = n) (hk : k < l.length) :
    Calls Try.prog 44 #[rowV v a b c, .int .i64 n, .int .i64 k, x.val] w fun e w' =>
      (∃ v', e = .returned (rowV v' (touchT a b c n k).1 (touchT a b c n k).2.1 (touchT a b c n k).2.2) ∧ Fr w' w.heap.size w'.heap.size v' (l.set k x)) ∧ Below w.heap.size w w' := by
  obtain ⟨hn1, hn4⟩ := treeE_range ht
  have H := Lib.hid h
  have h4 : l.length ≤ 4 := by omega
  have TO := Lib.hid (fun w => touch_ok a b c n k w ht (by omega) (by omega))
  clear h ht hn hn1 hn4
  generalize touchT a b c n k = t at TO ⊢
  have low := Below.refl w.heap.size w
  have rb := boxNext low 26 (rowA v a b c)
  replace low := gAlloc low (.cells (rowA v a b c) 26)
  try simp only [World.size_alloc] at rb
  simp only [rowA] at rb
  have xb := boxNext low 32 x.arr
  replace low := gAlloc low (.cells x.arr 32)
  replace rb := rb.alloc (.cells x.arr 32)
  try simp only [World.size_alloc] at xb
  simp only [Wy.arr] at xb
  have ob := boxNext low 26 (rowA (.slice none 0 0) false false false)
  replace low := gAlloc low (.cells (rowA (.slice none 0 0) false false false) 26)
  replace rb := rb.alloc (.cells (rowA (.slice none 0 0) false false false) 26)
  replace xb := xb.alloc (.cells (rowA (.slice none 0 0) false false false) 26)
  try simp only [World.size_alloc] at ob
  simp only [rowA] at ob
  go_enter Try.func44, Try.ntmps44
  go_wp2_with fail
  (with_reducible refine (replace_any v l a b c k x _ (((H.out.alloc _).alloc _).alloc _) hk h4).mono ?_); rintro e w1 ⟨⟨v', rfl, fr⟩, hb⟩
  simp only [World.size_alloc] at fr
  replace rb := rb.call hb
  replace ob := ob.call hb
  replace low := gCall low hb
  have z1 : w.heap.size + 1 + 1 < w1.heap.size := ob.lt
  clear hb xb
  obtain ⟨A', c', rfl⟩ := fr.shape
  simp only [List.length_set] at fr
  have nb := boxNext low 26 (rowA (.slice A' l.length c') a b c)
  replace low := gAlloc low (.cells (rowA (.slice A' l.length c') a b c) 26)
  replace rb := rb.alloc (.cells (rowA (.slice A' l.length c') a b c) 26)
  replace ob := ob.alloc (.cells (rowA (.slice A' l.length c') a b c) 26)
  replace fr := fr.alloc (.cells (rowA (.slice A' l.length c') a b c) 26)
  try simp only [World.size_alloc] at nb
  simp only [rowA] at nb
  have rb_0 := rb.at_ 0 rfl
  have rb_1 := rb.at_ 1 rfl
  have rb_2 := rb.at_ 2 rfl
  have rb_3 := rb.at_ 3 rfl
  simp only [List.length_set]
  go_wp2_with fail
  (with_reducible refine (TO.out _).mono ?_); rintro e w2 ⟨rfl, hb⟩
  replace rb := rb.call hb
  replace ob := ob.call hb
  replace nb := nb.call hb
  replace fr := fr.call hb
  replace low := gCall low hb
  clear hb rb_0 rb_1 rb_2 rb_3
  have z2 : w1.heap.size < w2.heap.size := nb.lt
  have nb_0 := nb.at_ 0 rfl
  have nb_1 := nb.at_ 1 rfl
  have nb_2 := nb.at_ 2 rfl
  have nb_3 := nb.at_ 3 rfl
  have ob_0 := ob.at_ 0 rfl
  have ob_1 := ob.at_ 1 rfl
  have ob_2 := ob.at_ 2 rfl
  have ob_3 := ob.at_ 3 rfl
  have f0 := ob.frozen 0
  have f1 := ob.frozen 1
  have f2 := ob.frozen 2
  have f3 := ob.frozen 3
  have g0 := nb.frozen 0
  have g1 := nb.frozen 1
  have g2 := nb.frozen 2
  have g3 := nb.frozen 3
  have ne : w.heap.size + 1 + 1 ≠ w1.heap.size := by omega
  have ne' := ne.symm
  go_wp2_with fail
  refine bodyPost_ret (v := rowV (.slice A' l.length c') t.1 t.2.1 t.2.2) (by simp [results, Try.results44, go_sem, ob_0, ob_1, ob_2, ob_3]) rfl ⟨⟨_, rfl, ?_⟩, ?_⟩
  · refine Fr.more ?_ (B := w.heap.size + 1 + 1 + 1) (C := w1.heap.size) (by omega) (by simp; omega)
    repeat (refine Fr.far ?_ (by dsimp only; omega) _)
    exact fr
  · repeat (refine gSet ?_ (by dsimp only; omega) _)
    exact low

theorem waysC_one1 (x : Wy) : ∀ u ∈ x.cells, u.oneCell' = true := by
  intro u hu
  simp [Wy.cells] at hu
  rcases hu with rfl | rfl | rfl | rfl | rfl | rfl <;> rfl

theorem own_shape {w : World} {base size n : Nat} {e : TypeId} {v : Value} {xs : List Value} (h : w.ownsRow base e size v n xs) : ∃ A c, v = .slice A n c := by
  rcases h.2 with ⟨rfl, rfl⟩ | ⟨g, cap, cur, rfl, _⟩
  · exact ⟨_, _, rfl⟩
  · exact ⟨_, _, rfl⟩

/-- The cells of a way in a block that is new. -/
theorem new_cells (w : World) (t : TypeId) (x : Wy) (g q : Nat) (u : Value) (hg : g = w.heap.size) (h : x.cells[q]? = some u) : (w.alloc (.cells x.arr t)).cell? ((⟨g, 0, none⟩ : Addr).add q) = some u := by
  subst hg
  have e : (⟨w.heap.size, 0, none⟩ : Addr).add q = ⟨w.heap.size, q, none⟩ := by cases q <;> simp [Addr.add]
  rw [e, (Box.new w t x.arr).cell, ← h]
  simp [Wy.cells]

/-- What a call has gathered by itself is new. -/
theorem fr_own {w : World} {base n : Nat} {v : Value} {xs : List Value} {l : List Wy} (h : w.ownsRow base 32 6 v n xs) (hx : xs = waysC l) (hn : n = l.length) : Fr w base w.heap.size v l := by
  subst hx hn
  rcases h.2 with ⟨rfl, h0⟩ | ⟨g, cap, cur, rfl, hg, hh, h1, h2, h3, h4⟩
  · exact .inl ⟨rfl, List.eq_nil_of_length_eq_zero h0⟩
  · have own : Own w g (.slice (some ⟨g, 0, none⟩) l.length cap) l := ⟨cap, cur, rfl, hh, h1, h2, h3, fun q y hy r hr => own_at h4 hy r hr⟩
    exact .inr ⟨g, hg, own.lt, own⟩
theorem fr_of_own {w : World} {g B : Nat} {v : Value} {l : List Wy} (h : Own w g v l) (hB : B ≤ g) : Fr w B w.heap.size v l := .inr ⟨g, hB, h.lt, h⟩
end Go.Proofs.Ytmodajmjmdigfaa
