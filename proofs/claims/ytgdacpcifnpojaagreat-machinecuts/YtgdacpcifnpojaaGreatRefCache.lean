/-
Proved: words for caches that a call gathers by appending; what EmptyCache and CacheWith of the reference return. Conditions: at most four sets, each of one to four ways.
-/
import Derived.Test.YtgdacpcifnpojaaGreatJoined3
import Derived.Test.YtgdacpcifnpojaaGreatJoined5
import Derived.Test.YtgdacpcifnpojaaGreatRefLow
namespace Go.Proofs.YtgdacpcifnpojaaGreat
open Go.ChangeShapes Go.WideShapes Go.ChangeAt Go.RowKit Go.Joins

/-- The cells of a set, of sets, each with the place of its ways. -/
def setC (u : Value) (t : St) : List Value := [u, .bool t.a, .bool t.b, .bool t.c]
def setsC (L : List (Value × St)) : List Value := L.flatMap fun p => setC p.1 p.2

theorem setsC_snoc (L : List (Value × St)) (u : Value) (t : St) : setsC (L ++ [(u, t)]) = setsC L ++ setC u t := by simp [setsC]
theorem setsC_length : ∀ (L : List (Value × St)), (setsC L).length = L.length * 4
  | [] => rfl
  | p :: r => by
    have := setsC_length r
    simp only [setsC, List.flatMap_cons, List.length_append, List.length_cons] at *
    rw [this]
    simp [setC]
    omega
theorem setsC_at {L : List (Value × St)} {k : Nat} {u : Value} {t : St} (h : L[k]? = some (u, t)) (j : Nat) (hj : j < 4) : (setsC L)[k * 4 + j]? = (setC u t)[j]? := by
  induction L generalizing k with
  | nil => simp at h
  | cons p r ih =>
    have hp : (setC p.1 p.2).length = 4 := rfl
    simp only [setsC, List.flatMap_cons] at *
    cases k with
    | zero =>
      simp at h
      subst h
      rw [List.getElem?_append_left (by omega)]
      simp
    | succ k =>
      rw [List.getElem?_append_right (by omega), hp, show (k + 1) * 4 + j - 4 = k * 4 + j by omega]
      exact ih (by simpa using h)

/-- A cache that a call has gathered by itself. -/
structure OwnR (w : World) (base : Nat) (s : Value) (ss : List St) : Prop where
  ex : ∃ L : List (Value × St), L.map (·.2) = ss ∧ w.ownsRow base 77 4 s ss.length (setsC L) ∧ ∀ p ∈ L, Fr w base w.heap.size p.1 p.2.l

section
variable {w w' : World} {base : Nat} {s u : Value} {ss : List St} {t : St}
theorem Fr.up {B C : Nat} {l : List Wy} (h : Fr w B w.heap.size u l) (hb : Below w.heap.size w w') : Fr w' B w'.heap.size u l := (h.call hb).more (Nat.le_refl _) hb.size
theorem Fr.grownBox {B C : Nat} {l : List Wy} {row : Option Nat} (h : Fr w B C u l) (g : w.grownBy w' row) (hr : ∀ x, row = some x → ∃ cur, Box w x 77 cur) : Fr w' B C u l := by
  rcases h with h | ⟨x, hx, hc, cap, cur, rfl, h1, h2⟩
  · exact .inl h
  · refine .inr ⟨x, hx, hc, cap, cur, rfl, h1.grown g (fun e => ?_), h2⟩
    obtain ⟨cur', hb'⟩ := hr x e.symm
    unfold Box at h1 hb'
    rw [h1] at hb'
    simp at hb'
theorem own_box {n : Nat} {xs : List Value} (h : w.ownsRow base 77 4 s n xs) : ∀ x, s.ownBlock = some x → ∃ cur, Box w x 77 cur := by
  intro x hx
  rcases h.2 with ⟨rfl, _⟩ | ⟨g, cap, cur, rfl, _, hh, _⟩
  · simp [Value.ownBlock] at hx
  · simp [Value.ownBlock] at hx
    subst hx
    exact ⟨cur, hh⟩

theorem OwnR.nil (w : World) (base : Nat) : OwnR w base (.slice none 0 0) [] := ⟨[], rfl, World.ownsRow_nil _ _ _ _, fun p hp => by simp at hp⟩
theorem OwnR.call (h : OwnR w base s ss) (hb : Below w.heap.size w w') : OwnR w' base s ss := by
  obtain ⟨L, h1, h2, h3⟩ := h
  exact ⟨L, h1, own_below h2 hb, fun p hp => (h3 p hp).up (C := 0) hb⟩
theorem OwnR.alloc (h : OwnR w base s ss) (o : Obj) : OwnR (w.alloc o) base s ss := h.call (gAlloc (Below.refl _ _) o)
theorem OwnR.drew (h : OwnR w base s ss) : OwnR w.drew base s ss := h.call (Below.refl _ _).drew
theorem owns_more {e : TypeId} {base' size n : Nat} {xs : List Value} (h : w.ownsRow base e size s n xs) (hb : base' ≤ base) : w.ownsRow base' e size s n xs := by
  refine ⟨h.1, ?_⟩
  rcases h.2 with h2 | ⟨g, cap, cur, hv, hg, r⟩
  · exact .inl h2
  · exact .inr ⟨g, cap, cur, hv, Nat.le_trans hb hg, r⟩
theorem owns_stored {e : TypeId} {size n g : Nat} {xs : List Value} (h : w.ownsRow base e size s n xs) (st : Stored w g w') (hg : g < base) : w'.ownsRow base e size s n xs := by
  refine ⟨h.1, ?_⟩
  rcases h.2 with h2 | ⟨x, cap, cur, hv, hx, hh, r⟩
  · exact .inl h2
  · exact .inr ⟨x, cap, cur, hv, hx, (st.heap (by omega)).trans hh, r⟩
theorem OwnR.more {base' : Nat} (h : OwnR w base s ss) (hb : base' ≤ base) : OwnR w base' s ss := by
  obtain ⟨L, h1, h2, h3⟩ := h
  exact ⟨L, h1, owns_more h2 hb, fun p hp => (h3 p hp).more hb (Nat.le_refl _)⟩
theorem OwnR.stored {g : Nat} (h : OwnR w base s ss) (st : Stored w g w') (hg : g < base) : OwnR w' base s ss := by
  obtain ⟨L, h1, h2, h3⟩ := h
  refine ⟨L, h1, owns_stored h2 st hg, fun p hp => ?_⟩
  rw [st.size]
  exact st.fr (h3 p hp) (.inl hg)
theorem OwnR.shape (h : OwnR w base s ss) : ∃ A c, s = .slice A ss.length c := by
  obtain ⟨L, h1, h2, h3⟩ := h
  exact own_shape h2
theorem OwnR.lt (h : OwnR w base s ss) : ∀ x, s.ownBlock = some x → base ≤ x ∧ x < w.heap.size := by
  obtain ⟨L, h1, h2, h3⟩ := h
  exact fun x hx => h2.lt x hx

theorem OwnR.cs (h : OwnR w base s ss) : Cs w s ss := by
  obtain ⟨L, h1, h2, h3⟩ := h
  obtain ⟨_, A, c, e, k1, k2, k3⟩ := Sl.ofOwn h2
  refine ⟨A, c, e, k1, k2, fun h0 => ?_⟩
  obtain ⟨b, o, eA, hb, hc⟩ := k3 h0
  refine ⟨b, o, eA, hb, ⟨fun k t hk => ?_⟩⟩
  rw [← h1, List.getElem?_map] at hk
  cases hL : L[k]? with
  | none => rw [hL] at hk; cases hk
  | some p =>
    rw [hL] at hk
    simp at hk
    subst hk
    have fr := h3 p (List.mem_of_getElem? hL)
    obtain ⟨A', c', e'⟩ := fr.shape
    have f : ∀ j u, j < 4 → (setC p.1 p.2)[j]? = some u → w.cell? ⟨b, o + k * 4 + j, none⟩ = some u := fun j u hj hu => by
      rw [Nat.add_assoc]
      exact hc _ _ ((setsC_at (u := p.1) (t := p.2) hL j hj).trans hu)
    exact ⟨A', c', ⟨f 0 _ (by omega) (by rw [← e']; rfl), f 1 _ (by omega) rfl, f 2 _ (by omega) rfl, f 3 _ (by omega) rfl⟩, by rw [← e']; exact fr.ws⟩
end

theorem setC_one {w : World} {B C : Nat} {u : Value} {l : List Wy} {t : St} (h : Fr w B C u l) : ∀ x ∈ setC u t, x.oneCell' = true := by
  obtain ⟨A, c, rfl⟩ := h.shape
  intro x hx
  simp [setC] at hx
  rcases hx with rfl | rfl | rfl | rfl <;> rfl

/-- One set more: behind an append. -/
theorem OwnR.push {w w' : World} {base : Nat} {s s' u : Value} {ss : List St} {t : St} {L : List (Value × St)} (h1 : L.map (·.2) = ss) (own : w.ownsRow base 77 4 s ss.length (setsC L)) (h3 : ∀ p ∈ L, Fr w base w.heap.size p.1 p.2.l)
    (fr : Fr w base w.heap.size u t.l) (own' : w'.ownsRow base 77 4 s' (ss.length + 1) (setsC L ++ setC u t)) (g : w.grownBy w' s.ownBlock) : OwnR w' base s' (ss ++ [t]) := by
  refine ⟨L ++ [(u, t)], by rw [List.map_append, h1]; rfl, by rw [setsC_snoc, List.length_append]; exact own', fun p hp => ?_⟩
  rw [List.mem_append] at hp
  rcases hp with hp | hp
  · exact ((h3 p hp).grownBox g (own_box own)).more (Nat.le_refl _) g.size
  · simp at hp
    subst hp
    exact (fr.grownBox g (own_box own)).more (Nat.le_refl _) g.size

/-- The cells of a set in a block that is new. -/
theorem new_set (w : World) (u : Value) (t : St) (g q : Nat) (x : Value) (hg : Box w g 77 #[u, .bool t.a, .bool t.b, .bool t.c]) (h : (setC u t)[q]? = some x) : w.cell? ((⟨g, 0, none⟩ : Addr).add q) = some x := by
  have e : (⟨g, 0, none⟩ : Addr).add q = ⟨g, q, none⟩ := by cases q <;> simp [Addr.add]
  rw [e, hg.cell, ← h]
  simp [setC]

theorem take_snoc {ss : List St} {k : Nat} {t : St} (h : ss[k]? = some t) : ss.take (k + 1) = ss.take k ++ [t] := by
  obtain ⟨hk, rfl⟩ := List.getElem?_eq_some_iff.1 h
  exact List.take_succ_eq_append_getElem hk



set_option maxRecDepth 10000 in
set_option maxHeartbeats 4000000 in
theorem cacheWith_any (v : Value) (ss L : List St) (i : Int) (A : Option Addr) (c : Nat) (t : St) (w : World) (h : Cs w v ss) (hn : ss.length ≤ 4) (hln : ∀ (q : Nat) z, L[q]? = some z → 0 < z.l.length ∧ z.l.length ≤ 4)
    (ws : Ws w (.slice A t.l.length c) t.l) (hL : L.length = ss.length) (hLA : ∀ (q : Nat) z, ss[q]? = some z → L[q]? = some (if (q : Int) = i then t else z)) :
    Calls Tryz.prog 70 #[v, .int .i64 i, rowV (.slice A t.l.length c) t.a t.b t.c] w fun e w' => (∃ A c, e = .returned (.slice A ss.length c) ∧ OwnR w' w.heap.size (.slice A ss.length c) L) ∧ Below w.heap.size w w' := by
  obtain ⟨i0, hi, hz0, hz1, hz2⟩ := info_parts info_row
  have HI := Lib.hid hi
  have HZ := Lib.hid (And.intro hz0 (And.intro hz1 hz2))
  obtain ⟨i1, hi', hz0', hz1', hz2'⟩ := info_parts info_way
  have HI1 := Lib.hid hi'
  have HZ1 := Lib.hid (And.intro hz0' (And.intro hz1' hz2'))
  obtain ⟨Ah, cp, rfl, h1, h2, h3⟩ := h
  have H3 := Lib.hid h3
  have HLN := Lib.hid hln
  have LL := Lib.hid hL
  have LA := Lib.hid hLA
  have WT := Lib.hid ws
  unfold maxLen at h2
  clear hi hz0 hz1 hz2 hi' hz0' hz1' hz2' h3 hln hL hLA ws
  have low := Below.refl w.heap.size w
  have rb := boxNext low 77 (rowA (.slice A t.l.length c) t.a t.b t.c)
  replace low := gAlloc low (.cells (rowA (.slice A t.l.length c) t.a t.b t.c) 77)
  try simp only [World.size_alloc] at rb
  simp only [rowA] at rb
  go_enter Tryz.func70, Tryz.ntmps70
  go_wp2_with fail
  go_loopw [7, 12] (fun s i wr => ∃ j : Nat, j ≤ ss.length ∧ i = .int .i64 j ∧ OwnR wr (w.heap.size + 1) s (L.take j) ∧ Box wr w.heap.size 77 (rowA (.slice A t.l.length c) t.a t.b t.c) ∧ Below w.heap.size w wr) (fun _ i _ => ss.length - (intOf i).toNat)
  case atStart => exact ⟨0, Nat.zero_le _, rfl, OwnR.nil _ _, rb, low⟩
  case round =>
    clear rb low
    obtain ⟨j, hj, rfl, own, rb, low⟩ := hrel
    obtain ⟨As, cs, rfl⟩ := own.shape
    have lj : (L.take j).length = j := by rw [List.length_take, LL.out]; omega
    simp only [rowA] at rb
    by_cases hlt : j < ss.length
    · obtain ⟨bb, o, rfl, hb, hc⟩ := H3.out (by omega)
      have hx : ss[j]? = some ss[j] := List.getElem?_eq_getElem _
      generalize ss[j] = z at hx
      obtain ⟨A', c', ra, wz⟩ := hc.at_ j z hx
      obtain ⟨c0, c1, c2, c3⟩ := rowAt_of ra hb low
      have HX := Lib.hid (LA.out j z hx)
      have k0 : (0 : Int) ≤ j := by omega
      have k1 : (j : Int) < ss.length := by omega
      have zr : w.heap.size + 1 ≤ wr.heap.size := rb.lt
      have zr' : w.heap.size < wr.heap.size := rb.lt
      obtain ⟨r0, r1, r2, r3⟩ := rb.rowC
      clear hx ra hc
      rw [lj] at own ⊢
      have LJ := Lib.hid lj
      have FW := Lib.hid own.lt
      clear lj
      by_cases hji : (j : Int) = i
      · have kj : ((j : Int) == i) = true := by simp [hji]
        replace HX := Lib.hid (HX.out.trans (by rw [if_pos hji]))
        have wy := WT.out
        clear hji wz
        obtain ⟨hly, Ay, cy, ey, y1, y2, y3⟩ := wy
        cases ey
        obtain ⟨by_, oy, rfl, hby, hcy⟩ := y3 (HLN.out j t HX.out).1
        have HCY := Lib.hid hcy
        have HLY := Lib.hid hly
        have ly4 := (HLN.out j t HX.out).2
        clear y3 hcy hly
        have zb := Box.new wr 77 (rowA (.slice (some ⟨by_, oy, none⟩) t.l.length c) t.a t.b t.c)
        have rb1 := rb.alloc (.cells (rowA (.slice (some ⟨by_, oy, none⟩) t.l.length c) t.a t.b t.c) 77)
        have low1 := gAlloc low (.cells (rowA (.slice (some ⟨by_, oy, none⟩) t.l.length c) t.a t.b t.c) 77)
        have own1 := own.alloc (.cells (rowA (.slice (some ⟨by_, oy, none⟩) t.l.length c) t.a t.b t.c) 77)
        obtain ⟨s0, s1, s2, s3⟩ := zb.rowC
        go_wp2_with fail
        refine wp_region_noPanic ?_
        refine wp_region_held_drew (S := fun w' => w'.cell? ⟨wr.heap.size, 0, none⟩ = some (.slice (some ⟨by_, oy, none⟩) t.l.length c) ∧ w'.cell? ⟨wr.heap.size, 1, none⟩ = some (.bool t.a) ∧ w'.cell? ⟨wr.heap.size, 2, none⟩ = some (.bool t.b) ∧ w'.cell? ⟨wr.heap.size, 3, none⟩ = some (.bool t.c)) (by kernel_rfl) ⟨drewC s0, drewC s1, drewC s2, drewC s3⟩ (fun hHeld => ?_)
        clear s0 s1 s2 s3 c0 c1 c2 c3
        have rb2 := rb1.drew
        have low2 := low1.drew
        have own2 := own1.drew
        have z2 : wr.heap.size + 1 ≤ (wr.alloc (.cells (rowA (.slice (some ⟨by_, oy, none⟩) t.l.length c) t.a t.b t.c) 77)).drew.heap.size := by simp
        clear rb1 low1 own1 zb rb low own
        generalize (wr.alloc (.cells (rowA (.slice (some ⟨by_, oy, none⟩) t.l.length c) t.a t.b t.c) 77)).drew = wN at *
        refine takeFirst (i := 0) (v := ?_) rfl (by kernel_rfl) (by kernel_rfl) (by kernel_rfl) (by rfl) (fun _ _ _ h => h) ?_ (by assumption) ?_
        rotate_left
        · (intro w hSw; go_simp; try (with_reducible rfl))
        try simp only [Act.put, List.setIfInBounds_toArray, List.set_cons_zero, List.set_cons_succ]
        refine takeFirst (i := 1) (v := ?_) rfl (by kernel_rfl) (by kernel_rfl) (by kernel_rfl) (by rfl) (fun _ _ _ h => h) ?_ (by assumption) ?_
        rotate_left
        · (intro w hSw; go_simp; try (with_reducible rfl))
        try simp only [Act.put, List.setIfInBounds_toArray, List.set_cons_zero, List.set_cons_succ]
        refine takeFirst (i := 2) (v := ?_) rfl (by kernel_rfl) (by kernel_rfl) (by kernel_rfl) (by rfl) (fun _ _ _ h => h) ?_ (by assumption) ?_
        rotate_left
        · (intro w hSw; go_simp; try (with_reducible rfl))
        try simp only [Act.put, List.setIfInBounds_toArray, List.set_cons_zero, List.set_cons_succ]
        refine takeFirst (i := 4) (v := ?_) rfl (by kernel_rfl) (by kernel_rfl) (by kernel_rfl) (by rfl) (fun _ _ _ h => h) ?_ (by assumption) ?_
        rotate_left
        · (intro w hSw; go_simp; try (with_reducible rfl))
        try simp only [Act.put, List.setIfInBounds_toArray, List.set_cons_zero, List.set_cons_succ]
        refine takeFirst (i := 5) (v := ?_) rfl (by kernel_rfl) (by kernel_rfl) (by kernel_rfl) (by rfl) (fun _ _ _ h => h) ?_ (by assumption) ?_
        rotate_left
        · (intro w hSw; go_simp; try (with_reducible rfl))
        try simp only [Act.put, List.setIfInBounds_toArray, List.set_cons_zero, List.set_cons_succ]
        refine stepNext (i := 3) (by kernel_rfl) rfl (by rfl) (fun K hK => ?_)
        refine wp_append_own _ (.const (.slice none 0 0)) (.tmp 23) 73 rfl (w.heap.size + 1) 80 i1 wy0.val 6 48 Tryz.underlying73 HI1.out HZ1.out.1 HZ1.out.2.1 HZ1.out.2.2 rfl (by decide) (.slice none 0 0) 0 [] rfl (World.ownsRow_nil _ _ _ _) ⟨by_, oy, none⟩ t.l.length c (waysC t.l) rfl HLY.out ?e1 (waysC_one _) ?e3 ?e4 ?e5 ?_
        case e1 =>
          intro i u hu
          have e : (⟨by_, oy, none⟩ : Addr).add i = ⟨by_, oy + i, none⟩ := by cases i <;> simp [Addr.add]
          rw [e]
          exact (low2.cell (p := ⟨by_, oy + i, none⟩) hby).trans (HCY.out i u hu)
        case e3 => unfold maxLen; omega
        case e4 => omega
        case e5 => omega
        intro v4 w4 own4 grow4 _
        have hb4 : Below wN.heap.size wN w4 := (Below.refl _ _).grown grow4 (Nat.le_refl _) (fun g e => by simp [Value.ownBlock] at e)
        have fr4 := fr_own own4 (List.nil_append _) (Nat.zero_add _)
        obtain ⟨A4, c4, rfl⟩ := fr4.shape
        obtain ⟨hh0, hh1, hh2, hh3⟩ := hHeld
        have hHeld := (And.intro (callC hb4 hh0) (And.intro (callC hb4 hh1) (And.intro (callC hb4 hh2) (callC hb4 hh3))))
        clear hh0 hh1 hh2 hh3
        replace rb2 := rb2.call hb4
        replace low2 := gCall low2 hb4
        have own3 := own2.call hb4
        have z4 := hb4.size
        clear hb4 own4 grow4 own2
        refine hK.out _ _ hHeld ?_
        clear hK K
        try simp only [Act.put]
        try simp only [List.setIfInBounds_toArray, List.set_cons_zero, List.set_cons_succ]
        refine takeFirst (i := 6) (v := ?_) rfl (by kernel_rfl) (by kernel_rfl) (by kernel_rfl) (by rfl) (fun _ _ _ h => h) ?_ (by assumption) ?_
        rotate_left
        · (intro w hSw; go_simp; try (with_reducible rfl))
        try simp only [Act.put, List.setIfInBounds_toArray, List.set_cons_zero, List.set_cons_succ]
        refine stepNext (i := 7) (by kernel_rfl) rfl (by rfl) (fun K hK => ?_)
        go_simp
        obtain ⟨hh0, hh1, hh2, hh3⟩ := hHeld
        have hHeld := (And.intro (allocC (.cells (rowA (.slice A4 t.l.length c4) t.a t.b t.c) 77) hh0) (And.intro (allocC (.cells (rowA (.slice A4 t.l.length c4) t.a t.b t.c) 77) hh1) (And.intro (allocC (.cells (rowA (.slice A4 t.l.length c4) t.a t.b t.c) 77) hh2) (allocC (.cells (rowA (.slice A4 t.l.length c4) t.a t.b t.c) 77) hh3))))
        clear hh0 hh1 hh2 hh3
        have rb5 := rb2.alloc (.cells (rowA (.slice A4 t.l.length c4) t.a t.b t.c) 77)
        have low5 := gAlloc low2 (.cells (rowA (.slice A4 t.l.length c4) t.a t.b t.c) 77)
        have own5 := own3.alloc (.cells (rowA (.slice A4 t.l.length c4) t.a t.b t.c) 77)
        have fr5 := fr4.alloc (.cells (rowA (.slice A4 t.l.length c4) t.a t.b t.c) 77)
        have nb := Box.new w4 77 (rowA (.slice A4 t.l.length c4) t.a t.b t.c)
        have z5 : w4.heap.size + 1 = (w4.alloc (.cells (rowA (.slice A4 t.l.length c4) t.a t.b t.c) 77)).heap.size := by simp
        clear rb2 low2 own3 fr4
        refine hK.out _ _ hHeld ?_
        clear hK K
        try simp only [Act.put]
        try simp only [List.setIfInBounds_toArray, List.set_cons_zero, List.set_cons_succ]
        generalize w4.alloc (.cells (rowA (.slice A4 t.l.length c4) t.a t.b t.c) 77) = w5 at *
        replace fr5 := fr5.more (C' := w5.heap.size) (Nat.le_refl _) (by omega)
        obtain ⟨U, u1, u2, u3⟩ := own5
        rw [LJ.out] at u2
        refine stepNext (i := 8) (by kernel_rfl) rfl (by rfl) (fun K hK => ?_)
        refine wp_append_own _ (.tmp 21) (.tmp 28) 72 rfl (w.heap.size + 1) 77 i0 noRow 4 32 Tryz.underlying72 HI.out HZ.out.1 HZ.out.2.1 HZ.out.2.2 rfl (by decide) _ j _ rfl u2 ⟨w4.heap.size, 0, none⟩ 1 1 (setC (.slice A4 t.l.length c4) t) rfl rfl ?f1 (setC_one fr5) ?f3 ?f4 ?f5 ?_
        case f1 => exact fun x u hx => new_set _ _ t _ x u nb hx
        case f3 => unfold maxLen; omega
        case f4 => omega
        case f5 => omega
        intro v6 w6 own6 grow6 _
        have own7 := OwnR.push u1 (by rw [LJ.out]; exact u2) u3 (t := t) fr5 (by rw [LJ.out]; exact own6) grow6
        rw [← take_snoc HX.out] at own7
        replace rb5 := rb5.grown grow6 (fun e => by have := FW.out _ e.symm; omega)
        replace low5 := low5.grown grow6 (by omega) (fun g e => by have := FW.out _ e; omega)
        obtain ⟨hh0, hh1, hh2, hh3⟩ := hHeld
        have hHeld := (And.intro (grow6.cell hh0 (fun e => by have := FW.out _ e.symm; dsimp only at this; omega)) (And.intro (grow6.cell hh1 (fun e => by have := FW.out _ e.symm; dsimp only at this; omega)) (And.intro (grow6.cell hh2 (fun e => by have := FW.out _ e.symm; dsimp only at this; omega)) (grow6.cell hh3 (fun e => by have := FW.out _ e.symm; dsimp only at this; omega)))))
        clear hh0 hh1 hh2 hh3
        clear own6 grow6 u1 u2 u3 fr5 nb
        refine hK.out _ _ hHeld ?_
        clear hK K
        try simp only [Act.put]
        try simp only [List.setIfInBounds_toArray, List.set_cons_zero, List.set_cons_succ]
        refine stepNext (i := 9) (by kernel_rfl) rfl (by rfl) (fun K hK => ?_)
        go_simp
        refine hK.out _ _ hHeld ?_
        clear hK K
        try simp only [Act.put]
        try simp only [List.setIfInBounds_toArray, List.set_cons_zero, List.set_cons_succ]
        refine wpAnyH_done (by kernel_rfl) ?_ _
        refine NoPanic.normal ?_
        clear hHeld
        go_wp2_with fail
        go_roundw
        case rel => exact ⟨j + 1, by omega, by go_num, own7, rb5, low5⟩
        case measure => simp [intOf]; omega
      · have kj : ((j : Int) == i) = false := by simp [hji]
        replace HX := Lib.hid (HX.out.trans (by rw [if_neg hji]))
        clear hji
        obtain ⟨hly, Ay, cy, ey, y1, y2, y3⟩ := wz
        cases ey
        obtain ⟨by_, oy, rfl, hby, hcy⟩ := y3 (HLN.out j z HX.out).1
        have HCY := Lib.hid hcy
        have HLY := Lib.hid hly
        have ly4 := (HLN.out j z HX.out).2
        clear y3 hcy hly
        have zb := Box.new wr 77 (rowA (.slice (some ⟨by_, oy, none⟩) z.l.length c') z.a z.b z.c)
        have rb1 := rb.alloc (.cells (rowA (.slice (some ⟨by_, oy, none⟩) z.l.length c') z.a z.b z.c) 77)
        have low1 := gAlloc low (.cells (rowA (.slice (some ⟨by_, oy, none⟩) z.l.length c') z.a z.b z.c) 77)
        have own1 := own.alloc (.cells (rowA (.slice (some ⟨by_, oy, none⟩) z.l.length c') z.a z.b z.c) 77)
        obtain ⟨s0, s1, s2, s3⟩ := zb.rowC
        go_wp2_with fail
        refine wp_region_noPanic ?_
        refine wp_region_held_drew (S := fun w' => w'.cell? ⟨wr.heap.size, 0, none⟩ = some (.slice (some ⟨by_, oy, none⟩) z.l.length c') ∧ w'.cell? ⟨wr.heap.size, 1, none⟩ = some (.bool z.a) ∧ w'.cell? ⟨wr.heap.size, 2, none⟩ = some (.bool z.b) ∧ w'.cell? ⟨wr.heap.size, 3, none⟩ = some (.bool z.c)) (by kernel_rfl) ⟨drewC s0, drewC s1, drewC s2, drewC s3⟩ (fun hHeld => ?_)
        clear s0 s1 s2 s3 c0 c1 c2 c3
        have rb2 := rb1.drew
        have low2 := low1.drew
        have own2 := own1.drew
        have z2 : wr.heap.size + 1 ≤ (wr.alloc (.cells (rowA (.slice (some ⟨by_, oy, none⟩) z.l.length c') z.a z.b z.c) 77)).drew.heap.size := by simp
        clear rb1 low1 own1 zb rb low own
        generalize (wr.alloc (.cells (rowA (.slice (some ⟨by_, oy, none⟩) z.l.length c') z.a z.b z.c) 77)).drew = wN at *
        refine takeFirst (i := 0) (v := ?_) rfl (by kernel_rfl) (by kernel_rfl) (by kernel_rfl) (by rfl) (fun _ _ _ h => h) ?_ (by assumption) ?_
        rotate_left
        · (intro w hSw; go_simp; try (with_reducible rfl))
        try simp only [Act.put, List.setIfInBounds_toArray, List.set_cons_zero, List.set_cons_succ]
        refine takeFirst (i := 1) (v := ?_) rfl (by kernel_rfl) (by kernel_rfl) (by kernel_rfl) (by rfl) (fun _ _ _ h => h) ?_ (by assumption) ?_
        rotate_left
        · (intro w hSw; go_simp; try (with_reducible rfl))
        try simp only [Act.put, List.setIfInBounds_toArray, List.set_cons_zero, List.set_cons_succ]
        refine takeFirst (i := 2) (v := ?_) rfl (by kernel_rfl) (by kernel_rfl) (by kernel_rfl) (by rfl) (fun _ _ _ h => h) ?_ (by assumption) ?_
        rotate_left
        · (intro w hSw; go_simp; try (with_reducible rfl))
        try simp only [Act.put, List.setIfInBounds_toArray, List.set_cons_zero, List.set_cons_succ]
        refine takeFirst (i := 4) (v := ?_) rfl (by kernel_rfl) (by kernel_rfl) (by kernel_rfl) (by rfl) (fun _ _ _ h => h) ?_ (by assumption) ?_
        rotate_left
        · (intro w hSw; go_simp; try (with_reducible rfl))
        try simp only [Act.put, List.setIfInBounds_toArray, List.set_cons_zero, List.set_cons_succ]
        refine takeFirst (i := 5) (v := ?_) rfl (by kernel_rfl) (by kernel_rfl) (by kernel_rfl) (by rfl) (fun _ _ _ h => h) ?_ (by assumption) ?_
        rotate_left
        · (intro w hSw; go_simp; try (with_reducible rfl))
        try simp only [Act.put, List.setIfInBounds_toArray, List.set_cons_zero, List.set_cons_succ]
        refine stepNext (i := 3) (by kernel_rfl) rfl (by rfl) (fun K hK => ?_)
        refine wp_append_own _ (.const (.slice none 0 0)) (.tmp 23) 73 rfl (w.heap.size + 1) 80 i1 wy0.val 6 48 Tryz.underlying73 HI1.out HZ1.out.1 HZ1.out.2.1 HZ1.out.2.2 rfl (by decide) (.slice none 0 0) 0 [] rfl (World.ownsRow_nil _ _ _ _) ⟨by_, oy, none⟩ z.l.length c' (waysC z.l) rfl HLY.out ?e1 (waysC_one _) ?e3 ?e4 ?e5 ?_
        case e1 =>
          intro i u hu
          have e : (⟨by_, oy, none⟩ : Addr).add i = ⟨by_, oy + i, none⟩ := by cases i <;> simp [Addr.add]
          rw [e]
          exact (low2.cell (p := ⟨by_, oy + i, none⟩) hby).trans (HCY.out i u hu)
        case e3 => unfold maxLen; omega
        case e4 => omega
        case e5 => omega
        intro v4 w4 own4 grow4 _
        have hb4 : Below wN.heap.size wN w4 := (Below.refl _ _).grown grow4 (Nat.le_refl _) (fun g e => by simp [Value.ownBlock] at e)
        have fr4 := fr_own own4 (List.nil_append _) (Nat.zero_add _)
        obtain ⟨A4, c4, rfl⟩ := fr4.shape
        obtain ⟨hh0, hh1, hh2, hh3⟩ := hHeld
        have hHeld := (And.intro (callC hb4 hh0) (And.intro (callC hb4 hh1) (And.intro (callC hb4 hh2) (callC hb4 hh3))))
        clear hh0 hh1 hh2 hh3
        replace rb2 := rb2.call hb4
        replace low2 := gCall low2 hb4
        have own3 := own2.call hb4
        have z4 := hb4.size
        clear hb4 own4 grow4 own2
        refine hK.out _ _ hHeld ?_
        clear hK K
        try simp only [Act.put]
        try simp only [List.setIfInBounds_toArray, List.set_cons_zero, List.set_cons_succ]
        refine takeFirst (i := 6) (v := ?_) rfl (by kernel_rfl) (by kernel_rfl) (by kernel_rfl) (by rfl) (fun _ _ _ h => h) ?_ (by assumption) ?_
        rotate_left
        · (intro w hSw; go_simp; try (with_reducible rfl))
        try simp only [Act.put, List.setIfInBounds_toArray, List.set_cons_zero, List.set_cons_succ]
        refine stepNext (i := 7) (by kernel_rfl) rfl (by rfl) (fun K hK => ?_)
        go_simp
        obtain ⟨hh0, hh1, hh2, hh3⟩ := hHeld
        have hHeld := (And.intro (allocC (.cells (rowA (.slice A4 z.l.length c4) z.a z.b z.c) 77) hh0) (And.intro (allocC (.cells (rowA (.slice A4 z.l.length c4) z.a z.b z.c) 77) hh1) (And.intro (allocC (.cells (rowA (.slice A4 z.l.length c4) z.a z.b z.c) 77) hh2) (allocC (.cells (rowA (.slice A4 z.l.length c4) z.a z.b z.c) 77) hh3))))
        clear hh0 hh1 hh2 hh3
        have rb5 := rb2.alloc (.cells (rowA (.slice A4 z.l.length c4) z.a z.b z.c) 77)
        have low5 := gAlloc low2 (.cells (rowA (.slice A4 z.l.length c4) z.a z.b z.c) 77)
        have own5 := own3.alloc (.cells (rowA (.slice A4 z.l.length c4) z.a z.b z.c) 77)
        have fr5 := fr4.alloc (.cells (rowA (.slice A4 z.l.length c4) z.a z.b z.c) 77)
        have nb := Box.new w4 77 (rowA (.slice A4 z.l.length c4) z.a z.b z.c)
        have z5 : w4.heap.size + 1 = (w4.alloc (.cells (rowA (.slice A4 z.l.length c4) z.a z.b z.c) 77)).heap.size := by simp
        clear rb2 low2 own3 fr4
        refine hK.out _ _ hHeld ?_
        clear hK K
        try simp only [Act.put]
        try simp only [List.setIfInBounds_toArray, List.set_cons_zero, List.set_cons_succ]
        generalize w4.alloc (.cells (rowA (.slice A4 z.l.length c4) z.a z.b z.c) 77) = w5 at *
        replace fr5 := fr5.more (C' := w5.heap.size) (Nat.le_refl _) (by omega)
        obtain ⟨U, u1, u2, u3⟩ := own5
        rw [LJ.out] at u2
        refine stepNext (i := 8) (by kernel_rfl) rfl (by rfl) (fun K hK => ?_)
        refine wp_append_own _ (.tmp 21) (.tmp 28) 72 rfl (w.heap.size + 1) 77 i0 noRow 4 32 Tryz.underlying72 HI.out HZ.out.1 HZ.out.2.1 HZ.out.2.2 rfl (by decide) _ j _ rfl u2 ⟨w4.heap.size, 0, none⟩ 1 1 (setC (.slice A4 z.l.length c4) z) rfl rfl ?f1 (setC_one fr5) ?f3 ?f4 ?f5 ?_
        case f1 => exact fun x u hx => new_set _ _ z _ x u nb hx
        case f3 => unfold maxLen; omega
        case f4 => omega
        case f5 => omega
        intro v6 w6 own6 grow6 _
        have own7 := OwnR.push u1 (by rw [LJ.out]; exact u2) u3 (t := z) fr5 (by rw [LJ.out]; exact own6) grow6
        rw [← take_snoc HX.out] at own7
        replace rb5 := rb5.grown grow6 (fun e => by have := FW.out _ e.symm; omega)
        replace low5 := low5.grown grow6 (by omega) (fun g e => by have := FW.out _ e; omega)
        obtain ⟨hh0, hh1, hh2, hh3⟩ := hHeld
        have hHeld := (And.intro (grow6.cell hh0 (fun e => by have := FW.out _ e.symm; dsimp only at this; omega)) (And.intro (grow6.cell hh1 (fun e => by have := FW.out _ e.symm; dsimp only at this; omega)) (And.intro (grow6.cell hh2 (fun e => by have := FW.out _ e.symm; dsimp only at this; omega)) (grow6.cell hh3 (fun e => by have := FW.out _ e.symm; dsimp only at this; omega)))))
        clear hh0 hh1 hh2 hh3
        clear own6 grow6 u1 u2 u3 fr5 nb
        refine hK.out _ _ hHeld ?_
        clear hK K
        try simp only [Act.put]
        try simp only [List.setIfInBounds_toArray, List.set_cons_zero, List.set_cons_succ]
        refine stepNext (i := 9) (by kernel_rfl) rfl (by rfl) (fun K hK => ?_)
        go_simp
        refine hK.out _ _ hHeld ?_
        clear hK K
        try simp only [Act.put]
        try simp only [List.setIfInBounds_toArray, List.set_cons_zero, List.set_cons_succ]
        refine wpAnyH_done (by kernel_rfl) ?_ _
        refine NoPanic.normal ?_
        clear hHeld
        go_wp2_with fail
        go_roundw
        case rel => exact ⟨j + 1, by omega, by go_num, own7, rb5, low5⟩
        case measure => simp [intOf]; omega
    · obtain rfl : j = ss.length := by omega
      rw [show L.take ss.length = L by rw [← LL.out, List.take_length]] at own
      rw [lj]
      rw [LL.out] at own
      have OW := Lib.hid (own.more (Nat.le_succ _))
      clear own lj
      go_wp2_with fail
      go_ret
      exact ⟨⟨_, _, rfl, OW.out⟩, low⟩
end Go.Proofs.YtgdacpcifnpojaaGreat
