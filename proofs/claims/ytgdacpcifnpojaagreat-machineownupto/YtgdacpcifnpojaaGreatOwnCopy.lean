/-
Proved: append of a slice onto nil, whatever its length; what CacheWith of the reference gives where no set is another. Condition: at most a million sets, and ways of each.
-/
import Derived.Test.YtgdacpcifnpojaaGreatRefCache
import Derived.Deep.Upon
namespace Go.Proofs.YtgdacpcifnpojaaGreat
open Go.ChangeShapes Go.WideShapes Go.ChangeAt Go.RowKit Go.Joins
theorem wp_append_copy {o : Oper} {a : Act} {w : World} {K : Act → World → Prop} {Q : Exit → Act → World → Prop} (s x : Operand) (t : TypeId) (ho : o.op = .call { callee := .builtin .append, args := #[s, x], argTypes := #[t, t] })
  (e : TypeId) (i : TypeInfo) (z : Value) (size bytes : Nat) (ht : Tryz.prog.underlying t = some (.slice e)) (hi : Tryz.prog.info? e = some i) (hz : i.zero = some z) (hsize : i.size = size) (hby : i.bytes = bytes) (hzs : z.cells.size = size) (hsz : 0 < size)
  (hs : a.eval s = .slice none 0 0) (u : Value) (n : Nat) (xs : List Value) (hx : a.eval x = u) (hu : Sl w w.heap.size size u n xs) (h1 : ∀ v ∈ xs, v.oneCell' = true) (hn : n ≤ 1048576) (hb : n * bytes ≤ 140737488355328)
  (h : ∀ v' w', w'.ownsRow w.heap.size e size v' n xs → Below w.heap.size w w' → K (a.put o.dst v') w') : o.wp Tryz.prog a w K Q := by
 obtain ⟨hl, A, c, rfl, k1, k2, k3⟩ := hu
 cases A with
 | none =>
  obtain rfl : n = 0 := by
   rcases Nat.eq_zero_or_pos n with e | e
   ·exact e
   ·obtain ⟨_, _, e2, _⟩ := k3 e
    cases e2
  obtain rfl : xs = [] := List.eq_nil_of_length_eq_zero (by omega)
  have hr := run_append_nothing (P := Tryz.prog) w t t o.type e i ht hi none 0 0 (Nat.le_refl _) (.slice none 0 c) (Src.ofNil (w := w) (size := i.size) ht c)
  unfold Oper.wp execOp
  simp only [ho, resolve, invoke, builtin, Sem.run_bind, Sem.run_pure, Result.andThen_ok, List.map_toArray, List.map_cons, List.map_nil, hs, hx, hr]
  exact h _ _ (World.ownsRow_nil _ _ _ _) (Below.refl _ _)
 | some ad =>
  refine wp_append_own w s x t ho w.heap.size e i z size bytes ht hi hz hsize hby hzs hsz (.slice none 0 0) 0 [] hs (World.ownsRow_nil _ _ _ _) ad n c xs hx hl (fun j v hv => ?_) h1 (by unfold maxLen; omega) (by simpa using hb) (Nat.le_refl _) (fun v' w' own grow _ => ?_)
  ·have hj := (List.getElem?_eq_some_iff.1 hv).1
   have n0 : 0 < n := by
    rcases Nat.eq_zero_or_pos n with e | e
    ·rw [e, Nat.zero_mul] at hl; omega
    ·exact e
   obtain ⟨b, o', e, hb', hc⟩ := k3 n0
   cases e
   have e : (⟨b, o', none⟩ : Addr).add j = ⟨b, o' + j, none⟩ := by cases j <;> simp [Addr.add]
   rw [e]
   exact hc j v hv
  ·rw [Nat.zero_add, List.nil_append] at own
   exact h v' w' own ((Below.refl _ _).grown grow (Nat.le_refl _) (fun g e => by simp [Value.ownBlock] at e))
theorem wpList_append_copy {ops : Array Oper} {rest : List Oper} {o : Oper} {a : Act} {w : World} {Q : Exit → Act → World → Prop} (hgd : o.guard = none) (s x : Operand) (t : TypeId) (ho : o.op = .call { callee := .builtin .append, args := #[s, x], argTypes := #[t, t] })
  (e : TypeId) (i : TypeInfo) (z : Value) (size bytes : Nat) (ht : Tryz.prog.underlying t = some (.slice e)) (hi : Tryz.prog.info? e = some i) (hz : i.zero = some z) (hsize : i.size = size) (hby : i.bytes = bytes) (hzs : z.cells.size = size) (hsz : 0 < size)
  (hs : a.eval s = .slice none 0 0) (u : Value) (n : Nat) (xs : List Value) (hx : a.eval x = u) (hu : Sl w w.heap.size size u n xs) (h1 : ∀ v ∈ xs, v.oneCell' = true) (hn : n ≤ 1048576) (hb : n * bytes ≤ 140737488355328)
  (h : ∀ v' w', w'.ownsRow w.heap.size e size v' n xs → Below w.heap.size w w' → wpList Tryz.prog ops Q rest (a.put o.dst v') w') : wpList Tryz.prog ops Q (o :: rest) a w :=
 wpList_plain hgd fun _ hK => wp_append_copy s x t ho e i z size bytes ht hi hz hsize hby hzs hsz hs u n xs hx hu h1 hn hb fun v' w' o' b => hK _ _ (h v' w' o' b)
set_option maxRecDepth 10000 in
set_option maxHeartbeats 4000000 in
theorem cacheCopy_any (v : Value) (ss : List St) (w : World) (h : Cs w v ss) (hn : ss.length ≤ 1048576) (hln : ∀ (q : Nat) z, ss[q]? = some z → z.l.length ≤ 1048576) :
  Calls Tryz.prog 70 #[v, .int .i64 (-1), .agg #[.slice none 0 0, .bool false, .bool false, .bool false]] w fun e w' => (∃ A c, e = .returned (.slice A ss.length c) ∧ OwnR w' w.heap.size (.slice A ss.length c) ss) ∧ Below w.heap.size w w' := by
 obtain ⟨i0, hi, hz0, hz1, hz2⟩ := info_parts info_row
 have HI := Lib.hid hi
 have HZ := Lib.hid (And.intro hz0 (And.intro hz1 hz2))
 obtain ⟨i1, hi', hz0', hz1', hz2'⟩ := info_parts info_way
 have HI1 := Lib.hid hi'
 have HZ1 := Lib.hid (And.intro hz0' (And.intro hz1' hz2'))
 obtain ⟨Ah, cp, rfl, h1, h2, h3⟩ := h
 have H3 := Lib.hid h3
 have HLN := Lib.hid hln
 unfold maxLen at h2
 clear hi hz0 hz1 hz2 hi' hz0' hz1' hz2' h3 hln
 have low := Below.refl w.heap.size w
 have rb := boxNext low 77 #[.slice none 0 0, .bool false, .bool false, .bool false]
 replace low := gAlloc low (.cells #[.slice none 0 0, .bool false, .bool false, .bool false] 77)
 try simp only [World.size_alloc] at rb
 go_enter Tryz.func70, Tryz.ntmps70
 go_wp2_with fail
 go_loopw [7, 12] (fun s i wr => ∃ j : Nat, j ≤ ss.length ∧ i = .int .i64 j ∧ OwnR wr (w.heap.size + 1) s (ss.take j) ∧ Box wr w.heap.size 77 #[.slice none 0 0, .bool false, .bool false, .bool false] ∧ Below w.heap.size w wr) (fun _ i _ => ss.length - (intOf i).toNat)
 case atStart => exact ⟨0, Nat.zero_le _, rfl, OwnR.nil _ _, rb, low⟩
 case round =>
  clear rb low
  obtain ⟨j, hj, rfl, own, rb, low⟩ := hrel
  obtain ⟨As, cs, rfl⟩ := own.shape
  have lj : (ss.take j).length = j := by rw [List.length_take]; omega
  by_cases hlt : j < ss.length
  ·obtain ⟨bb, o, rfl, hb, hc⟩ := H3.out (by omega)
   have hx : ss[j]? = some ss[j] := List.getElem?_eq_getElem _
   generalize ss[j] = z at hx
   obtain ⟨A', c', ra, wz⟩ := hc.at_ j z hx
   obtain ⟨c0, c1, c2, c3⟩ := rowAt_of ra hb low
   have HX := Lib.hid hx
   have zln := HLN.out j z hx
   have WZ := Lib.hid (wz.call low)
   have k0 : (0 : Int) ≤ j := by omega
   have k1 : (j : Int) < ss.length := by omega
   have kj : ((j : Int) == -1) = false := beq_eq_false_iff_ne.2 (by omega)
   have zr : w.heap.size + 1 ≤ wr.heap.size := rb.lt
   clear hx ra hc wz
   rw [lj] at own ⊢
   have LJ := Lib.hid lj
   have FW := Lib.hid own.lt
   clear lj
   have zb := Box.new wr 77 (rowA (.slice A' z.l.length c') z.a z.b z.c)
   have rb1 := rb.alloc (.cells (rowA (.slice A' z.l.length c') z.a z.b z.c) 77)
   have low1 := gAlloc low (.cells (rowA (.slice A' z.l.length c') z.a z.b z.c) 77)
   have own1 := own.alloc (.cells (rowA (.slice A' z.l.length c') z.a z.b z.c) 77)
   have WZ1 := Lib.hid (WZ.out.call (gAlloc (Below.refl wr.heap.size wr) (.cells (rowA (.slice A' z.l.length c') z.a z.b z.c) 77)))
   obtain ⟨s0, s1, s2, s3⟩ := zb.rowC
   go_wp2_with fail
   refine wp_region_noPanic ?_
   refine wp_region_held_drew (S := fun w' => w'.cell? ⟨wr.heap.size, 0, none⟩ = some (.slice A' z.l.length c') ∧ w'.cell? ⟨wr.heap.size, 1, none⟩ = some (.bool z.a) ∧ w'.cell? ⟨wr.heap.size, 2, none⟩ = some (.bool z.b) ∧ w'.cell? ⟨wr.heap.size, 3, none⟩ = some (.bool z.c)) (by kernel_rfl) ⟨drewC s0, drewC s1, drewC s2, drewC s3⟩ (fun hHeld => ?_)
   clear s0 s1 s2 s3 c0 c1 c2 c3
   have rb2 := rb1.drew
   have low2 := low1.drew
   have own2 := own1.drew
   have WZ2 := Lib.hid (WZ1.out.call (Below.refl _ _).drew)
   have z2 : wr.heap.size + 1 ≤ (wr.alloc (.cells (rowA (.slice A' z.l.length c') z.a z.b z.c) 77)).drew.heap.size := by simp
   clear rb1 low1 own1 zb rb low own WZ WZ1
   generalize (wr.alloc (.cells (rowA (.slice A' z.l.length c') z.a z.b z.c) 77)).drew = wN at *
   refine takeA 0 ?_ rfl ?_ ?_; rotate_left
   ·(intro w hSw; go_simp; try (with_reducible rfl))
   try simp only [Act.put, List.setIfInBounds_toArray, List.set_cons_zero, List.set_cons_succ]
   refine takeA 1 ?_ rfl ?_ ?_; rotate_left
   ·(intro w hSw; go_simp; try (with_reducible rfl))
   try simp only [Act.put, List.setIfInBounds_toArray, List.set_cons_zero, List.set_cons_succ]
   refine takeA 2 ?_ rfl ?_ ?_; rotate_left
   ·(intro w hSw; go_simp; try (with_reducible rfl))
   try simp only [Act.put, List.setIfInBounds_toArray, List.set_cons_zero, List.set_cons_succ]
   refine takeA 4 ?_ rfl ?_ ?_; rotate_left
   ·(intro w hSw; go_simp; try (with_reducible rfl))
   try simp only [Act.put, List.setIfInBounds_toArray, List.set_cons_zero, List.set_cons_succ]
   refine takeA 5 ?_ rfl ?_ ?_; rotate_left
   ·(intro w hSw; go_simp; try (with_reducible rfl))
   try simp only [Act.put, List.setIfInBounds_toArray, List.set_cons_zero, List.set_cons_succ]
   refine stepNext (i := 3) (by kernel_rfl) rfl (by rfl) (fun K hK => ?_)
   refine wp_append_copy (.const (.slice none 0 0)) (.tmp 23) 73 rfl 80 i1 wy0.val 6 48 Tryz.underlying73 HI1.out HZ1.out.1 HZ1.out.2.1 HZ1.out.2.2 rfl (by decide) rfl (.slice A' z.l.length c') z.l.length (waysC z.l) rfl WZ2.out.sl (waysC_one _) zln (by omega) ?_
   intro v4 w4 own4 hb4
   have fr4 := (fr_own own4 rfl rfl).more (show w.heap.size + 1 ≤ wN.heap.size by omega) (Nat.le_refl _)
   obtain ⟨A4, c4, rfl⟩ := fr4.shape
   obtain ⟨hh0, hh1, hh2, hh3⟩ := hHeld
   have hHeld := (And.intro (callC hb4 hh0) (And.intro (callC hb4 hh1) (And.intro (callC hb4 hh2) (callC hb4 hh3))))
   clear hh0 hh1 hh2 hh3
   replace rb2 := rb2.call hb4
   replace low2 := gCall low2 hb4
   have own3 := own2.call hb4
   have z4 := hb4.size
   clear hb4 own4 own2 WZ2
   refine hK.out _ _ hHeld ?_
   clear hK K
   try simp only [Act.put]
   try simp only [List.setIfInBounds_toArray, List.set_cons_zero, List.set_cons_succ]
   refine takeA 6 ?_ rfl ?_ ?_; rotate_left
   ·(intro w hSw; go_simp; try (with_reducible rfl))
   try simp only [Act.put, List.setIfInBounds_toArray, List.set_cons_zero, List.set_cons_succ]
   refine stepNext (i := 7) (by kernel_rfl) rfl (by rfl) (fun K hK => ?_)
   go_simp
   obtain ⟨hh0, hh1, hh2, hh3⟩ := hHeld
   have hHeld := (And.intro (allocC (.cells (rowA (.slice A4 z.l.length c4) z.a z.b z.c) 77) hh0) (And.intro (allocC (.cells (rowA (.slice A4 z.l.length c4) z.a z.b z.c) 77) hh1) (And.intro (allocC (.cells (rowA (.slice A4 z.l.length c4) z.a z.b z.c) 77) hh2) (allocC (.cells (rowA (.slice A4 z.l.length c4) z.a z.b z.c) 77) hh3))))
   clear hh0 hh1 hh2 hh3
   have rb5 := rb2.alloc (.cells (rowA (.slice A4 z.l.length c4) z.a z.b z.c) 77)
   have low5 := gAlloc low2 (.cells (rowA (.slice A4 z.l.length c4) z.a z.b z.c) 77)
   have own5 := own3.alloc (.cells (rowA (.slice A4 z.l.length c4) z.a z.b z.c) 77)
   have fr5 := fr4.alloc (.cells (rowA (.slice A4 z.l.length c4) z.a z.b z.c) 77)
   have nb := Box.new w4 77 (rowA (.slice A4 z.l.length c4) z.a z.b z.c)
   have z5 : w4.heap.size + 1 = (w4.alloc (.cells (rowA (.slice A4 z.l.length c4) z.a z.b z.c) 77)).heap.size := by simp
   clear rb2 low2 own3 fr4
   refine hK.out _ _ hHeld ?_
   clear hK K
   try simp only [Act.put]
   try simp only [List.setIfInBounds_toArray, List.set_cons_zero, List.set_cons_succ]
   generalize w4.alloc (.cells (rowA (.slice A4 z.l.length c4) z.a z.b z.c) 77) = w5 at *
   replace fr5 := fr5.more (C' := w5.heap.size) (Nat.le_refl _) (by omega)
   obtain ⟨U, u1, u2, u3⟩ := own5
   rw [LJ.out] at u2
   refine stepNext (i := 8) (by kernel_rfl) rfl (by rfl) (fun K hK => ?_)
   refine wp_append_own _ (.tmp 21) (.tmp 28) 72 rfl (w.heap.size + 1) 77 i0 noRow 4 32 Tryz.underlying72 HI.out HZ.out.1 HZ.out.2.1 HZ.out.2.2 rfl (by decide) _ j _ rfl u2 ⟨w4.heap.size, 0, none⟩ 1 1 (setC (.slice A4 z.l.length c4) z) rfl rfl ?f1 (setC_one fr5) ?f3 ?f4 ?f5 ?_
   case f1 => exact fun x u hx => new_set _ _ z _ x u nb hx
   case f3 => unfold maxLen; omega
   case f4 => omega
   case f5 => omega
   intro v6 w6 own6 grow6 _
   have own7 := OwnR.push u1 (by rw [LJ.out]; exact u2) u3 (t := z) fr5 (by rw [LJ.out]; exact own6) grow6
   rw [← take_snoc HX.out] at own7
   replace rb5 := rb5.grown grow6 (fun e => by have := FW.out _ e.symm; omega)
   replace low5 := low5.grown grow6 (by omega) (fun g e => by have := FW.out _ e; omega)
   obtain ⟨hh0, hh1, hh2, hh3⟩ := hHeld
   have hHeld := (And.intro (grow6.cell hh0 (fun e => by have := FW.out _ e.symm; dsimp only at this; omega)) (And.intro (grow6.cell hh1 (fun e => by have := FW.out _ e.symm; dsimp only at this; omega)) (And.intro (grow6.cell hh2 (fun e => by have := FW.out _ e.symm; dsimp only at this; omega)) (grow6.cell hh3 (fun e => by have := FW.out _ e.symm; dsimp only at this; omega)))))
   clear hh0 hh1 hh2 hh3
   clear own6 grow6 u1 u2 u3 fr5 nb
   refine hK.out _ _ hHeld ?_
   clear hK K
   try simp only [Act.put]
   try simp only [List.setIfInBounds_toArray, List.set_cons_zero, List.set_cons_succ]
   refine stepNext (i := 9) (by kernel_rfl) rfl (by rfl) (fun K hK => ?_)
   go_simp
   refine hK.out _ _ hHeld ?_
   clear hK K
   try simp only [Act.put]
   try simp only [List.setIfInBounds_toArray, List.set_cons_zero, List.set_cons_succ]
   refine wpAnyH_done (by kernel_rfl) ?_ _
   refine NoPanic.normal ?_
   clear hHeld
   go_wp2_with fail
   go_roundw
   case rel => exact ⟨j + 1, by omega, by go_num, own7, rb5, low5⟩
   case measure => simp [intOf]; omega
  ·obtain rfl : j = ss.length := by omega
   rw [List.take_length] at own
   have OW := Lib.hid (own.more (Nat.le_succ _))
   clear own lj
   rw [List.take_length]
   go_wp2_with fail
   go_ret
   exact ⟨⟨_, _, rfl, OW.out⟩, low⟩
end Go.Proofs.YtgdacpcifnpojaaGreat
