/-
Proved: what the statements on package machine rest on, all in one place: the contracts of its functions. No condition.
-/
import Derived.Test.YtcegjehoejgofaaGreatJoined7
import Derived.Test.YtcegjehoejgofaaGreatJoined6
import Derived.Test.YtcegjehoejgofaaGreatJoined4
import Derived.Test.YtcegjehoejgofaaGreatJoined5
import Derived.Test.YtcegjehoejgofaaGreatJoined1
namespace Go.Proofs.YtcegjehoejgofaaGreat
open Go.ChangeShapes Go.WideShapes Go.ChangeAt Go.RowKit Go.Joins
def GivesN (E : Int) (X : Mc × List Ev) (B : Nat) (e : Ending) (w' : World) : Prop :=
 ∃ v u, e = .returned (.tuple #[v, u, .int .i64 E]) ∧ ((E ≠ 0 ∧ v = mc0 ∧ u = .slice none 0 0) ∨ (E = 0 ∧ NewM w' B v X.1 ∧ w'.ownsRow B 51 6 u X.2.length (elE.C X.2)))
theorem wpList_buildR {ops : Array Oper} {rest : List Oper} {dst : Option Tmp} {t : TypeId} {pos : String} {after : Array Edge} {a : Act} {w : World} {Q : Exit → Act → World → Prop} {x : Operand} {n s y b h : Int} {u rv pv av tv : Value} {m : List Int} (hm : m.length = 64) (hx : a.eval x = .agg (mcA n s y b u m rv pv av tv h))
  (k : wpList Tryz.prog ops Q rest (a.put dst (.agg (runA n s y b u m rv pv av tv h (.slice none 0 0)))) w) : wpList Tryz.prog ops Q (⟨dst, .build 127 #[(0, x)], t, pos, after, none⟩ :: rest) a w := by
 refine wpList_plain rfl fun K hK => ?_
 unfold Oper.wp execOp
 simp only [List.map_toArray, List.map_cons, List.map_nil, hx, Sem.run_bind, build_run hm, Result.andThen_ok, Sem.run_pure]
 exact hK _ _ k
structure Outs (w : World) (B g : Nat) (M : Mc) (ev : List Ev) (XA : Array Value) (A : Option Addr) (c : Nat) : Prop where
 rng : w.rangeAt g 0 XA.toList
 sz : XA.size = 74
 one : XA.all (·.oneCell') = true
 evs : w.cell? ⟨g, 74, none⟩ = some (.slice A ev.length c)
 new : ∀ w', (∀ x T cs, T ≠ 37 → Box w x T cs → Box w' x T cs) → w.heap.size ≤ w'.heap.size → NewM w' B (.agg XA) M ∧ w'.ownsRow B 51 6 (.slice A ev.length c) ev.length (elE.C ev)
theorem row_map {w w' : World} {base size n : Nat} {e : TypeId} {v : Value} {xs : List Value} (h : w.ownsRow base e size v n xs) (hk : ∀ x cs, Box w x e cs → Box w' x e cs) : w'.ownsRow base e size v n xs := by
 refine ⟨h.1, ?_⟩
 rcases h.2 with k | ⟨g', cap, cur, rfl, hb, hgg, rest⟩
 ·exact .inl k
 ·exact .inr ⟨g', cap, cur, rfl, hb, hk g' cur hgg, rest⟩
theorem NewM.map {w w' : World} {B B' : Nat} {v : Value} {M : Mc} (h : NewM w B v M) (hk : ∀ x T cs, T ≠ 37 → Box w x T cs → Box w' x T cs) (hs : w.heap.size ≤ w'.heap.size) (hB : B' ≤ B) : NewM w' B' v M := by
 obtain ⟨m64, A0, c0, A1, c1, A2, c2, A3, c3, A4, c4, ga, Bk, Ck, Bt, rfl, ⟨k, k1, k2, k3⟩, r, p, ⟨a, a1⟩, ⟨t, t1, t2⟩⟩ := h
 refine ⟨m64, A0, c0, A1, c1, A2, c2, A3, c3, A4, c4, ga, Bk, Ck, Bt, rfl, ⟨k.map (fun h cs b => hk h _ cs (by decide) b) (fun h cs b => hk h _ cs (by decide) b) (fun h cs b => hk h _ cs (by decide) b), by omega, by omega, k3⟩, (r.frame fun h cs b => hk h _ cs (by decide) b).more hB hs, ?_, ⟨?_, by omega⟩, ⟨row_map t fun h cs b => hk h _ cs (by decide) b, t1, by omega⟩⟩
 ·obtain ⟨gp, cp, e1, p1, p2, q1, q2, q3⟩ := p
  refine ⟨gp, cp, e1, by omega, p2, hk gp _ cp (by decide) q1, q2, fun k l hk' hl => ?_⟩
  obtain ⟨u, e', d⟩ := q3 k l hk' hl
  exact ⟨u, e', own_wider (row_map d fun h cs b => hk h _ cs (by decide) b) hB⟩
 ·obtain ⟨cap, cur, e1, d1, d2⟩ := a
  exact ⟨cap, cur, e1, hk ga _ cur (by decide) d1, d2⟩
theorem RunS.outs {w : World} {B g ga : Nat} {M : Mc} {ev : List Ev} (h : RunS w B g ga M ev) : ∃ XA A c, Outs w B g M ev XA A c := by
 obtain ⟨m64, gB, aB, A0, c0, A1, c1, A2, c2, A3, c3, A4, c4, A5, c5, Bk, Ck, Bt, bx, ⟨k, k1, k2⟩, r, p, a, ⟨t, t1, t2⟩, e⟩ := h
 refine ⟨_, A5, c5, run_range bx, mcA_size m64, mcA_one, (run_cells bx m64).2.2.2.2.2.2, fun w' hk hs => ⟨⟨m64, A0, c0, A1, c1, A2, c2, A3, c3, A4, c4, ga, Bk, Ck, Bt, rfl, ⟨k.map (fun h cs b => hk h _ cs (by decide) b) (fun h cs b => hk h _ cs (by decide) b) (fun h cs b => hk h _ cs (by decide) b), k1, Nat.le_trans k2.1 hs, k2.2.2⟩, (r.frame fun h cs b => hk h _ cs (by decide) b).more (Nat.le_refl _) hs, ?_, ⟨?_, aB⟩, ⟨row_map t fun h cs b => hk h _ cs (by decide) b, t1, t2⟩⟩, row_map e fun h cs b => hk h _ cs (by decide) b⟩⟩
 ·obtain ⟨gp, cp, e1, p1, p2, q1, q2, q3⟩ := p
  refine ⟨gp, cp, e1, p1, p2, hk gp _ cp (by decide) q1, q2, fun k l hk' hl => ?_⟩
  obtain ⟨u, e', d⟩ := q3 k l hk' hl
  exact ⟨u, e', row_map d fun h cs b => hk h _ cs (by decide) b⟩
 ·obtain ⟨cap, cur, e1, d1, d2⟩ := a
  exact ⟨cap, cur, e1, hk ga _ cur (by decide) d1, d2⟩
abbrev mcZ : Array Value := mcA 0 0 0 0 (.slice none 0 0) zeroL (.slice none 0 0) (.slice none 0 0) (.slice none 0 0) (.slice none 0 0) 0
theorem mcZ_one : mcZ.all (·.oneCell') = true := mcA_one
set_option maxRecDepth 10000 in
set_option maxHeartbeats 8000000 in
theorem runOf_plain (F : Nat) (eg : ∀ args w, (callFunc F args).run Tryz.prog w = .ok (.enter F args) w) (v : Value) (M : Mc) (w : World) (h : MRead w v M) (ok : McOk M) (E : Int) (X : Mc × List Ev)
  (C : ∀ W g ga, Below w.heap.size w W → RunS W w.heap.size g ga M [] → Calls Tryz.prog F #[.pointer (some ⟨g, 0, none⟩)] W fun e w' => (e = .returned (.int .i64 E) ∧ (E = 0 → RunS w' w.heap.size g ga X.1 X.2)) ∧ Kept w.heap.size ga W w') :
  Calls Tryz.prog 22 #[v, .func (.func F) #[] #[]] w fun e w' => GivesN E X w.heap.size e w' ∧ Below w.heap.size w w' := by
 have m64 := h.m64
 have CP := Lib.hid fun W (hb : Below w.heap.size w W) => copy_is v M W (h.call hb) ok
 have CC := Lib.hid C
 obtain ⟨A0, c0, A1, c1, A2, c2, A3, c3, A4, c4, rfl, _⟩ := h.shape
 have sz : (mcA M.n M.s M.y M.b (.slice A0 M.css.length c0) M.mem (.slice A1 M.ring.length c1) (.slice A2 M.pr.length c2) (.slice A3 M.at_.length c3) (.slice A4 M.wts.length c4) M.had).size = mcZ.size := by rw [mcA_size m64, mcA_size zeroL_length]
 generalize mcA M.n M.s M.y M.b (.slice A0 M.css.length c0) M.mem (.slice A1 M.ring.length c1) (.slice A2 M.pr.length c2) (.slice A3 M.at_.length c3) (.slice A4 M.wts.length c4) M.had = XA at *
 clear h C
 have low := Below.refl w.heap.size w
 have xb := boxNext low 37 XA
 replace low := gAlloc low (.cells XA 37)
 try simp only [World.size_alloc] at xb
 have ob := boxNext low 37 mcZ
 replace low := gAlloc low (.cells mcZ 37)
 replace xb := xb.alloc (.cells mcZ 37)
 try simp only [World.size_alloc] at ob
 have xr := xb.range
 go_enter Tryz.func22, Tryz.ntmps22
 go_wp2_with (first | (with_reducible refine wp_newW (tyMach) ?_) | ((with_reducible refine wp_loadW (tyMach) (xr) (sz) ?_ ?_ ?_); rfl; rfl))
 (with_reducible refine (CP.out _ low).mono ?_); rintro e w1 ⟨⟨v1, rfl, nm⟩, hb⟩
 have NM := Lib.hid nm
 have w01 := hb.size
 simp only [World.size_alloc] at w01
 replace xb := xb.call hb
 replace ob := ob.call hb
 replace low := gCall low hb
 clear hb xr CP
 obtain ⟨_, B0, d0, B1, d1, B2, d2, B3, d3, B4, d4, ga, Bk, Ck, Bt, rfl, ⟨kf, kf1, kf2, kf3⟩, fr, pf, ⟨ia, ia1⟩, ⟨rt, rt1, rt2⟩⟩ := nm
 simp only [World.size_alloc] at kf1 fr pf ia1 rt2
 have sy : (mcA M.n M.s M.y M.b (.slice B0 M.css.length d0) M.mem (.slice B1 M.ring.length d1) (.slice B2 M.pr.length d2) (.slice B3 M.at_.length d3) (.slice B4 M.wts.length d4) M.had).size = mcZ.size := by rw [mcA_size m64, mcA_size zeroL_length]
 have on : (mcA M.n M.s M.y M.b (.slice B0 M.css.length d0) M.mem (.slice B1 M.ring.length d1) (.slice B2 M.pr.length d2) (.slice B3 M.at_.length d3) (.slice B4 M.wts.length d4) M.had).all (·.oneCell') = true := mcA_one
 go_wp2_with ((with_reducible refine wp_storeW (tyMach) (xb) (sz) (sy) (on) ?_ ?_ ?_); rfl; rfl)
 intro w2 xb2 st
 have agl := ia.lt
 have RS := Lib.hid (show RunS (w2.alloc (.cells (runA M.n M.s M.y M.b (.slice B0 M.css.length d0) M.mem (.slice B1 M.ring.length d1) (.slice B2 M.pr.length d2) (.slice B3 M.at_.length d3) (.slice B4 M.wts.length d4) M.had (.slice none 0 0)) 127)) w.heap.size w2.heap.size ga M [] from by
  have sz2 := st.size
  have alc := gAlloc (Below.refl w2.heap.size w2) (.cells (runA M.n M.s M.y M.b (.slice B0 M.css.length d0) M.mem (.slice B1 M.ring.length d1) (.slice B2 M.pr.length d2) (.slice B3 M.at_.length d3) (.slice B4 M.wts.length d4) M.had (.slice none 0 0)) 127)
  refine ⟨m64, by omega, by omega, B0, d0, B1, d1, B2, d2, B3, d3, B4, d4, none, 0, Bk, Ck, Bt, Box.new w2 _ _, ⟨(kf.out st (.inl (by omega))).call alc, by omega, by simp; omega, by omega, kf3⟩, ((fr.kept st xb (by decide)).call alc).more (by omega) (by rw [← sz2]; exact alc.size), ?_, (ia.kept st (by omega)).call alc, ⟨own_below (row_kept rt st xb (by decide)) alc, by omega, by omega⟩, World.ownsRow_nil _ _ _ _⟩
  ·obtain ⟨gp, cp, e, p1, p2, p3⟩ := (pf.kept st xb (by decide) (by decide)).call alc
   exact ⟨gp, cp, e, by omega, p2, by
    obtain ⟨q1, q2, q3⟩ := p3
    refine ⟨q1, q2, fun k l hk hl => ?_⟩
    obtain ⟨u, e', d⟩ := q3 k l hk hl
    exact ⟨u, e', own_wider d (by omega)⟩⟩)
 have xr2 := xb2.range
 replace ob := st.box ob (by omega)
 replace low := st.low low (Nat.le_refl _)
 have ag0 := ia1
 have sz21 : w1.heap.size ≤ w2.heap.size := Nat.le_of_eq st.size.symm
 clear xb st NM on fr pf ia rt kf
 go_wp2_with (first | ((with_reducible refine wp_loadW (tyMach) (xr2) (sy) ?_ ?_ ?_); rfl; rfl) | ((with_reducible apply wpList_buildR m64); rfl))
 have R3 := RS.out
 clear RS xr2 xb2
 replace ob := ob.alloc (.cells (runA M.n M.s M.y M.b (.slice B0 M.css.length d0) M.mem (.slice B1 M.ring.length d1) (.slice B2 M.pr.length d2) (.slice B3 M.at_.length d3) (.slice B4 M.wts.length d4) M.had (.slice none 0 0)) 127)
 replace low := gAlloc low (.cells (runA M.n M.s M.y M.b (.slice B0 M.css.length d0) M.mem (.slice B1 M.ring.length d1) (.slice B2 M.pr.length d2) (.slice B3 M.at_.length d3) (.slice B4 M.wts.length d4) M.had (.slice none 0 0)) 127)
 have C3 := Lib.hid (CC.out _ _ _ low R3)
 have gan : w.heap.size + 1 ≠ ga := by omega
 clear R3
 go_wp2_with fail
 (with_reducible refine C3.out.mono ?_); rintro e w4 ⟨⟨rfl, rs⟩, hb, fr4⟩
 replace ob := fr4 _ _ _ (by decide) (by decide) gan ob
 replace low := low.trans hb
 clear hb fr4 C3 CC
 by_cases h0 : E = 0
 ·have rs0 := rs h0
  have H0 := Lib.hid h0
  rw [h0]
  obtain ⟨XB, A5, c5, O⟩ := rs0.outs
  have szB : XB.size = mcZ.size := by rw [O.sz, mcA_size zeroL_length]
  have rg := O.rng
  have c74 := O.evs
  have oneB := O.one
  have NW := Lib.hid O.new
  have k1 := rs0.gB
  clear rs O rs0 h0
  go_wp2_with fail
  refine wp_region_noPanic ?_
  refine wp_region_held_drew (S := fun w' => w'.rangeAt w2.heap.size 0 XB.toList ∧ w'.cell? ⟨w2.heap.size, 74, none⟩ = some (.slice A5 X.2.length c5)) (by kernel_rfl) ⟨rg, c74⟩ (fun hHeld => ?_)
  replace low := low.drew
  replace ob := ob.drew
  have NW2 := Lib.hid (fun (w' : World) (hk : ∀ x T cs, T ≠ 37 → Box w4.drew x T cs → Box w' x T cs) (hs : w4.drew.heap.size ≤ w'.heap.size) => NW.out w' (fun x T cs ht b => hk x T cs ht b.drew) hs)
  clear rg c74 NW
  refine takeA 0 ?_ rfl ?_ ?_; rotate_left
  ·(intro w hSw; go_simp; try (with_reducible rfl))
  try simp only [Act.put, List.setIfInBounds_toArray, List.set_cons_zero, List.set_cons_succ]
  refine takeA 1 ?_ rfl ?_ ?_; rotate_left
  ·(intro w hSw; go_simp; try (with_reducible rfl))
  try simp only [Act.put, List.setIfInBounds_toArray, List.set_cons_zero, List.set_cons_succ]
  refine takeA 2 ?_ rfl ?_ ?_; rotate_left
  ·(intro w hSw; go_simp; try (with_reducible rfl))
  try simp only [Act.put, List.setIfInBounds_toArray, List.set_cons_zero, List.set_cons_succ]
  refine takeFirst (i := 3) (v := .agg (XB)) rfl (by kernel_rfl) (by kernel_rfl) (by kernel_rfl) (by rfl) (fun _ _ _ h => h) (fun _ hSw => exec_loadW tyMach rfl (hSw.1) (szB)) (by assumption) ?_
  try simp only [Act.put]
  try simp only [List.setIfInBounds_toArray, List.set_cons_zero, List.set_cons_succ]
  refine takeA 4 ?_ rfl ?_ ?_; rotate_left
  ·(intro w hSw; go_simp; try (with_reducible rfl))
  try simp only [Act.put, List.setIfInBounds_toArray, List.set_cons_zero, List.set_cons_succ]
  refine takeA 5 ?_ rfl ?_ ?_; rotate_left
  ·(intro w hSw; go_simp; try (with_reducible rfl))
  try simp only [Act.put, List.setIfInBounds_toArray, List.set_cons_zero, List.set_cons_succ]
  refine takeA 6 ?_ rfl ?_ ?_; rotate_left
  ·(intro w hSw; go_simp; try (with_reducible rfl))
  try simp only [Act.put, List.setIfInBounds_toArray, List.set_cons_zero, List.set_cons_succ]
  refine takeA 7 ?_ rfl ?_ ?_; rotate_left
  ·(intro w hSw; go_simp; try (with_reducible rfl))
  try simp only [Act.put, List.setIfInBounds_toArray, List.set_cons_zero, List.set_cons_succ]
  refine stepNext (i := 8) (by kernel_rfl) rfl (by rfl) (fun K hK => ?_)
  refine wp_store_box 37 (.tmp 4) (.tmp 32) rfl _ XB rfl rfl ob (tyMach.size.trans (congrArg some szB.symm)) szB.symm oneB ?_
  intro w5 ob5 st5
  have g2 : w2.heap.size ≠ w.heap.size + 1 := by omega
  have hNow : w5.rangeAt w2.heap.size 0 XB.toList ∧ w5.cell? ⟨w2.heap.size, 74, none⟩ = some (.slice A5 X.2.length c5) := ⟨fun j x hx => st5.cell (by simpa using g2) (hHeld.1 j x hx), st5.cell g2 hHeld.2⟩
  refine hK.out _ _ hNow ?_
  clear hK K
  try simp only [Act.put]
  try simp only [List.setIfInBounds_toArray, List.set_cons_zero, List.set_cons_succ]
  refine takeA 9 ?_ rfl ?_ ?_; rotate_left
  ·(intro w hSw; go_simp; try (with_reducible rfl))
  try simp only [Act.put, List.setIfInBounds_toArray, List.set_cons_zero, List.set_cons_succ]
  refine takeA 10 ?_ rfl ?_ ?_; rotate_left
  ·(intro w hSw; go_simp; try (with_reducible rfl))
  try simp only [Act.put, List.setIfInBounds_toArray, List.set_cons_zero, List.set_cons_succ]
  refine wpAnyH_done (by kernel_rfl) ?_ _
  refine NoPanic.normal ?_
  have low5 := Lib.hid (st5.low low (by omega))
  obtain ⟨nm, evs⟩ := NW2.out w5 (fun x T cs ht b => st5.box b (boxNe b ob ht)) (Nat.le_of_eq st5.size.symm)
  have NM := Lib.hid nm
  have EV := Lib.hid evs
  clear hHeld hNow st5 ob NW2 nm evs low
  go_wp2_with fail
  exact bodyPost_ret (v := .tuple #[.agg XB, .slice A5 X.2.length c5, .int .i64 0]) (results_first3 tyMach Tryz.results22 rfl rfl rfl ob5 szB) rfl ⟨⟨_, _, by rw [H0.out], .inr ⟨H0.out, NM.out, EV.out⟩⟩, low5.out⟩
 ·have hE' : (E != 0) = true := by simpa using h0
  have H0 := Lib.hid h0
  clear rs h0
  go_wp2_with (first | (with_reducible refine wp_zeroW (tyMach) ?_) | ((with_reducible refine wp_storeW (tyMach) (ob) (rfl) (rfl) (mcZ_one) ?_ ?_ ?_); rfl; rfl))
  intro w5 ob5 st5
  replace low := st5.low low (by omega)
  clear st5 ob
  go_wp2_with fail
  exact bodyPost_ret (v := .tuple #[mc0, .slice none 0 0, .int .i64 E]) (results_first3 tyMach Tryz.results22 rfl rfl rfl ob5 rfl) rfl ⟨⟨_, _, rfl, .inl ⟨H0.out, rfl, rfl⟩⟩, low⟩
set_option maxRecDepth 10000 in
set_option maxHeartbeats 8000000 in
theorem runOf_cap (F : Nat) (eg : ∀ args w, (callFunc F args).run Tryz.prog w = .ok (.enter F args) w) (gc : Nat) (v : Value) (M : Mc) (w : World) (h : MRead w v M) (ok : McOk M) (E : Int) (X : Mc × List Ev)
  (C : ∀ W g ga, Below w.heap.size w W → RunS W w.heap.size g ga M [] → Calls Tryz.prog F #[.pointer (some ⟨g, 0, none⟩), .pointer (some ⟨gc, 0, none⟩)] W fun e w' => (e = .returned (.int .i64 E) ∧ (E = 0 → RunS w' w.heap.size g ga X.1 X.2)) ∧ Kept w.heap.size ga W w') :
  Calls Tryz.prog 22 #[v, .func (.func F) #[] #[.pointer (some ⟨gc, 0, none⟩)]] w fun e w' => GivesN E X w.heap.size e w' ∧ Below w.heap.size w w' := by
 have m64 := h.m64
 have CP := Lib.hid fun W (hb : Below w.heap.size w W) => copy_is v M W (h.call hb) ok
 have CC := Lib.hid C
 obtain ⟨A0, c0, A1, c1, A2, c2, A3, c3, A4, c4, rfl, _⟩ := h.shape
 have sz : (mcA M.n M.s M.y M.b (.slice A0 M.css.length c0) M.mem (.slice A1 M.ring.length c1) (.slice A2 M.pr.length c2) (.slice A3 M.at_.length c3) (.slice A4 M.wts.length c4) M.had).size = mcZ.size := by rw [mcA_size m64, mcA_size zeroL_length]
 generalize mcA M.n M.s M.y M.b (.slice A0 M.css.length c0) M.mem (.slice A1 M.ring.length c1) (.slice A2 M.pr.length c2) (.slice A3 M.at_.length c3) (.slice A4 M.wts.length c4) M.had = XA at *
 clear h C
 have low := Below.refl w.heap.size w
 have xb := boxNext low 37 XA
 replace low := gAlloc low (.cells XA 37)
 try simp only [World.size_alloc] at xb
 have ob := boxNext low 37 mcZ
 replace low := gAlloc low (.cells mcZ 37)
 replace xb := xb.alloc (.cells mcZ 37)
 try simp only [World.size_alloc] at ob
 have xr := xb.range
 go_enter Tryz.func22, Tryz.ntmps22
 go_wp2_with (first | (with_reducible refine wp_newW (tyMach) ?_) | ((with_reducible refine wp_loadW (tyMach) (xr) (sz) ?_ ?_ ?_); rfl; rfl))
 (with_reducible refine (CP.out _ low).mono ?_); rintro e w1 ⟨⟨v1, rfl, nm⟩, hb⟩
 have NM := Lib.hid nm
 have w01 := hb.size
 simp only [World.size_alloc] at w01
 replace xb := xb.call hb
 replace ob := ob.call hb
 replace low := gCall low hb
 clear hb xr CP
 obtain ⟨_, B0, d0, B1, d1, B2, d2, B3, d3, B4, d4, ga, Bk, Ck, Bt, rfl, ⟨kf, kf1, kf2, kf3⟩, fr, pf, ⟨ia, ia1⟩, ⟨rt, rt1, rt2⟩⟩ := nm
 simp only [World.size_alloc] at kf1 fr pf ia1 rt2
 have sy : (mcA M.n M.s M.y M.b (.slice B0 M.css.length d0) M.mem (.slice B1 M.ring.length d1) (.slice B2 M.pr.length d2) (.slice B3 M.at_.length d3) (.slice B4 M.wts.length d4) M.had).size = mcZ.size := by rw [mcA_size m64, mcA_size zeroL_length]
 have on : (mcA M.n M.s M.y M.b (.slice B0 M.css.length d0) M.mem (.slice B1 M.ring.length d1) (.slice B2 M.pr.length d2) (.slice B3 M.at_.length d3) (.slice B4 M.wts.length d4) M.had).all (·.oneCell') = true := mcA_one
 go_wp2_with ((with_reducible refine wp_storeW (tyMach) (xb) (sz) (sy) (on) ?_ ?_ ?_); rfl; rfl)
 intro w2 xb2 st
 have agl := ia.lt
 have RS := Lib.hid (show RunS (w2.alloc (.cells (runA M.n M.s M.y M.b (.slice B0 M.css.length d0) M.mem (.slice B1 M.ring.length d1) (.slice B2 M.pr.length d2) (.slice B3 M.at_.length d3) (.slice B4 M.wts.length d4) M.had (.slice none 0 0)) 127)) w.heap.size w2.heap.size ga M [] from by
  have sz2 := st.size
  have alc := gAlloc (Below.refl w2.heap.size w2) (.cells (runA M.n M.s M.y M.b (.slice B0 M.css.length d0) M.mem (.slice B1 M.ring.length d1) (.slice B2 M.pr.length d2) (.slice B3 M.at_.length d3) (.slice B4 M.wts.length d4) M.had (.slice none 0 0)) 127)
  refine ⟨m64, by omega, by omega, B0, d0, B1, d1, B2, d2, B3, d3, B4, d4, none, 0, Bk, Ck, Bt, Box.new w2 _ _, ⟨(kf.out st (.inl (by omega))).call alc, by omega, by simp; omega, by omega, kf3⟩, ((fr.kept st xb (by decide)).call alc).more (by omega) (by rw [← sz2]; exact alc.size), ?_, (ia.kept st (by omega)).call alc, ⟨own_below (row_kept rt st xb (by decide)) alc, by omega, by omega⟩, World.ownsRow_nil _ _ _ _⟩
  ·obtain ⟨gp, cp, e, p1, p2, p3⟩ := (pf.kept st xb (by decide) (by decide)).call alc
   exact ⟨gp, cp, e, by omega, p2, by
    obtain ⟨q1, q2, q3⟩ := p3
    refine ⟨q1, q2, fun k l hk hl => ?_⟩
    obtain ⟨u, e', d⟩ := q3 k l hk hl
    exact ⟨u, e', own_wider d (by omega)⟩⟩)
 have xr2 := xb2.range
 replace ob := st.box ob (by omega)
 replace low := st.low low (Nat.le_refl _)
 have ag0 := ia1
 have sz21 : w1.heap.size ≤ w2.heap.size := Nat.le_of_eq st.size.symm
 clear xb st NM on fr pf ia rt kf
 go_wp2_with (first | ((with_reducible refine wp_loadW (tyMach) (xr2) (sy) ?_ ?_ ?_); rfl; rfl) | ((with_reducible apply wpList_buildR m64); rfl))
 have R3 := RS.out
 clear RS xr2 xb2
 replace ob := ob.alloc (.cells (runA M.n M.s M.y M.b (.slice B0 M.css.length d0) M.mem (.slice B1 M.ring.length d1) (.slice B2 M.pr.length d2) (.slice B3 M.at_.length d3) (.slice B4 M.wts.length d4) M.had (.slice none 0 0)) 127)
 replace low := gAlloc low (.cells (runA M.n M.s M.y M.b (.slice B0 M.css.length d0) M.mem (.slice B1 M.ring.length d1) (.slice B2 M.pr.length d2) (.slice B3 M.at_.length d3) (.slice B4 M.wts.length d4) M.had (.slice none 0 0)) 127)
 have C3 := Lib.hid (CC.out _ _ _ low R3)
 have gan : w.heap.size + 1 ≠ ga := by omega
 clear R3
 go_wp2_with fail
 (with_reducible refine C3.out.mono ?_); rintro e w4 ⟨⟨rfl, rs⟩, hb, fr4⟩
 replace ob := fr4 _ _ _ (by decide) (by decide) gan ob
 replace low := low.trans hb
 clear hb fr4 C3 CC
 by_cases h0 : E = 0
 ·have rs0 := rs h0
  have H0 := Lib.hid h0
  rw [h0]
  obtain ⟨XB, A5, c5, O⟩ := rs0.outs
  have szB : XB.size = mcZ.size := by rw [O.sz, mcA_size zeroL_length]
  have rg := O.rng
  have c74 := O.evs
  have oneB := O.one
  have NW := Lib.hid O.new
  have k1 := rs0.gB
  clear rs O rs0 h0
  go_wp2_with fail
  refine wp_region_noPanic ?_
  refine wp_region_held_drew (S := fun w' => w'.rangeAt w2.heap.size 0 XB.toList ∧ w'.cell? ⟨w2.heap.size, 74, none⟩ = some (.slice A5 X.2.length c5)) (by kernel_rfl) ⟨rg, c74⟩ (fun hHeld => ?_)
  replace low := low.drew
  replace ob := ob.drew
  have NW2 := Lib.hid (fun (w' : World) (hk : ∀ x T cs, T ≠ 37 → Box w4.drew x T cs → Box w' x T cs) (hs : w4.drew.heap.size ≤ w'.heap.size) => NW.out w' (fun x T cs ht b => hk x T cs ht b.drew) hs)
  clear rg c74 NW
  refine takeA 0 ?_ rfl ?_ ?_; rotate_left
  ·(intro w hSw; go_simp; try (with_reducible rfl))
  try simp only [Act.put, List.setIfInBounds_toArray, List.set_cons_zero, List.set_cons_succ]
  refine takeA 1 ?_ rfl ?_ ?_; rotate_left
  ·(intro w hSw; go_simp; try (with_reducible rfl))
  try simp only [Act.put, List.setIfInBounds_toArray, List.set_cons_zero, List.set_cons_succ]
  refine takeA 2 ?_ rfl ?_ ?_; rotate_left
  ·(intro w hSw; go_simp; try (with_reducible rfl))
  try simp only [Act.put, List.setIfInBounds_toArray, List.set_cons_zero, List.set_cons_succ]
  refine takeFirst (i := 3) (v := .agg (XB)) rfl (by kernel_rfl) (by kernel_rfl) (by kernel_rfl) (by rfl) (fun _ _ _ h => h) (fun _ hSw => exec_loadW tyMach rfl (hSw.1) (szB)) (by assumption) ?_
  try simp only [Act.put]
  try simp only [List.setIfInBounds_toArray, List.set_cons_zero, List.set_cons_succ]
  refine takeA 4 ?_ rfl ?_ ?_; rotate_left
  ·(intro w hSw; go_simp; try (with_reducible rfl))
  try simp only [Act.put, List.setIfInBounds_toArray, List.set_cons_zero, List.set_cons_succ]
  refine takeA 5 ?_ rfl ?_ ?_; rotate_left
  ·(intro w hSw; go_simp; try (with_reducible rfl))
  try simp only [Act.put, List.setIfInBounds_toArray, List.set_cons_zero, List.set_cons_succ]
  refine takeA 6 ?_ rfl ?_ ?_; rotate_left
  ·(intro w hSw; go_simp; try (with_reducible rfl))
  try simp only [Act.put, List.setIfInBounds_toArray, List.set_cons_zero, List.set_cons_succ]
  refine takeA 7 ?_ rfl ?_ ?_; rotate_left
  ·(intro w hSw; go_simp; try (with_reducible rfl))
  try simp only [Act.put, List.setIfInBounds_toArray, List.set_cons_zero, List.set_cons_succ]
  refine stepNext (i := 8) (by kernel_rfl) rfl (by rfl) (fun K hK => ?_)
  refine wp_store_box 37 (.tmp 4) (.tmp 32) rfl _ XB rfl rfl ob (tyMach.size.trans (congrArg some szB.symm)) szB.symm oneB ?_
  intro w5 ob5 st5
  have g2 : w2.heap.size ≠ w.heap.size + 1 := by omega
  have hNow : w5.rangeAt w2.heap.size 0 XB.toList ∧ w5.cell? ⟨w2.heap.size, 74, none⟩ = some (.slice A5 X.2.length c5) := ⟨fun j x hx => st5.cell (by simpa using g2) (hHeld.1 j x hx), st5.cell g2 hHeld.2⟩
  refine hK.out _ _ hNow ?_
  clear hK K
  try simp only [Act.put]
  try simp only [List.setIfInBounds_toArray, List.set_cons_zero, List.set_cons_succ]
  refine takeA 9 ?_ rfl ?_ ?_; rotate_left
  ·(intro w hSw; go_simp; try (with_reducible rfl))
  try simp only [Act.put, List.setIfInBounds_toArray, List.set_cons_zero, List.set_cons_succ]
  refine takeA 10 ?_ rfl ?_ ?_; rotate_left
  ·(intro w hSw; go_simp; try (with_reducible rfl))
  try simp only [Act.put, List.setIfInBounds_toArray, List.set_cons_zero, List.set_cons_succ]
  refine wpAnyH_done (by kernel_rfl) ?_ _
  refine NoPanic.normal ?_
  have low5 := Lib.hid (st5.low low (by omega))
  obtain ⟨nm, evs⟩ := NW2.out w5 (fun x T cs ht b => st5.box b (boxNe b ob ht)) (Nat.le_of_eq st5.size.symm)
  have NM := Lib.hid nm
  have EV := Lib.hid evs
  clear hHeld hNow st5 ob NW2 nm evs low
  go_wp2_with fail
  exact bodyPost_ret (v := .tuple #[.agg XB, .slice A5 X.2.length c5, .int .i64 0]) (results_first3 tyMach Tryz.results22 rfl rfl rfl ob5 szB) rfl ⟨⟨_, _, by rw [H0.out], .inr ⟨H0.out, NM.out, EV.out⟩⟩, low5.out⟩
 ·have hE' : (E != 0) = true := by simpa using h0
  have H0 := Lib.hid h0
  clear rs h0
  go_wp2_with (first | (with_reducible refine wp_zeroW (tyMach) ?_) | ((with_reducible refine wp_storeW (tyMach) (ob) (rfl) (rfl) (mcZ_one) ?_ ?_ ?_); rfl; rfl))
  intro w5 ob5 st5
  replace low := st5.low low (by omega)
  clear st5 ob
  go_wp2_with fail
  exact bodyPost_ret (v := .tuple #[mc0, .slice none 0 0, .int .i64 E]) (results_first3 tyMach Tryz.results22 rfl rfl rfl ob5 rfl) rfl ⟨⟨_, _, rfl, .inl ⟨H0.out, rfl, rfl⟩⟩, low⟩
theorem run1_any (g gc : Nat) (n E : Int) (w : World) (R : World → Prop) (hc : w.cell? ⟨gc, 0, none⟩ = some (.int .i64 n)) (C : Calls Tryz.prog 63 #[.pointer (some ⟨g, 0, none⟩), .int .i64 n] w fun e w' => e = .returned (.int .i64 E) ∧ R w') :
  Calls Tryz.prog 62 #[.pointer (some ⟨g, 0, none⟩), .pointer (some ⟨gc, 0, none⟩)] w fun e w' => e = .returned (.int .i64 E) ∧ R w' := by
 have CC := Lib.hid C
 clear C
 go_enter Tryz.func62, Tryz.ntmps62
 go_wp2_with fail
 (with_reducible refine CC.out.mono ?_); rintro e w2 ⟨rfl, hq⟩
 have HQ := Lib.hid hq
 clear hq
 go_wp2_with fail
 go_ret
 exact ⟨rfl, HQ.out⟩
set_option maxRecDepth 10000 in
set_option maxHeartbeats 8000000 in
theorem run_new (v : Value) (M : Mc) (w : World) (c : Int) (h : MRead w v M) : Calls Tryz.prog 31 #[v, .int .i64 c] w fun e w' => GivesN (runE' M c) (runs M c) w.heap.size e w' ∧ Below w.heap.size w w' := by
 have CK := Lib.hid fun W (hb : Below w.heap.size w W) => machCheck_any v M W (h.call hb)
 have SE := Lib.hid (show runE' M c = if mcE M ≠ 0 then mcE M else if c < 0 ∨ 4000 < c then 4 else runF didF c.toNat M from rfl)
 have RN := Lib.hid (fun (ok : McOk M) (hc : 0 ≤ c ∧ c ≤ 4000) W (hb : Below w.heap.size w W) (gc : Nat) (hg : gc < W.heap.size) (cc : W.cell? ⟨gc, 0, none⟩ = some (.int .i64 c)) => runOf_cap 62 (fun _ _ => by kernel_rfl) gc v M W (h.call hb) ok (runF didF c.toNat M) (runs M c) (fun W' g ga hb' rs => by
  have cyc := cycles_is W.heap.size g ga M c.toNat W' rs ok (by omega)
  rw [show ((c.toNat : Nat) : Int) = c by omega] at cyc
  refine (run1_any g gc c (runF didF c.toNat M) W' (fun w' => (runF didF c.toNat M = 0 → RunS w' W.heap.size g ga (runs M c).1 (runs M c).2) ∧ Kept W.heap.size ga W' w') ((hb'.cell (p := ⟨gc, 0, none⟩) hg).trans cc) (cyc.mono ?_)).mono ?_
  ·rintro e w' ⟨⟨rfl, r⟩, k⟩
   exact ⟨rfl, r, k⟩
  ·rintro e w' ⟨rfl, r, k⟩
   exact ⟨⟨rfl, r⟩, k⟩))
 have m64 := h.m64
 obtain ⟨A0, c0, A1, c1, A2, c2, A3, c3, A4, c4, rfl, _⟩ := h.shape
 have sz : (mcA M.n M.s M.y M.b (.slice A0 M.css.length c0) M.mem (.slice A1 M.ring.length c1) (.slice A2 M.pr.length c2) (.slice A3 M.at_.length c3) (.slice A4 M.wts.length c4) M.had).size = mcZ.size := by rw [mcA_size m64, mcA_size zeroL_length]
 generalize mcA M.n M.s M.y M.b (.slice A0 M.css.length c0) M.mem (.slice A1 M.ring.length c1) (.slice A2 M.pr.length c2) (.slice A3 M.at_.length c3) (.slice A4 M.wts.length c4) M.had = XA at *
 have OK := Lib.hid (fun (e : mcE M = 0) => mcE_zero.1 e)
 clear h
 generalize runE' M c = E at *
 generalize runs M c = X at *
 have low := Below.refl w.heap.size w
 have xb := boxNext low 37 XA
 replace low := gAlloc low (.cells XA 37)
 try simp only [World.size_alloc] at xb
 have nb := boxNext low 3 #[.int .i64 c]
 replace low := gAlloc low (.cells #[.int .i64 c] 3)
 replace xb := xb.alloc (.cells #[.int .i64 c] 3)
 try simp only [World.size_alloc] at nb
 have ob := boxNext low 37 mcZ
 replace low := gAlloc low (.cells mcZ 37)
 replace xb := xb.alloc (.cells mcZ 37)
 replace nb := nb.alloc (.cells mcZ 37)
 try simp only [World.size_alloc] at ob
 have xr := xb.range
 go_enter Tryz.func31, Tryz.ntmps31
 go_wp2_with (first | (with_reducible refine wp_newW (tyMach) ?_) | ((with_reducible refine wp_loadW (tyMach) (xr) (sz) ?_ ?_ ?_); rfl; rfl))
 (with_reducible refine (CK.out _ low).mono ?_); rintro e w1 ⟨rfl, hb⟩
 replace xb := xb.call hb
 replace nb := nb.call hb
 replace ob := ob.call hb
 replace low := gCall low hb
 clear hb xr CK
 have nc := nb.at_ 0 rfl
 by_cases h1 : mcE M = 0
 ·by_cases h2 : c < 0 ∨ 4000 < c
  ·have SE2 := Lib.hid (show E = 4 by rw [SE.out, if_neg (by simpa using h1), if_pos h2])
   rw [h1]
   clear SE RN OK h1
   by_cases h3 : c < 0
   ·clear h2
    go_wp2_with (first | (with_reducible refine wp_zeroW (tyMach) ?_) | ((with_reducible refine wp_storeW (tyMach) (ob) (rfl) (rfl) (mcZ_one) ?_ ?_ ?_); rfl; rfl))
    intro w5 ob5 st5
    replace low := st5.low low (by omega)
    clear st5 ob
    go_wp2_with fail
    exact bodyPost_ret (v := .tuple #[mc0, .slice none 0 0, .int .i64 (4)]) (results_first3 tyMach Tryz.results31 rfl rfl rfl ob5 rfl) rfl ⟨⟨_, _, by rw [SE2.out], .inl ⟨by rw [SE2.out]; decide, rfl, rfl⟩⟩, low⟩
   ·have h4 : 4000 < c := by omega
    clear h2
    go_wp2_with (first | (with_reducible refine wp_zeroW (tyMach) ?_) | ((with_reducible refine wp_storeW (tyMach) (ob) (rfl) (rfl) (mcZ_one) ?_ ?_ ?_); rfl; rfl))
    intro w5 ob5 st5
    replace low := st5.low low (by omega)
    clear st5 ob
    go_wp2_with fail
    exact bodyPost_ret (v := .tuple #[mc0, .slice none 0 0, .int .i64 (4)]) (results_first3 tyMach Tryz.results31 rfl rfl rfl ob5 rfl) rfl ⟨⟨_, _, by rw [SE2.out], .inl ⟨by rw [SE2.out]; decide, rfl, rfl⟩⟩, low⟩
  ·have SE2 := Lib.hid (show E = runF didF c.toNat M by rw [SE.out, if_neg (by simpa using h1), if_neg h2])
   have RN2 := Lib.hid (RN.out (OK.out h1) (by omega) w1 low _ nb.lt nc)
   rw [h1]
   rw [← SE2.out] at RN2
   have h3 : ¬ c < 0 := by omega
   have h4 : ¬ 4000 < c := by omega
   clear SE SE2 RN OK h1 h2
   have xr := xb.range
   go_wp2_with ((with_reducible refine wp_loadW (tyMach) (xr) (sz) ?_ ?_ ?_); rfl; rfl)
   (with_reducible refine RN2.out.mono ?_); rintro e w2 ⟨⟨v2, u2, rfl, cs⟩, hb⟩
   have l1 := low.size
   replace ob := ob.call hb
   replace low := gCall low hb
   have CS := Lib.hid cs
   clear hb RN2 xr cs
   rcases CS.out with ⟨hE, rfl, rfl⟩ | ⟨hE, nm, evs⟩
   ·have HE := Lib.hid hE
    clear hE CS
    go_wp2_with ((with_reducible refine wp_storeW (tyMach) (ob) (rfl) (rfl) (mcZ_one) ?_ ?_ ?_); rfl; rfl)
    intro w5 ob5 st5
    replace low := st5.low low (by omega)
    clear st5 ob
    go_wp2_with fail
    exact bodyPost_ret (v := .tuple #[mc0, .slice none 0 0, .int .i64 E]) (results_first3 tyMach Tryz.results31 rfl rfl rfl ob5 rfl) rfl ⟨⟨_, _, rfl, .inl ⟨HE.out, rfl, rfl⟩⟩, low⟩
   ·have HE := Lib.hid hE
    have NM := Lib.hid nm
    have EV := Lib.hid evs
    obtain ⟨A5, c5, rfl⟩ := own_shape evs
    obtain ⟨XB, rfl, xs, xo⟩ := nm.shape
    have szB : XB.size = mcZ.size := by rw [xs, mcA_size zeroL_length]
    clear hE CS nm evs xs
    go_wp2_with ((with_reducible refine wp_storeW (tyMach) (ob) (rfl) (szB) (xo) ?_ ?_ ?_); rfl; rfl)
    intro w5 ob5 st5
    have NM5 := Lib.hid (NM.out.map (w' := w5) (B' := w.heap.size) (fun x T cs ht b => st5.box b (boxNe b ob ht)) (Nat.le_of_eq st5.size.symm) l1)
    have EV5 := Lib.hid (own_wider (row_map EV.out (fun x cs b => st5.box b (boxNe b ob (by decide)))) l1)
    have low5 := Lib.hid (st5.low low (by omega))
    clear st5 ob low NM EV
    go_wp2_with fail
    exact bodyPost_ret (v := .tuple #[.agg XB, .slice A5 X.2.length c5, .int .i64 E]) (results_first3 tyMach Tryz.results31 rfl rfl rfl ob5 szB) rfl ⟨⟨_, _, rfl, .inr ⟨HE.out, NM5.out, EV5.out⟩⟩, low5.out⟩
 ·have e := SE.out
  rw [if_pos h1] at e
  have HE := Lib.hid e
  have H1 := Lib.hid h1
  have h1' : (mcE M != 0) = true := by simpa using h1
  clear e SE RN OK h1
  generalize mcE M = E0 at *
  go_wp2_with (first | (with_reducible refine wp_zeroW (tyMach) ?_) | ((with_reducible refine wp_storeW (tyMach) (ob) (rfl) (rfl) (mcZ_one) ?_ ?_ ?_); rfl; rfl))
  intro w5 ob5 st5
  replace low := st5.low low (by omega)
  clear st5 ob
  go_wp2_with fail
  exact bodyPost_ret (v := .tuple #[mc0, .slice none 0 0, .int .i64 (E0)]) (results_first3 tyMach Tryz.results31 rfl rfl rfl ob5 rfl) rfl ⟨⟨_, _, by rw [HE.out], .inl ⟨by rw [HE.out]; exact H1.out, rfl, rfl⟩⟩, low⟩
end Go.Proofs.YtcegjehoejgofaaGreat
namespace Go.Proofs.YtcegjehoejgofaaGreat
open Go.ChangeShapes Go.WideShapes Go.ChangeAt Go.RowKit Go.Joins
theorem copN_none (N p q : Nat) : ∀ j, copN (List.replicate N (emptyC p q)) j = []
 | 0 => rfl
 | j + 1 => by
  have ha : allW (emptyC p q) = [] := by
   unfold allW emptyC
   rw [List.flatMap_eq_nil_iff]
   intro t ht
   rw [List.eq_of_mem_replicate ht, List.filter_eq_nil_iff]
   intro x hx
   rw [List.eq_of_mem_replicate hx]
   decide
  rw [copN, copN_none N p q j, List.nil_append]
  by_cases h : j < N
  ·have : (List.replicate N (emptyC p q)).getD j [] = emptyC p q := by simp [List.getD, h]
   rw [this, cpsOf, ha]
   rfl
  ·have : (List.replicate N (emptyC p q)).getD j [] = [] := by simp [List.getD, h]
   rw [this]
   rfl
theorem flat_none (N p q : Nat) : flatW (List.replicate N (emptyC p q)) zeroL = zeroL := by
 unfold flatW
 rw [copN_none]
 decide +kernel
theorem coh_none {N p q : Nat} {b : Int} (h : cfgB N p q b = true) : cohE N p q b (List.replicate N (emptyC p q)) zeroL = 0 := by
 have hc := cfgB_iff.1 h
 have hp : p = 1 ∨ p = 2 ∨ p = 4 := by omega
 have hq : q = 1 ∨ q = 2 ∨ q = 3 ∨ q = 4 := by omega
 have no : ∀ k, fnd (emptyC p q) k = none := by
  intro k
  rcases hp with rfl | rfl | rfl <;> rcases hq with rfl | rfl | rfl | rfl <;> rfl
 have good : cacheE N p q b (emptyC p q) = 0 := by
  rw [goodC_iff]
  refine ⟨h, by simp [emptyC], fun k t ht => ?_⟩
  have hk : k < p := by
   have := (List.getElem?_eq_some_iff.1 ht).1
   simpa [emptyC] using this
  rw [emptyC_at hk] at ht
  cases ht
  refine ⟨?_, fun j x hx hs => ?_⟩
  ·rcases hq with rfl | rfl | rfl | rfl <;> decide
  ·exfalso
   rw [List.getElem?_replicate] at hx
   split at hx
   ·cases hx; exact hs rfl
   ·cases hx
 rw [cohE_iff]
 refine ⟨⟨h, by simp, fun ss hss => by rw [List.eq_of_mem_replicate hss]; exact good⟩, fun k hk => ?_⟩
 have nn : ∀ i x, fnd ((List.replicate N (emptyC p q)).getD i []) k = some x → False := by
  intro i x hx
  by_cases hi : i < N
  ·have : (List.replicate N (emptyC p q)).getD i [] = emptyC p q := by simp [List.getD, hi]
   rw [this, no] at hx
   cases hx
  ·have : (List.replicate N (emptyC p q)).getD i [] = [] := by simp [List.getD, hi]
   rw [this] at hx
   cases hx
 exact ⟨fun i j x y _ _ _ hx _ => (nn i x hx).elim, fun i j x y _ _ hx _ => (nn i x hx).elim, fun _ i x _ hx => (nn i x hx).elim⟩
end Go.Proofs.YtcegjehoejgofaaGreat
namespace Go.Proofs.YtcegjehoejgofaaGreat
open Go.ChangeShapes Go.WideShapes Go.ChangeAt Go.RowKit Go.Joins
structure MadeAll (w : World) (ga N p q : Nat) : Prop where
 n8 : N ≤ 8
 ex : ∃ us : List Value, us.length = N ∧ Box w ga 160 us.toArray ∧ ∀ j, j < N → Made w ga p q us j
section
variable {w w' : World} {ga N p q : Nat}
theorem MadeAll.call (h : MadeAll w ga N p q) (hb : Below w.heap.size w w') : MadeAll w' ga N p q := by
 obtain ⟨n8, us, h1, h2, h3⟩ := h
 exact ⟨n8, us, h1, h2.call hb, fun j hj => (h3 j hj).call hb⟩
theorem MadeAll.kept {x : Nat} {T : TypeId} {cs : Array Value} (h : MadeAll w ga N p q) (st : Stored w x w') (bx : Box w x T cs) (k1 : 114 ≠ T) (k2 : 193 ≠ T) (k3 : 160 ≠ T) : MadeAll w' ga N p q := by
 obtain ⟨n8, us, h1, h2, h3⟩ := h
 refine ⟨n8, us, h1, st.box h2 (boxNe h2 bx k3), fun j hj => ?_⟩
 obtain ⟨A, c, e, B, C, h4, h5⟩ := h3 j hj
 exact ⟨A, c, e, B, C, h4, h5.map (fun _ _ b => st.box b (boxNe b bx k1)) (fun _ _ b => st.box b (boxNe b bx k2))⟩
theorem MadeAll.ks (h : MadeAll w ga N p q) : Ks w (.slice (some ⟨ga, 0, none⟩) N N) (List.replicate N (emptyC p q)) := by
 obtain ⟨n8, us, ulen, ab, hm⟩ := h
 refine ⟨_, _, by rw [List.length_replicate], by rw [List.length_replicate]; exact Nat.le_refl _, by unfold maxLen; omega, fun _ => ⟨ga, 0, rfl, ab.lt, fun j ss hj => ?_⟩⟩
 have hjk : j < N := by have := (List.getElem?_eq_some_iff.1 hj).1; simpa using this
 obtain rfl : ss = emptyC p q := List.eq_of_mem_replicate (List.mem_of_getElem? hj)
 obtain ⟨A, c, h1, B, C, h2, h3⟩ := hm j hjk
 have e1 : (emptyC p q).length = p := by simp [emptyC]
 rw [e1]
 refine ⟨A, c, ?_, h3.cs⟩
 rw [ab.cell, Nat.zero_add, List.getElem?_toArray]
 exact h1
end
set_option maxRecDepth 10000 in
set_option maxHeartbeats 2000000 in
theorem new_made (N p q : Nat) (b : Int) (w : World) (he : cfgB N p q b = true) :
  Calls Tryz.prog 39 #[cfg N p q b] w fun e w' => (∃ ga, e = .returned (.tuple #[wldV (.slice (some ⟨ga, 0, none⟩) N N) zeroL, .int .i64 0]) ∧ MadeAll w' ga N p q) ∧ Below w.heap.size w w' := by
 have C := Lib.hid fun w => check_ok N p q b w he
 have CN := Lib.hid fun w => cacheNew_ok N b p q w he
 have n8 : N ≤ 8 := by have := cfgB_iff.1 he; omega
 clear he
 have low := Below.refl w.heap.size w
 have cb := boxNext low 23 (cfgA N p q b)
 replace low := gAlloc low (.cells (cfgA N p q b) 23)
 try simp only [World.size_alloc] at cb
 have ob := boxNext low 31 nilW
 replace low := gAlloc low (.cells nilW 31)
 replace cb := cb.alloc (.cells nilW 31)
 try simp only [World.size_alloc] at ob
 go_enter Tryz.func39, Tryz.ntmps39
 go_wp2_with (first | (with_reducible refine wp_newW (tyWorld) ?_))
 (with_reducible refine (C.out _).mono ?_); rintro e w1 ⟨rfl, hb⟩
 replace cb := cb.call hb
 replace ob := ob.call hb
 replace low := gCall low hb
 clear hb C
 have c0 : w1.cell? ⟨w.heap.size, 0, none⟩ = some (.int .i64 N) := cb.at_ 0 rfl
 have MS := fun w => make_caches N n8 w
 go_wp2_with fail
 refine wp_region_noPanic ?_
 refine wp_region_held_drew (S := fun w' => w'.cell? ⟨w.heap.size, 0, none⟩ = some (.int .i64 N)) (by kernel_rfl) (drewC c0) (fun hHeld => ?_)
 clear c0
 refine takeA 0 ?_ rfl ?_ ?_; rotate_left
 ·(intro w hSw; go_simp; try (with_reducible rfl))
 try simp only [Act.put, List.setIfInBounds_toArray, List.set_cons_zero, List.set_cons_succ]
 refine takeA 1 ?_ rfl ?_ ?_; rotate_left
 ·(intro w hSw; go_simp; try (with_reducible rfl))
 try simp only [Act.put, List.setIfInBounds_toArray, List.set_cons_zero, List.set_cons_succ]
 replace cb := cb.drew
 replace ob := ob.drew
 replace low := low.drew
 generalize w1.drew = wN at *
 apply shareTwo (M := fun ga gb wz => Two wN 160 (nilsA N) 31 nilW wz (some ga) (some gb))
 ·intro hE
  have mid := Two.start wN 160 (nilsA N) 31 nilW
  refine stepThree (i1 := 2) (i2 := 3) (i3 := 5) (by kernel_rfl) rfl rfl rfl (by rfl) (by rfl) (by rfl) (fun K hK => ?_) (fun K hK => ?_) (fun K hK => ?_)
  ·go_simp
   replace mid := mid.allocA
   try clear hNow
   have hNow := (callC mid.low hHeld)
   refine hK.out _ _ hNow ?_
   clear hK K
   try simp only [Act.put]
   try simp only [List.setIfInBounds_toArray, List.set_cons_zero, List.set_cons_succ]
   generalize wN.heap.size = ga at mid ⊢
   generalize wN.alloc (.cells (nilsA N) 160) = wx at mid hNow ⊢
   refine stepTwo (i1 := 3) (i2 := 5) (by kernel_rfl) rfl rfl (by rfl) (by rfl) (fun K hK => ?_) (fun K hK => ?_)
   ·go_simp
    (with_reducible refine (Calls.mono (bankNew_any _) ?_)); rintro e wy ⟨rfl, hbz⟩
    replace mid := mid.call hbz
    clear hbz
    try clear hNow
    have hNow := (callC mid.low hHeld)
    refine hK.out _ _ hNow ?_
    clear hK K
    try simp only [Act.put]
    try simp only [List.setIfInBounds_toArray, List.set_cons_zero, List.set_cons_succ]
    refine takeFirst (i := 4) (v := wldV (.slice (some ⟨ga, 0, none⟩) N N) zeroL) rfl (by kernel_rfl) (by kernel_rfl) (by kernel_rfl) (by rfl) (fun _ _ _ h => h) (fun _ _ => exec_buildW rfl rfl) (by assumption) ?_
    try simp only [Act.put, List.setIfInBounds_toArray, List.set_cons_zero, List.set_cons_succ]
    refine stepNext (i := 5) (by kernel_rfl) rfl (by rfl) (fun K hK => ?_)
    refine op_newW tyWorld ?_
    replace mid := mid.allocB
    try clear hNow
    have hNow := (callC mid.low hHeld)
    refine hK.out _ _ hNow ?_
    clear hK K
    try simp only [Act.put]
    try simp only [List.setIfInBounds_toArray, List.set_cons_zero, List.set_cons_succ]
    generalize wy.heap.size = gb at mid ⊢
    generalize wy.alloc (.cells nilW 31) = wz at mid hNow ⊢
    refine relist (l2 := #[true, true, true, true, true, true, false]) (by kernel_rfl) ?_
    exact hE _ _ _ mid
   ·refine op_newW tyWorld ?_
    replace mid := mid.allocB
    try clear hNow
    have hNow := (callC mid.low hHeld)
    refine hK.out _ _ hNow ?_
    clear hK K
    try simp only [Act.put]
    try simp only [List.setIfInBounds_toArray, List.set_cons_zero, List.set_cons_succ]
    generalize wx.heap.size = gb at mid ⊢
    generalize wx.alloc (.cells nilW 31) = wy at mid hNow ⊢
    refine stepNext (i := 3) (by kernel_rfl) rfl (by rfl) (fun K hK => ?_)
    go_simp
    (with_reducible refine (Calls.mono (bankNew_any _) ?_)); rintro e wz ⟨rfl, hbz⟩
    replace mid := mid.call hbz
    clear hbz
    try clear hNow
    have hNow := (callC mid.low hHeld)
    refine hK.out _ _ hNow ?_
    clear hK K
    try simp only [Act.put]
    try simp only [List.setIfInBounds_toArray, List.set_cons_zero, List.set_cons_succ]
    refine takeFirst (i := 4) (v := wldV (.slice (some ⟨ga, 0, none⟩) N N) zeroL) rfl (by kernel_rfl) (by kernel_rfl) (by kernel_rfl) (by rfl) (fun _ _ _ h => h) (fun _ _ => exec_buildW rfl rfl) (by assumption) ?_
    try simp only [Act.put, List.setIfInBounds_toArray, List.set_cons_zero, List.set_cons_succ]
    refine relist (l2 := #[true, true, true, true, true, true, false]) (by kernel_rfl) ?_
    exact hE _ _ _ mid
  ·go_simp
   (with_reducible refine (Calls.mono (bankNew_any _) ?_)); rintro e wx ⟨rfl, hbz⟩
   replace mid := mid.call hbz
   clear hbz
   try clear hNow
   have hNow := (callC mid.low hHeld)
   refine hK.out _ _ hNow ?_
   clear hK K
   try simp only [Act.put]
   try simp only [List.setIfInBounds_toArray, List.set_cons_zero, List.set_cons_succ]
   refine stepTwo (i1 := 2) (i2 := 5) (by kernel_rfl) rfl rfl (by rfl) (by rfl) (fun K hK => ?_) (fun K hK => ?_)
   ·go_simp
    replace mid := mid.allocA
    try clear hNow
    have hNow := (callC mid.low hHeld)
    refine hK.out _ _ hNow ?_
    clear hK K
    try simp only [Act.put]
    try simp only [List.setIfInBounds_toArray, List.set_cons_zero, List.set_cons_succ]
    generalize wx.heap.size = ga at mid ⊢
    generalize wx.alloc (.cells (nilsA N) 160) = wy at mid hNow ⊢
    refine takeFirst (i := 4) (v := wldV (.slice (some ⟨ga, 0, none⟩) N N) zeroL) rfl (by kernel_rfl) (by kernel_rfl) (by kernel_rfl) (by rfl) (fun _ _ _ h => h) (fun _ _ => exec_buildW rfl rfl) (by assumption) ?_
    try simp only [Act.put, List.setIfInBounds_toArray, List.set_cons_zero, List.set_cons_succ]
    refine stepNext (i := 5) (by kernel_rfl) rfl (by rfl) (fun K hK => ?_)
    refine op_newW tyWorld ?_
    replace mid := mid.allocB
    try clear hNow
    have hNow := (callC mid.low hHeld)
    refine hK.out _ _ hNow ?_
    clear hK K
    try simp only [Act.put]
    try simp only [List.setIfInBounds_toArray, List.set_cons_zero, List.set_cons_succ]
    generalize wy.heap.size = gb at mid ⊢
    generalize wy.alloc (.cells nilW 31) = wz at mid hNow ⊢
    refine relist (l2 := #[true, true, true, true, true, true, false]) (by kernel_rfl) ?_
    exact hE _ _ _ mid
   ·refine op_newW tyWorld ?_
    replace mid := mid.allocB
    try clear hNow
    have hNow := (callC mid.low hHeld)
    refine hK.out _ _ hNow ?_
    clear hK K
    try simp only [Act.put]
    try simp only [List.setIfInBounds_toArray, List.set_cons_zero, List.set_cons_succ]
    generalize wx.heap.size = gb at mid ⊢
    generalize wx.alloc (.cells nilW 31) = wy at mid hNow ⊢
    refine stepNext (i := 2) (by kernel_rfl) rfl (by rfl) (fun K hK => ?_)
    go_simp
    replace mid := mid.allocA
    try clear hNow
    have hNow := (callC mid.low hHeld)
    refine hK.out _ _ hNow ?_
    clear hK K
    try simp only [Act.put]
    try simp only [List.setIfInBounds_toArray, List.set_cons_zero, List.set_cons_succ]
    generalize wy.heap.size = ga at mid ⊢
    generalize wy.alloc (.cells (nilsA N) 160) = wz at mid hNow ⊢
    refine takeFirst (i := 4) (v := wldV (.slice (some ⟨ga, 0, none⟩) N N) zeroL) rfl (by kernel_rfl) (by kernel_rfl) (by kernel_rfl) (by rfl) (fun _ _ _ h => h) (fun _ _ => exec_buildW rfl rfl) (by assumption) ?_
    try simp only [Act.put, List.setIfInBounds_toArray, List.set_cons_zero, List.set_cons_succ]
    refine relist (l2 := #[true, true, true, true, true, true, false]) (by kernel_rfl) ?_
    exact hE _ _ _ mid
  ·refine op_newW tyWorld ?_
   replace mid := mid.allocB
   try clear hNow
   have hNow := (callC mid.low hHeld)
   refine hK.out _ _ hNow ?_
   clear hK K
   try simp only [Act.put]
   try simp only [List.setIfInBounds_toArray, List.set_cons_zero, List.set_cons_succ]
   generalize wN.heap.size = gb at mid ⊢
   generalize wN.alloc (.cells nilW 31) = wx at mid hNow ⊢
   refine stepTwo (i1 := 2) (i2 := 3) (by kernel_rfl) rfl rfl (by rfl) (by rfl) (fun K hK => ?_) (fun K hK => ?_)
   ·go_simp
    replace mid := mid.allocA
    try clear hNow
    have hNow := (callC mid.low hHeld)
    refine hK.out _ _ hNow ?_
    clear hK K
    try simp only [Act.put]
    try simp only [List.setIfInBounds_toArray, List.set_cons_zero, List.set_cons_succ]
    generalize wx.heap.size = ga at mid ⊢
    generalize wx.alloc (.cells (nilsA N) 160) = wy at mid hNow ⊢
    refine stepNext (i := 3) (by kernel_rfl) rfl (by rfl) (fun K hK => ?_)
    go_simp
    (with_reducible refine (Calls.mono (bankNew_any _) ?_)); rintro e wz ⟨rfl, hbz⟩
    replace mid := mid.call hbz
    clear hbz
    try clear hNow
    have hNow := (callC mid.low hHeld)
    refine hK.out _ _ hNow ?_
    clear hK K
    try simp only [Act.put]
    try simp only [List.setIfInBounds_toArray, List.set_cons_zero, List.set_cons_succ]
    refine takeFirst (i := 4) (v := wldV (.slice (some ⟨ga, 0, none⟩) N N) zeroL) rfl (by kernel_rfl) (by kernel_rfl) (by kernel_rfl) (by rfl) (fun _ _ _ h => h) (fun _ _ => exec_buildW rfl rfl) (by assumption) ?_
    try simp only [Act.put, List.setIfInBounds_toArray, List.set_cons_zero, List.set_cons_succ]
    refine relist (l2 := #[true, true, true, true, true, true, false]) (by kernel_rfl) ?_
    exact hE _ _ _ mid
   ·go_simp
    (with_reducible refine (Calls.mono (bankNew_any _) ?_)); rintro e wy ⟨rfl, hbz⟩
    replace mid := mid.call hbz
    clear hbz
    try clear hNow
    have hNow := (callC mid.low hHeld)
    refine hK.out _ _ hNow ?_
    clear hK K
    try simp only [Act.put]
    try simp only [List.setIfInBounds_toArray, List.set_cons_zero, List.set_cons_succ]
    refine stepNext (i := 2) (by kernel_rfl) rfl (by rfl) (fun K hK => ?_)
    go_simp
    replace mid := mid.allocA
    try clear hNow
    have hNow := (callC mid.low hHeld)
    refine hK.out _ _ hNow ?_
    clear hK K
    try simp only [Act.put]
    try simp only [List.setIfInBounds_toArray, List.set_cons_zero, List.set_cons_succ]
    generalize wy.heap.size = ga at mid ⊢
    generalize wy.alloc (.cells (nilsA N) 160) = wz at mid hNow ⊢
    refine takeFirst (i := 4) (v := wldV (.slice (some ⟨ga, 0, none⟩) N N) zeroL) rfl (by kernel_rfl) (by kernel_rfl) (by kernel_rfl) (by rfl) (fun _ _ _ h => h) (fun _ _ => exec_buildW rfl rfl) (by assumption) ?_
    try simp only [Act.put, List.setIfInBounds_toArray, List.set_cons_zero, List.set_cons_succ]
    refine relist (l2 := #[true, true, true, true, true, true, false]) (by kernel_rfl) ?_
    exact hE _ _ _ mid
 intro ga gb wz mid
 obtain ⟨hga, ab⟩ := mid.fa ga rfl
 obtain ⟨hgb, yb⟩ := mid.fb gb rfl
 have gne := mid.ne ga gb rfl rfl
 have near := mid.low
 clear mid
 have zc := cb.lt
 have zo := ob.lt
 replace hHeld := callC near hHeld
 replace cb := cb.call near
 replace ob := ob.call near
 replace low := gCall low near
 refine stepNext (i := 6) (by kernel_rfl) rfl (by rfl) (fun K hK => ?_)
 refine wp_store_box 31 (.tmp 5) (.tmp 19) rfl _ _ rfl rfl yb (tyWorld.size.trans (congrArg some (wld_size zeroL_length).symm)) (wld_size zeroL_length).symm (wldA_one _) ?_
 intro w2 yb st
 replace ab := st.box ab gne
 replace cb := st.box cb (by omega)
 replace ob := st.box ob (by omega)
 replace low := st.low low (by omega)
 replace hHeld := st.cell (by dsimp only; omega) hHeld
 clear st near
 refine hK.out _ _ hHeld ?_
 clear hK K
 try simp only [Act.put]
 try simp only [List.setIfInBounds_toArray, List.set_cons_zero, List.set_cons_succ]
 clear hHeld
 refine wpAnyH_done (by kernel_rfl) ?_ _
 refine NoPanic.normal ?_
 have yb0 := yb.at_ 0 (wldA_zero _ _)
 go_wp2_with fail
 clear MS
 go_loopw [23] (fun i wr => ∃ k : Nat, k ≤ N ∧ i = .int .i64 k ∧ Hid (∃ us : List Value, us.length = N ∧ Box wr ga 160 us.toArray ∧ ∀ j, j < k → Made wr ga p q us j) ∧
  Box wr gb 31 (wldA (.slice (some ⟨ga, 0, none⟩) N N) zeroL) ∧ Box wr w.heap.size 23 (cfgA N p q b) ∧ Box wr (w.heap.size + 1) 31 nilW ∧ Below w.heap.size w wr) (fun i _ => N - (intOf i).toNat)
 case atStart => exact ⟨0, Nat.zero_le _, rfl, Lib.hid ⟨_, by simp, ab, fun j hj => absurd hj (by omega)⟩, yb, cb, ob, low⟩
 case round =>
  clear ab yb cb ob low yb0
  obtain ⟨k, hk, rfl, hus, yb, cb, ob, low⟩ := hrel
  simp only [cfgA] at cb
  obtain ⟨us, ulen, ab, hcf⟩ := hus.out
  have HCF := Lib.hid hcf
  clear hus hcf
  by_cases hlt : k < N
  ·have k1 : (k : Int) < N := by omega
   have hu : us[k]? = some (us[k]'(by omega)) := List.getElem?_eq_getElem _
   generalize us[k]'(by omega) = u at hu
   have hcu : us.toArray[k]? = some u := by rw [List.getElem?_toArray]; exact hu
   have UK := Lib.hid (show k < us.length by omega)
   clear hu
   have za := ab.lt
   have cb_0 := cb.at_ 0 rfl
   have cb_1 := cb.at_ 1 rfl
   have cb_2 := cb.at_ 2 rfl
   have cb_3 := cb.at_ 3 rfl
   go_wp2_with fail
   (with_reducible refine (CN.out _).mono ?_); rintro e w3 ⟨⟨A3, c3, rfl, cf⟩, hb3⟩
   clear cb_0 cb_1 cb_2 cb_3
   replace ab := ab.call hb3
   replace yb := yb.call hb3
   replace cb := cb.call hb3
   replace ob := ob.call hb3
   replace low := gCall low hb3
   have HC3 := Lib.hid (fun j (hj : j < k) => (HCF.out j hj).call hb3)
   have CF := Lib.hid cf
   clear hb3 HCF cf
   have yb0 := yb.at_ 0 (wldA_zero _ _)
   have ac := ab.at_ k hcu
   have af := ab.frozen k
   go_wp2_with fail
   have st : Stored w3 ga (w3.setCell ⟨ga, k, none⟩ (.slice A3 p c3)) := Stored.cell1 w3 ⟨ga, k, none⟩ _
   have ab4 := ab.set k (.slice A3 p c3)
   rw [List.setIfInBounds_toArray] at ab4
   have yb4 := st.box yb (Ne.symm gne)
   have cb4 := st.box cb (by omega)
   have ob4 := st.box ob (by omega)
   have low4 := st.low low (by omega)
   have HC4 := Lib.hid (Made.next HC3.out UK.out za CF.out st)
   go_roundw
   case rel => exact ⟨k + 1, by omega, by go_num, Lib.hid ⟨_, by rw [List.length_set]; exact ulen, ab4, HC4.out⟩, yb4, cb4, ob4, low4⟩
   case measure => simp [intOf]; omega
  ·obtain rfl : k = N := by omega
   have yr := yb.range
   have s1 : (wldA (.slice (some ⟨ga, 0, none⟩) k k) zeroL).size = nilW.size := wld_size zeroL_length
   have one : (wldA (.slice (some ⟨ga, 0, none⟩) k k) zeroL).all (·.oneCell') = true := wldA_one _
   go_wp2_with (first | ((with_reducible refine wp_loadW (tyWorld) (yr) (s1) ?_ ?_ ?_); rfl; rfl) | ((with_reducible refine wp_storeW (tyWorld) (ob) (rfl) (s1) (one) ?_ ?_ ?_); rfl; rfl))
   intro w5 ob5 st
   replace low := st.low low (by omega)
   replace ab := st.box ab (by omega)
   have KS := Lib.hid (show MadeAll w5 ga k p q from ⟨n8, us, ulen, ab, fun j hj => by
    obtain ⟨A, c, h1, B, C, h2, h3⟩ := HCF.out j hj
    exact ⟨A, c, h1, B, C, h2, h3.out st (.inl (by omega))⟩⟩)
   clear ob st yb yr ab cb
   go_wp2_with fail
   exact bodyPost_ret (v := .tuple #[wldV (.slice (some ⟨ga, 0, none⟩) k k) zeroL, .int .i64 0]) (results_first tyWorld Tryz.results39 rfl rfl ob5 s1) rfl ⟨⟨_, rfl, KS.out⟩, low⟩
end Go.Proofs.YtcegjehoejgofaaGreat
namespace Go.Proofs.YtcegjehoejgofaaGreat
open Go.ChangeShapes Go.WideShapes Go.ChangeAt Go.RowKit Go.Joins
abbrev zMc : Array Value := mcA 0 0 0 0 (.slice none 0 0) zeroL (.slice none 0 0) (.slice none 0 0) (.slice none 0 0) (.slice none 0 0) 0
theorem zMc_one : zMc.all (·.oneCell') = true := mcA_one
def izA (n : Nat) : Array Value := madeCells (Value.int .i64 0).cells n
theorem make_zeros (n : Nat) (hn : n ≤ 200) (w : World) : (Instr.makeSlice 35 (.int .i64 n) (.int .i64 n)).run Tryz.prog w = .ok (.slice (some ⟨w.heap.size, 0, none⟩) n n) (w.alloc (.cells (izA n) 3)) := by
 obtain ⟨i0, hi, hz0, hz1, hz2⟩ := info_parts info_int1
 have := run_make w 35 3 i0 (.int .i64 0) Tryz.underlying35 hi hz0 .i64 .i64 n n (by omega) (Int.le_refl _) (by rw [hz2]; omega) (by omega)
 rw [this, hz1]
 simp [izA]
theorem izA_at {n q : Nat} (h : q < n) : (izA n)[q]? = some (.int .i64 0) := by
 unfold izA
 rw [Array.getElem?_eq_getElem (by rw [size_madeCells]; exact h)]
 simp [madeCells, Value.cells, Nat.mod_one]
theorem sl_zeros {w : World} {g n : Nat} (hn : n ≤ 200) (b : Box w g 3 (izA n)) : Sl w w.heap.size 1 (.slice (some ⟨g, 0, none⟩) n n) (List.replicate n (0 : Int)).length ((List.replicate n (0 : Int)).map (Value.int .i64)) := by
 refine ⟨by simp, _, _, by rw [List.length_replicate], by rw [List.length_replicate]; exact Nat.le_refl _, by unfold maxLen; omega, fun _ => ⟨g, 0, rfl, b.lt, fun j u hu => ?_⟩⟩
 rw [List.getElem?_map, List.getElem?_replicate] at hu
 split at hu
 ·simp at hu
  rw [Nat.zero_add, b.cell, izA_at (by assumption), hu]
 ·cases hu
structure MidN (w0 w : World) (p : List (List Dd)) (wts : List Int) (n : Nat) (P : Option Nat) (T : Option (Option Addr × Nat)) (A V : Option Nat) : Prop where
 low : Below w0.heap.size w0 w
 pr : ∀ g, P = some g → ∃ B, PFr w B (.slice (some ⟨g, 0, none⟩) p.length p.length) p
 wt : ∀ At c, T = some (At, c) → ∃ B, w.ownsRow B 3 1 (.slice At wts.length c) wts.length (wts.map (Value.int .i64))
 at_ : ∀ g, A = some g → Box w g 3 (izA n)
 vr : ∀ g, V = some g → w0.heap.size ≤ g ∧ Box w g 37 zMc
section
variable {w0 w w' : World} {p : List (List Dd)} {wts : List Int} {n : Nat} {P A V : Option Nat} {T : Option (Option Addr × Nat)}
theorem MidN.start (w : World) (p : List (List Dd)) (wts : List Int) (n : Nat) : MidN w w p wts n none none none none := ⟨Below.refl _ _, fun _ h => (by cases h), fun _ _ h => (by cases h), fun _ h => (by cases h), fun _ h => (by cases h)⟩
theorem MidN.call (h : MidN w0 w p wts n P T A V) (hb : Below w.heap.size w w') : MidN w0 w' p wts n P T A V :=
 ⟨gCall h.low hb, fun g e => (h.pr g e).imp fun _ k => k.call hb, fun At c e => (h.wt At c e).imp fun _ k => own_below k hb, fun g e => (h.at_ g e).call hb, fun g e => ⟨(h.vr g e).1, (h.vr g e).2.call hb⟩⟩
theorem MidN.setP {g : Nat} (h : MidN w0 w p wts n P T A V) (k : ∃ B, PFr w B (.slice (some ⟨g, 0, none⟩) p.length p.length) p) : MidN w0 w p wts n (some g) T A V := ⟨h.low, fun _ e => by cases e; exact k, h.wt, h.at_, h.vr⟩
theorem MidN.setT {At : Option Addr} {c : Nat} (h : MidN w0 w p wts n P T A V) (k : ∃ B, w.ownsRow B 3 1 (.slice At wts.length c) wts.length (wts.map (Value.int .i64))) : MidN w0 w p wts n P (some (At, c)) A V := ⟨h.low, h.pr, fun _ _ e => by cases e; exact k, h.at_, h.vr⟩
theorem MidN.setA (h : MidN w0 w p wts n P T A V) : MidN w0 (w.alloc (.cells (izA n) 3)) p wts n P T (some w.heap.size) V := by
 have h' := h.call (gAlloc (Below.refl w.heap.size w) (.cells (izA n) 3))
 exact ⟨h'.low, h'.pr, h'.wt, fun _ e => by cases e; exact Box.new w _ _, h'.vr⟩
theorem MidN.setV (h : MidN w0 w p wts n P T A V) : MidN w0 (w.alloc (.cells zMc 37)) p wts n P T A (some w.heap.size) := by
 have h' := h.call (gAlloc (Below.refl w.heap.size w) (.cells zMc 37))
 exact ⟨h'.low, h'.pr, h'.wt, h'.at_, fun _ e => by cases e; exact ⟨h.low.size, Box.new w _ _⟩⟩
end
theorem exec_buildMc {ρ : Operand → Value} {dst : Option Tmp} {t : TypeId} {pos : String} {after : Array Edge} {gd : Option (Nat × Bool)} {x0 x1 x2 x3 x4 x5 : Operand} {n s y b : Int} {u : Value} {A1 A2 A3 A4 : Option Addr} {n1 n2 n3 n4 c1 c2 c3 c4 : Nat} {m : List Int} (hm : m.length = 64) {w : World}
  (h0 : ρ x0 = cfg n s y b) (h1 : ρ x1 = .agg (wldA u m)) (h2 : ρ x2 = .slice A1 n1 c1) (h3 : ρ x3 = .slice A2 n2 c2) (h4 : ρ x4 = .slice A3 n3 c3) (h5 : ρ x5 = .slice A4 n4 c4) :
  (execOp ρ ⟨dst, .build 37 #[(0, x0), (1, x1), (2, x2), (3, x3), (4, x4), (5, x5)], t, pos, after, gd⟩).run Tryz.prog w = .ok (.value (.agg (mcA n s y b u m (.slice A1 n1 c1) (.slice A2 n2 c2) (.slice A3 n3 c3) (.slice A4 n4 c4) 0))) w := by
 unfold execOp
 simp only [List.map_toArray, List.map_cons, List.map_nil, h0, h1, h2, h3, h4, h5, Sem.run_bind, build_mach hm, Result.andThen_ok, Sem.run_pure]
theorem shareM {M Φ : Nat → Nat → Nat → Option Addr → Nat → World → Prop} {G : Prop} (tree : (∀ gp ga gx At ct w, M gp ga gx At ct w → Φ gp ga gx At ct w) → G) (last : ∀ gp ga gx At ct w, M gp ga gx At ct w → Φ gp ga gx At ct w) : G := tree last
set_option maxRecDepth 10000 in
set_option maxHeartbeats 8000000 in
theorem machNew_is : MNewIs := by
 intro n s y b k pv tv p wts w hp hw
 obtain ⟨Ap, cp, rfl⟩ : ∃ A c, pv = .slice A p.length c := by obtain ⟨A, c, e, _⟩ := hp.ex; exact ⟨A, c, e⟩
 obtain ⟨Aw, cw, rfl⟩ : ∃ A c, tv = .slice A wts.length c := by obtain ⟨_, A, c, e, _⟩ := hw; exact ⟨A, c, e⟩
 have PC := Lib.hid fun W (hb : Below w.heap.size w W) => progCheck_any n s y b _ p W (hp.call hb)
 have WC := Lib.hid fun W (hb : Below w.heap.size w W) => areWaits_any _ wts W (Sl.call hw hb)
 generalize hE : newE n s y b k p wts = E at *
 have NE := Lib.hid (show E = if cntE n s y b k ≠ 0 then cntE n s y b k else if progsE n s y b p ≠ 0 then progsE n s y b p else if waitsB wts = false then 4 else 0 from hE.symm)
 clear hE
 have low := Below.refl w.heap.size w
 have cb := boxNext low 23 (cfgA n s y b)
 replace low := gAlloc low (.cells (cfgA n s y b) 23)
 try simp only [World.size_alloc] at cb
 have ob := boxNext low 37 zMc
 replace low := gAlloc low (.cells zMc 37)
 replace cb := cb.alloc (.cells zMc 37)
 try simp only [World.size_alloc] at ob
 by_cases h1 : cntE n s y b k ≠ 0
 ·have HE := Lib.hid (show E = 4 by rw [NE.out, if_pos h1, cntE_bad h1])
  have RB := Lib.hid fun W => ringNew_bad n s y b k W h1
  clear NE h1 PC WC
  have c0 := cb.at_ 0 rfl
  have c1 := cb.at_ 1 rfl
  have c2 := cb.at_ 2 rfl
  have c3 := cb.at_ 3 rfl
  go_enter Tryz.func17, Tryz.ntmps17
  go_wp2_with (with_reducible refine wp_newW (tyMach) ?_)
  (with_reducible refine (RB.out _).mono ?_); rintro e w1 ⟨rfl, hb⟩
  replace ob := ob.call hb
  replace low := gCall low hb
  clear hb RB c0 c1 c2 c3 cb
  go_wp2_with (first | (with_reducible refine wp_zeroW (tyMach) ?_) | ((with_reducible refine wp_storeW (tyMach) (ob) (rfl) (rfl) (zMc_one) ?_ ?_ ?_); rfl; rfl))
  intro w5 ob5 st5
  replace low := st5.low low (by omega)
  clear st5 ob
  go_wp2_with fail
  exact bodyPost_ret (v := .tuple #[mc0, .int .i64 (4)]) (results_first tyMach Tryz.results17 rfl rfl ob5 rfl) rfl ⟨⟨_, by rw [HE.out], .inl ⟨by rw [HE.out]; decide, rfl⟩⟩, low⟩
 have h1' : cntE n s y b k = 0 := by simpa using h1
 obtain ⟨g1, k1, k8⟩ := cntE_ok h1'
 have hc := cfgB_iff.1 g1
 obtain ⟨KN, rfl⟩ : ∃ KN : Nat, k = KN := ⟨k.toNat, by omega⟩
 have RN := Lib.hid fun W => ringNew_ok n s y b KN W h1'
 have NE2 := Lib.hid (show E = if progsE n s y b p ≠ 0 then progsE n s y b p else if waitsB wts = false then 4 else 0 by rw [NE.out, if_neg h1])
 clear NE h1 h1'
 have c0 := cb.at_ 0 rfl
 have c1 := cb.at_ 1 rfl
 have c2 := cb.at_ 2 rfl
 have c3 := cb.at_ 3 rfl
 go_enter Tryz.func17, Tryz.ntmps17
 go_wp2_with (with_reducible refine wp_newW (tyMach) ?_)
 (with_reducible refine (RN.out _).mono ?_); rintro e w1 ⟨⟨vr, rfl, fr⟩, hb⟩
 obtain ⟨Ar, cr, rfl⟩ := fr.shape
 rw [newR_length] at fr
 have FR := Lib.hid fr
 replace cb := cb.call hb
 replace ob := ob.call hb
 replace low := gCall low hb
 clear hb RN c0 c1 c2 c3 fr
 have c0 := cb.at_ 0 rfl
 have c1 := cb.at_ 1 rfl
 have c2 := cb.at_ 2 rfl
 have c3 := cb.at_ 3 rfl
 rw [newR_length]
 go_wp2_with fail
 (with_reducible refine (PC.out _ low).mono ?_); rintro e w2 ⟨rfl, hb⟩
 replace cb := cb.call hb
 replace ob := ob.call hb
 replace low := gCall low hb
 have FR2 := Lib.hid (FR.out.call hb)
 clear hb PC c0 c1 c2 c3 FR
 by_cases h2 : progsE n s y b p ≠ 0
 ·have HE := Lib.hid (show E = progsE n s y b p by rw [NE2.out, if_pos h2])
  have H2 := Lib.hid h2
  have h2' : (progsE n s y b p != 0) = true := by simpa using h2
  clear h2 NE2
  generalize progsE n s y b p = E0 at *
  go_wp2_with (first | (with_reducible refine wp_zeroW (tyMach) ?_) | ((with_reducible refine wp_storeW (tyMach) (ob) (rfl) (rfl) (zMc_one) ?_ ?_ ?_); rfl; rfl))
  intro w5 ob5 st5
  replace low := st5.low low (by omega)
  clear st5 ob
  go_wp2_with fail
  exact bodyPost_ret (v := .tuple #[mc0, .int .i64 (E0)]) (results_first tyMach Tryz.results17 rfl rfl ob5 rfl) rfl ⟨⟨_, by rw [HE.out], .inl ⟨by rw [HE.out]; exact H2.out, rfl⟩⟩, low⟩
 have h2' : progsE n s y b p = 0 := by simpa using h2
 rw [h2']
 have NE3 := Lib.hid (show E = if waitsB wts = false then 4 else 0 by rw [NE2.out, if_neg h2])
 obtain ⟨_, pl, pz⟩ := progsE_zero h2'
 clear h2 NE2
 go_wp2_with fail
 (with_reducible refine (WC.out _ low).mono ?_); rintro e w3 ⟨rfl, hb⟩
 replace cb := cb.call hb
 replace ob := ob.call hb
 replace low := gCall low hb
 have FR3 := Lib.hid (FR2.out.call hb)
 clear hb WC FR2
 cases hwt : waitsB wts with
 | false =>
  have HE := Lib.hid (show E = 4 by rw [NE3.out, if_pos hwt])
  clear NE3
  go_wp2_with (first | (with_reducible refine wp_zeroW (tyMach) ?_) | ((with_reducible refine wp_storeW (tyMach) (ob) (rfl) (rfl) (zMc_one) ?_ ?_ ?_); rfl; rfl))
  intro w5 ob5 st5
  replace low := st5.low low (by omega)
  clear st5 ob
  go_wp2_with fail
  exact bodyPost_ret (v := .tuple #[mc0, .int .i64 (4)]) (results_first tyMach Tryz.results17 rfl rfl ob5 rfl) rfl ⟨⟨_, by rw [HE.out], .inl ⟨by rw [HE.out]; decide, rfl⟩⟩, low⟩
 | true =>
  have HE := Lib.hid (show E = 0 by rw [NE3.out, if_neg (by rw [hwt]; simp)])
  clear NE3
  have wl : wts.length ≤ 20 := by
   unfold waitsB at hwt
   rw [Bool.and_eq_true, decide_eq_true_eq] at hwt
   exact hwt.1
  have pl8 : p.length ≤ 8 := by omega
  obtain ⟨N, rfl⟩ : ∃ N : Nat, n = N := ⟨n.toNat, by omega⟩
  obtain ⟨S, rfl⟩ : ∃ S : Nat, s = S := ⟨s.toNat, by omega⟩
  obtain ⟨Y, rfl⟩ : ∃ Y : Nat, y = Y := ⟨y.toNat, by omega⟩
  have n200 : N ≤ 200 := by omega
  have AN := Lib.hid fun W => new_made N S Y b W g1
  have CP := Lib.hid fun W (hb : Below w.heap.size w W) => cloneProgs_any _ p W (hp.call hb) pl8 (fun k l hk => (listE_zero.1 pz k l hk).1)
  have CW := Lib.hid fun W (hb : Below w.heap.size w W) => cloneInts_any _ wts W (Sl.call hw hb) (by omega)
  have MS := fun W => make_zeros N n200 W
  have CO := Lib.hid (coh_none g1)
  have FL := Lib.hid (flat_none N S Y)
  have c0 := cb.at_ 0 rfl
  have c1 := cb.at_ 1 rfl
  have c2 := cb.at_ 2 rfl
  have c3 := cb.at_ 3 rfl
  go_wp2_with fail
  (with_reducible refine (AN.out _).mono ?_); rintro e w4 ⟨⟨gk, rfl, ks⟩, hb⟩
  have KS := Lib.hid ks
  replace cb := cb.call hb
  replace ob := ob.call hb
  replace low := gCall low hb
  have FR4 := Lib.hid (FR3.out.call hb)
  clear hb AN FR3 c0 c1 c2 c3 ks
  have s1 : (wldA (.slice (some ⟨gk, 0, none⟩) N N) zeroL).size = nilW.size := wld_size zeroL_length
  have one : (wldA (.slice (some ⟨gk, 0, none⟩) N N) zeroL).all (·.oneCell') = true := wldA_one _
  have vb := boxNext low 31 (wldA (.slice (some ⟨gk, 0, none⟩) N N) zeroL)
  replace low := gAlloc low (.cells (wldA (.slice (some ⟨gk, 0, none⟩) N N) zeroL) 31)
  replace cb := cb.alloc (.cells (wldA (.slice (some ⟨gk, 0, none⟩) N N) zeroL) 31)
  replace ob := ob.alloc (.cells (wldA (.slice (some ⟨gk, 0, none⟩) N N) zeroL) 31)
  try simp only [World.size_alloc] at vb
  have KS5 := Lib.hid (KS.out.call (gAlloc (Below.refl w4.heap.size w4) (.cells (wldA (.slice (some ⟨gk, 0, none⟩) N N) zeroL) 31)))
  have FR5 := Lib.hid (FR4.out.call (gAlloc (Below.refl w4.heap.size w4) (.cells (wldA (.slice (some ⟨gk, 0, none⟩) N N) zeroL) 31)))
  clear KS FR4
  go_wp2_with (first | (with_reducible refine wp_newW (tyWorld) ?_) | ((with_reducible refine wp_freshW (tyWorld) (rfl) (s1) (one) ?_ ?_ ?_); rfl; rfl))
  refine wp_region_noPanic ?_
  refine wp_region_held_drew (S := fun w' => Box w' w.heap.size 23 (cfgA N S Y b) ∧ Box w' w4.heap.size 31 (wldA (.slice (some ⟨gk, 0, none⟩) N N) zeroL)) (by kernel_rfl) ⟨cb.drew, vb.drew⟩ (fun hHeld => ?_)
  replace low := low.drew
  replace ob := ob.drew
  have KS6 := Lib.hid (KS5.out.call (Below.refl _ _).drew)
  have FR6 := Lib.hid (FR5.out.call (Below.refl _ _).drew)
  clear KS5 FR5 cb vb
  generalize (w4.alloc (.cells (wldA (.slice (some ⟨gk, 0, none⟩) N N) zeroL) 31)).drew = wN at *
  generalize hR : newR N KN KN = R at *
  refine takeFirst (i := 0) (v := .agg (cfgA N S Y b)) rfl (by kernel_rfl) (by kernel_rfl) (by kernel_rfl) (by rfl) (fun _ _ _ h => h) (fun _ hSw => exec_loadW tyCfg4 rfl (Box.range hSw.1) (rfl)) (by assumption) ?_
  try simp only [Act.put]
  try simp only [List.setIfInBounds_toArray, List.set_cons_zero, List.set_cons_succ]
  refine takeFirst (i := 1) (v := .agg (wldA (.slice (some ⟨gk, 0, none⟩) N N) zeroL)) rfl (by kernel_rfl) (by kernel_rfl) (by kernel_rfl) (by rfl) (fun _ _ _ h => h) (fun _ hSw => exec_loadW tyWorld rfl (Box.range hSw.2) (s1)) (by assumption) ?_
  try simp only [Act.put]
  try simp only [List.setIfInBounds_toArray, List.set_cons_zero, List.set_cons_succ]
  refine takeA 2 ?_ rfl ?_ ?_; rotate_left
  ·(intro w hSw; go_simp; try (with_reducible rfl))
  try simp only [Act.put, List.setIfInBounds_toArray, List.set_cons_zero, List.set_cons_succ]
  refine takeA 3 ?_ rfl ?_ ?_; rotate_left
  ·(intro w hSw; go_simp; try (with_reducible rfl))
  try simp only [Act.put, List.setIfInBounds_toArray, List.set_cons_zero, List.set_cons_succ]
  refine takeA 5 ?_ rfl ?_ ?_; rotate_left
  ·(intro w hSw; go_simp; try (with_reducible rfl))
  try simp only [Act.put, List.setIfInBounds_toArray, List.set_cons_zero, List.set_cons_succ]
  refine takeFirst (i := 6) (v := .int .i64 N) rfl (by kernel_rfl) (by kernel_rfl) (by kernel_rfl) (by rfl) (fun _ _ _ h => h) (fun w' hSw => by have c9 := hSw.1.at_ 0 rfl; go_simp) (by assumption) ?_
  try simp only [Act.put]
  try simp only [List.setIfInBounds_toArray, List.set_cons_zero, List.set_cons_succ]
  refine takeA 8 ?_ rfl ?_ ?_; rotate_left
  ·(intro w hSw; go_simp; try (with_reducible rfl))
  try simp only [Act.put, List.setIfInBounds_toArray, List.set_cons_zero, List.set_cons_succ]
  apply shareM (M := fun gp ga gx At ct wz => MidN wN wz p wts N (some gp) (some (At, ct)) (some ga) (some gx))
  ·intro hE
   have mid := MidN.start wN p wts N
   refine stepThree (i1 := 4) (i2 := 7) (i3 := 11) (by kernel_rfl) rfl rfl rfl (by rfl) (by rfl) (by rfl) (fun K hK => ?_) (fun K hK => ?_) (fun K hK => ?_)
   ·go_simp
    (with_reducible refine (CP.out _ (gCall low mid.low)).mono ?_); rintro e wa ⟨⟨v', rfl, gp, cp, rfl, gp0, p8, dn⟩, hbz⟩
    replace mid := (mid.call hbz).setP ⟨_, gp, cp, rfl, gp0, p8, dn⟩
    clear hbz dn gp0 p8
    try clear hNow
    have hNow := And.intro (hHeld.1.call mid.low) (hHeld.2.call mid.low)
    refine hK.out _ _ hNow ?_
    clear hK K
    try simp only [Act.put]
    try simp only [List.setIfInBounds_toArray, List.set_cons_zero, List.set_cons_succ]
    refine stepThree (i1 := 7) (i2 := 9) (i3 := 11) (by kernel_rfl) rfl rfl rfl (by rfl) (by rfl) (by rfl) (fun K hK => ?_) (fun K hK => ?_) (fun K hK => ?_)
    ·go_simp
     replace mid := mid.setA
     try clear hNow
     have hNow := And.intro (hHeld.1.call mid.low) (hHeld.2.call mid.low)
     refine hK.out _ _ hNow ?_
     clear hK K
     try simp only [Act.put]
     try simp only [List.setIfInBounds_toArray, List.set_cons_zero, List.set_cons_succ]
     generalize wa.heap.size = ga at mid ⊢
     generalize wa.alloc (.cells (izA N) 3) = wb1 at mid hNow ⊢
     refine stepTwo (i1 := 9) (i2 := 11) (by kernel_rfl) rfl rfl (by rfl) (by rfl) (fun K hK => ?_) (fun K hK => ?_)
     ·go_simp
      (with_reducible refine (CW.out _ (gCall low mid.low)).mono ?_); rintro e wc ⟨⟨vt, rfl, rt⟩, hbz⟩
      obtain ⟨At, ct, rfl⟩ := own_shape rt
      replace mid := (mid.call hbz).setT ⟨_, rt⟩
      clear hbz rt
      try clear hNow
      have hNow := And.intro (hHeld.1.call mid.low) (hHeld.2.call mid.low)
      refine hK.out _ _ hNow ?_
      clear hK K
      try simp only [Act.put]
      try simp only [List.setIfInBounds_toArray, List.set_cons_zero, List.set_cons_succ]
      refine takeFirst (i := 10) (v := .agg (mcA N S Y b (.slice (some ⟨gk, 0, none⟩) N N) zeroL (.slice Ar KN cr) (.slice (some ⟨gp, 0, none⟩) p.length p.length) (.slice (some ⟨ga, 0, none⟩) N N) (.slice At wts.length ct) 0)) rfl (by kernel_rfl) (by kernel_rfl) (by kernel_rfl) (by rfl) (fun _ _ _ h => h) (fun _ _ => exec_buildMc zeroL_length rfl rfl rfl rfl rfl rfl) (by assumption) ?_
      try simp only [Act.put]
      try simp only [List.setIfInBounds_toArray, List.set_cons_zero, List.set_cons_succ]
      refine stepNext (i := 11) (by kernel_rfl) rfl (by rfl) (fun K hK => ?_)
      refine op_newW tyMach ?_
      replace mid := mid.setV
      try clear hNow
      have hNow := And.intro (hHeld.1.call mid.low) (hHeld.2.call mid.low)
      refine hK.out _ _ hNow ?_
      clear hK K
      try simp only [Act.put]
      try simp only [List.setIfInBounds_toArray, List.set_cons_zero, List.set_cons_succ]
      generalize wc.heap.size = gx at mid ⊢
      generalize wc.alloc (.cells zMc 37) = wd1 at mid hNow ⊢
      refine relist (l2 := #[true, true, true, true, true, true, true, true, true, true, true, true, false]) (by kernel_rfl) ?_
      exact hE gp ga gx At ct _ mid
     ·refine op_newW tyMach ?_
      replace mid := mid.setV
      try clear hNow
      have hNow := And.intro (hHeld.1.call mid.low) (hHeld.2.call mid.low)
      refine hK.out _ _ hNow ?_
      clear hK K
      try simp only [Act.put]
      try simp only [List.setIfInBounds_toArray, List.set_cons_zero, List.set_cons_succ]
      generalize wb1.heap.size = gx at mid ⊢
      generalize wb1.alloc (.cells zMc 37) = wc at mid hNow ⊢
      refine stepNext (i := 9) (by kernel_rfl) rfl (by rfl) (fun K hK => ?_)
      go_simp
      (with_reducible refine (CW.out _ (gCall low mid.low)).mono ?_); rintro e wd1 ⟨⟨vt, rfl, rt⟩, hbz⟩
      obtain ⟨At, ct, rfl⟩ := own_shape rt
      replace mid := (mid.call hbz).setT ⟨_, rt⟩
      clear hbz rt
      try clear hNow
      have hNow := And.intro (hHeld.1.call mid.low) (hHeld.2.call mid.low)
      refine hK.out _ _ hNow ?_
      clear hK K
      try simp only [Act.put]
      try simp only [List.setIfInBounds_toArray, List.set_cons_zero, List.set_cons_succ]
      refine takeFirst (i := 10) (v := .agg (mcA N S Y b (.slice (some ⟨gk, 0, none⟩) N N) zeroL (.slice Ar KN cr) (.slice (some ⟨gp, 0, none⟩) p.length p.length) (.slice (some ⟨ga, 0, none⟩) N N) (.slice At wts.length ct) 0)) rfl (by kernel_rfl) (by kernel_rfl) (by kernel_rfl) (by rfl) (fun _ _ _ h => h) (fun _ _ => exec_buildMc zeroL_length rfl rfl rfl rfl rfl rfl) (by assumption) ?_
      try simp only [Act.put]
      try simp only [List.setIfInBounds_toArray, List.set_cons_zero, List.set_cons_succ]
      refine relist (l2 := #[true, true, true, true, true, true, true, true, true, true, true, true, false]) (by kernel_rfl) ?_
      exact hE gp ga gx At ct _ mid
    ·go_simp
     (with_reducible refine (CW.out _ (gCall low mid.low)).mono ?_); rintro e wb1 ⟨⟨vt, rfl, rt⟩, hbz⟩
     obtain ⟨At, ct, rfl⟩ := own_shape rt
     replace mid := (mid.call hbz).setT ⟨_, rt⟩
     clear hbz rt
     try clear hNow
     have hNow := And.intro (hHeld.1.call mid.low) (hHeld.2.call mid.low)
     refine hK.out _ _ hNow ?_
     clear hK K
     try simp only [Act.put]
     try simp only [List.setIfInBounds_toArray, List.set_cons_zero, List.set_cons_succ]
     refine stepTwo (i1 := 7) (i2 := 11) (by kernel_rfl) rfl rfl (by rfl) (by rfl) (fun K hK => ?_) (fun K hK => ?_)
     ·go_simp
      replace mid := mid.setA
      try clear hNow
      have hNow := And.intro (hHeld.1.call mid.low) (hHeld.2.call mid.low)
      refine hK.out _ _ hNow ?_
      clear hK K
      try simp only [Act.put]
      try simp only [List.setIfInBounds_toArray, List.set_cons_zero, List.set_cons_succ]
      generalize wb1.heap.size = ga at mid ⊢
      generalize wb1.alloc (.cells (izA N) 3) = wc at mid hNow ⊢
      refine takeFirst (i := 10) (v := .agg (mcA N S Y b (.slice (some ⟨gk, 0, none⟩) N N) zeroL (.slice Ar KN cr) (.slice (some ⟨gp, 0, none⟩) p.length p.length) (.slice (some ⟨ga, 0, none⟩) N N) (.slice At wts.length ct) 0)) rfl (by kernel_rfl) (by kernel_rfl) (by kernel_rfl) (by rfl) (fun _ _ _ h => h) (fun _ _ => exec_buildMc zeroL_length rfl rfl rfl rfl rfl rfl) (by assumption) ?_
      try simp only [Act.put]
      try simp only [List.setIfInBounds_toArray, List.set_cons_zero, List.set_cons_succ]
      refine stepNext (i := 11) (by kernel_rfl) rfl (by rfl) (fun K hK => ?_)
      refine op_newW tyMach ?_
      replace mid := mid.setV
      try clear hNow
      have hNow := And.intro (hHeld.1.call mid.low) (hHeld.2.call mid.low)
      refine hK.out _ _ hNow ?_
      clear hK K
      try simp only [Act.put]
      try simp only [List.setIfInBounds_toArray, List.set_cons_zero, List.set_cons_succ]
      generalize wc.heap.size = gx at mid ⊢
      generalize wc.alloc (.cells zMc 37) = wd1 at mid hNow ⊢
      refine relist (l2 := #[true, true, true, true, true, true, true, true, true, true, true, true, false]) (by kernel_rfl) ?_
      exact hE gp ga gx At ct _ mid
     ·refine op_newW tyMach ?_
      replace mid := mid.setV
      try clear hNow
      have hNow := And.intro (hHeld.1.call mid.low) (hHeld.2.call mid.low)
      refine hK.out _ _ hNow ?_
      clear hK K
      try simp only [Act.put]
      try simp only [List.setIfInBounds_toArray, List.set_cons_zero, List.set_cons_succ]
      generalize wb1.heap.size = gx at mid ⊢
      generalize wb1.alloc (.cells zMc 37) = wc at mid hNow ⊢
      refine stepNext (i := 7) (by kernel_rfl) rfl (by rfl) (fun K hK => ?_)
      go_simp
      replace mid := mid.setA
      try clear hNow
      have hNow := And.intro (hHeld.1.call mid.low) (hHeld.2.call mid.low)
      refine hK.out _ _ hNow ?_
      clear hK K
      try simp only [Act.put]
      try simp only [List.setIfInBounds_toArray, List.set_cons_zero, List.set_cons_succ]
      generalize wc.heap.size = ga at mid ⊢
      generalize wc.alloc (.cells (izA N) 3) = wd1 at mid hNow ⊢
      refine takeFirst (i := 10) (v := .agg (mcA N S Y b (.slice (some ⟨gk, 0, none⟩) N N) zeroL (.slice Ar KN cr) (.slice (some ⟨gp, 0, none⟩) p.length p.length) (.slice (some ⟨ga, 0, none⟩) N N) (.slice At wts.length ct) 0)) rfl (by kernel_rfl) (by kernel_rfl) (by kernel_rfl) (by rfl) (fun _ _ _ h => h) (fun _ _ => exec_buildMc zeroL_length rfl rfl rfl rfl rfl rfl) (by assumption) ?_
      try simp only [Act.put]
      try simp only [List.setIfInBounds_toArray, List.set_cons_zero, List.set_cons_succ]
      refine relist (l2 := #[true, true, true, true, true, true, true, true, true, true, true, true, false]) (by kernel_rfl) ?_
      exact hE gp ga gx At ct _ mid
    ·refine op_newW tyMach ?_
     replace mid := mid.setV
     try clear hNow
     have hNow := And.intro (hHeld.1.call mid.low) (hHeld.2.call mid.low)
     refine hK.out _ _ hNow ?_
     clear hK K
     try simp only [Act.put]
     try simp only [List.setIfInBounds_toArray, List.set_cons_zero, List.set_cons_succ]
     generalize wa.heap.size = gx at mid ⊢
     generalize wa.alloc (.cells zMc 37) = wb1 at mid hNow ⊢
     refine stepTwo (i1 := 7) (i2 := 9) (by kernel_rfl) rfl rfl (by rfl) (by rfl) (fun K hK => ?_) (fun K hK => ?_)
     ·go_simp
      replace mid := mid.setA
      try clear hNow
      have hNow := And.intro (hHeld.1.call mid.low) (hHeld.2.call mid.low)
      refine hK.out _ _ hNow ?_
      clear hK K
      try simp only [Act.put]
      try simp only [List.setIfInBounds_toArray, List.set_cons_zero, List.set_cons_succ]
      generalize wb1.heap.size = ga at mid ⊢
      generalize wb1.alloc (.cells (izA N) 3) = wc at mid hNow ⊢
      refine stepNext (i := 9) (by kernel_rfl) rfl (by rfl) (fun K hK => ?_)
      go_simp
      (with_reducible refine (CW.out _ (gCall low mid.low)).mono ?_); rintro e wd1 ⟨⟨vt, rfl, rt⟩, hbz⟩
      obtain ⟨At, ct, rfl⟩ := own_shape rt
      replace mid := (mid.call hbz).setT ⟨_, rt⟩
      clear hbz rt
      try clear hNow
      have hNow := And.intro (hHeld.1.call mid.low) (hHeld.2.call mid.low)
      refine hK.out _ _ hNow ?_
      clear hK K
      try simp only [Act.put]
      try simp only [List.setIfInBounds_toArray, List.set_cons_zero, List.set_cons_succ]
      refine takeFirst (i := 10) (v := .agg (mcA N S Y b (.slice (some ⟨gk, 0, none⟩) N N) zeroL (.slice Ar KN cr) (.slice (some ⟨gp, 0, none⟩) p.length p.length) (.slice (some ⟨ga, 0, none⟩) N N) (.slice At wts.length ct) 0)) rfl (by kernel_rfl) (by kernel_rfl) (by kernel_rfl) (by rfl) (fun _ _ _ h => h) (fun _ _ => exec_buildMc zeroL_length rfl rfl rfl rfl rfl rfl) (by assumption) ?_
      try simp only [Act.put]
      try simp only [List.setIfInBounds_toArray, List.set_cons_zero, List.set_cons_succ]
      refine relist (l2 := #[true, true, true, true, true, true, true, true, true, true, true, true, false]) (by kernel_rfl) ?_
      exact hE gp ga gx At ct _ mid
     ·go_simp
      (with_reducible refine (CW.out _ (gCall low mid.low)).mono ?_); rintro e wc ⟨⟨vt, rfl, rt⟩, hbz⟩
      obtain ⟨At, ct, rfl⟩ := own_shape rt
      replace mid := (mid.call hbz).setT ⟨_, rt⟩
      clear hbz rt
      try clear hNow
      have hNow := And.intro (hHeld.1.call mid.low) (hHeld.2.call mid.low)
      refine hK.out _ _ hNow ?_
      clear hK K
      try simp only [Act.put]
      try simp only [List.setIfInBounds_toArray, List.set_cons_zero, List.set_cons_succ]
      refine stepNext (i := 7) (by kernel_rfl) rfl (by rfl) (fun K hK => ?_)
      go_simp
      replace mid := mid.setA
      try clear hNow
      have hNow := And.intro (hHeld.1.call mid.low) (hHeld.2.call mid.low)
      refine hK.out _ _ hNow ?_
      clear hK K
      try simp only [Act.put]
      try simp only [List.setIfInBounds_toArray, List.set_cons_zero, List.set_cons_succ]
      generalize wc.heap.size = ga at mid ⊢
      generalize wc.alloc (.cells (izA N) 3) = wd1 at mid hNow ⊢
      refine takeFirst (i := 10) (v := .agg (mcA N S Y b (.slice (some ⟨gk, 0, none⟩) N N) zeroL (.slice Ar KN cr) (.slice (some ⟨gp, 0, none⟩) p.length p.length) (.slice (some ⟨ga, 0, none⟩) N N) (.slice At wts.length ct) 0)) rfl (by kernel_rfl) (by kernel_rfl) (by kernel_rfl) (by rfl) (fun _ _ _ h => h) (fun _ _ => exec_buildMc zeroL_length rfl rfl rfl rfl rfl rfl) (by assumption) ?_
      try simp only [Act.put]
      try simp only [List.setIfInBounds_toArray, List.set_cons_zero, List.set_cons_succ]
      refine relist (l2 := #[true, true, true, true, true, true, true, true, true, true, true, true, false]) (by kernel_rfl) ?_
      exact hE gp ga gx At ct _ mid
   ·go_simp
    replace mid := mid.setA
    try clear hNow
    have hNow := And.intro (hHeld.1.call mid.low) (hHeld.2.call mid.low)
    refine hK.out _ _ hNow ?_
    clear hK K
    try simp only [Act.put]
    try simp only [List.setIfInBounds_toArray, List.set_cons_zero, List.set_cons_succ]
    generalize wN.heap.size = ga at mid ⊢
    generalize wN.alloc (.cells (izA N) 3) = wa at mid hNow ⊢
    refine stepTwo (i1 := 4) (i2 := 11) (by kernel_rfl) rfl rfl (by rfl) (by rfl) (fun K hK => ?_) (fun K hK => ?_)
    ·go_simp
     (with_reducible refine (CP.out _ (gCall low mid.low)).mono ?_); rintro e wb1 ⟨⟨v', rfl, gp, cp, rfl, gp0, p8, dn⟩, hbz⟩
     replace mid := (mid.call hbz).setP ⟨_, gp, cp, rfl, gp0, p8, dn⟩
     clear hbz dn gp0 p8
     try clear hNow
     have hNow := And.intro (hHeld.1.call mid.low) (hHeld.2.call mid.low)
     refine hK.out _ _ hNow ?_
     clear hK K
     try simp only [Act.put]
     try simp only [List.setIfInBounds_toArray, List.set_cons_zero, List.set_cons_succ]
     refine stepTwo (i1 := 9) (i2 := 11) (by kernel_rfl) rfl rfl (by rfl) (by rfl) (fun K hK => ?_) (fun K hK => ?_)
     ·go_simp
      (with_reducible refine (CW.out _ (gCall low mid.low)).mono ?_); rintro e wc ⟨⟨vt, rfl, rt⟩, hbz⟩
      obtain ⟨At, ct, rfl⟩ := own_shape rt
      replace mid := (mid.call hbz).setT ⟨_, rt⟩
      clear hbz rt
      try clear hNow
      have hNow := And.intro (hHeld.1.call mid.low) (hHeld.2.call mid.low)
      refine hK.out _ _ hNow ?_
      clear hK K
      try simp only [Act.put]
      try simp only [List.setIfInBounds_toArray, List.set_cons_zero, List.set_cons_succ]
      refine takeFirst (i := 10) (v := .agg (mcA N S Y b (.slice (some ⟨gk, 0, none⟩) N N) zeroL (.slice Ar KN cr) (.slice (some ⟨gp, 0, none⟩) p.length p.length) (.slice (some ⟨ga, 0, none⟩) N N) (.slice At wts.length ct) 0)) rfl (by kernel_rfl) (by kernel_rfl) (by kernel_rfl) (by rfl) (fun _ _ _ h => h) (fun _ _ => exec_buildMc zeroL_length rfl rfl rfl rfl rfl rfl) (by assumption) ?_
      try simp only [Act.put]
      try simp only [List.setIfInBounds_toArray, List.set_cons_zero, List.set_cons_succ]
      refine stepNext (i := 11) (by kernel_rfl) rfl (by rfl) (fun K hK => ?_)
      refine op_newW tyMach ?_
      replace mid := mid.setV
      try clear hNow
      have hNow := And.intro (hHeld.1.call mid.low) (hHeld.2.call mid.low)
      refine hK.out _ _ hNow ?_
      clear hK K
      try simp only [Act.put]
      try simp only [List.setIfInBounds_toArray, List.set_cons_zero, List.set_cons_succ]
      generalize wc.heap.size = gx at mid ⊢
      generalize wc.alloc (.cells zMc 37) = wd1 at mid hNow ⊢
      refine relist (l2 := #[true, true, true, true, true, true, true, true, true, true, true, true, false]) (by kernel_rfl) ?_
      exact hE gp ga gx At ct _ mid
     ·refine op_newW tyMach ?_
      replace mid := mid.setV
      try clear hNow
      have hNow := And.intro (hHeld.1.call mid.low) (hHeld.2.call mid.low)
      refine hK.out _ _ hNow ?_
      clear hK K
      try simp only [Act.put]
      try simp only [List.setIfInBounds_toArray, List.set_cons_zero, List.set_cons_succ]
      generalize wb1.heap.size = gx at mid ⊢
      generalize wb1.alloc (.cells zMc 37) = wc at mid hNow ⊢
      refine stepNext (i := 9) (by kernel_rfl) rfl (by rfl) (fun K hK => ?_)
      go_simp
      (with_reducible refine (CW.out _ (gCall low mid.low)).mono ?_); rintro e wd1 ⟨⟨vt, rfl, rt⟩, hbz⟩
      obtain ⟨At, ct, rfl⟩ := own_shape rt
      replace mid := (mid.call hbz).setT ⟨_, rt⟩
      clear hbz rt
      try clear hNow
      have hNow := And.intro (hHeld.1.call mid.low) (hHeld.2.call mid.low)
      refine hK.out _ _ hNow ?_
      clear hK K
      try simp only [Act.put]
      try simp only [List.setIfInBounds_toArray, List.set_cons_zero, List.set_cons_succ]
      refine takeFirst (i := 10) (v := .agg (mcA N S Y b (.slice (some ⟨gk, 0, none⟩) N N) zeroL (.slice Ar KN cr) (.slice (some ⟨gp, 0, none⟩) p.length p.length) (.slice (some ⟨ga, 0, none⟩) N N) (.slice At wts.length ct) 0)) rfl (by kernel_rfl) (by kernel_rfl) (by kernel_rfl) (by rfl) (fun _ _ _ h => h) (fun _ _ => exec_buildMc zeroL_length rfl rfl rfl rfl rfl rfl) (by assumption) ?_
      try simp only [Act.put]
      try simp only [List.setIfInBounds_toArray, List.set_cons_zero, List.set_cons_succ]
      refine relist (l2 := #[true, true, true, true, true, true, true, true, true, true, true, true, false]) (by kernel_rfl) ?_
      exact hE gp ga gx At ct _ mid
    ·refine op_newW tyMach ?_
     replace mid := mid.setV
     try clear hNow
     have hNow := And.intro (hHeld.1.call mid.low) (hHeld.2.call mid.low)
     refine hK.out _ _ hNow ?_
     clear hK K
     try simp only [Act.put]
     try simp only [List.setIfInBounds_toArray, List.set_cons_zero, List.set_cons_succ]
     generalize wa.heap.size = gx at mid ⊢
     generalize wa.alloc (.cells zMc 37) = wb1 at mid hNow ⊢
     refine stepNext (i := 4) (by kernel_rfl) rfl (by rfl) (fun K hK => ?_)
     go_simp
     (with_reducible refine (CP.out _ (gCall low mid.low)).mono ?_); rintro e wc ⟨⟨v', rfl, gp, cp, rfl, gp0, p8, dn⟩, hbz⟩
     replace mid := (mid.call hbz).setP ⟨_, gp, cp, rfl, gp0, p8, dn⟩
     clear hbz dn gp0 p8
     try clear hNow
     have hNow := And.intro (hHeld.1.call mid.low) (hHeld.2.call mid.low)
     refine hK.out _ _ hNow ?_
     clear hK K
     try simp only [Act.put]
     try simp only [List.setIfInBounds_toArray, List.set_cons_zero, List.set_cons_succ]
     refine stepNext (i := 9) (by kernel_rfl) rfl (by rfl) (fun K hK => ?_)
     go_simp
     (with_reducible refine (CW.out _ (gCall low mid.low)).mono ?_); rintro e wd1 ⟨⟨vt, rfl, rt⟩, hbz⟩
     obtain ⟨At, ct, rfl⟩ := own_shape rt
     replace mid := (mid.call hbz).setT ⟨_, rt⟩
     clear hbz rt
     try clear hNow
     have hNow := And.intro (hHeld.1.call mid.low) (hHeld.2.call mid.low)
     refine hK.out _ _ hNow ?_
     clear hK K
     try simp only [Act.put]
     try simp only [List.setIfInBounds_toArray, List.set_cons_zero, List.set_cons_succ]
     refine takeFirst (i := 10) (v := .agg (mcA N S Y b (.slice (some ⟨gk, 0, none⟩) N N) zeroL (.slice Ar KN cr) (.slice (some ⟨gp, 0, none⟩) p.length p.length) (.slice (some ⟨ga, 0, none⟩) N N) (.slice At wts.length ct) 0)) rfl (by kernel_rfl) (by kernel_rfl) (by kernel_rfl) (by rfl) (fun _ _ _ h => h) (fun _ _ => exec_buildMc zeroL_length rfl rfl rfl rfl rfl rfl) (by assumption) ?_
     try simp only [Act.put]
     try simp only [List.setIfInBounds_toArray, List.set_cons_zero, List.set_cons_succ]
     refine relist (l2 := #[true, true, true, true, true, true, true, true, true, true, true, true, false]) (by kernel_rfl) ?_
     exact hE gp ga gx At ct _ mid
   ·refine op_newW tyMach ?_
    replace mid := mid.setV
    try clear hNow
    have hNow := And.intro (hHeld.1.call mid.low) (hHeld.2.call mid.low)
    refine hK.out _ _ hNow ?_
    clear hK K
    try simp only [Act.put]
    try simp only [List.setIfInBounds_toArray, List.set_cons_zero, List.set_cons_succ]
    generalize wN.heap.size = gx at mid ⊢
    generalize wN.alloc (.cells zMc 37) = wa at mid hNow ⊢
    refine stepTwo (i1 := 4) (i2 := 7) (by kernel_rfl) rfl rfl (by rfl) (by rfl) (fun K hK => ?_) (fun K hK => ?_)
    ·go_simp
     (with_reducible refine (CP.out _ (gCall low mid.low)).mono ?_); rintro e wb1 ⟨⟨v', rfl, gp, cp, rfl, gp0, p8, dn⟩, hbz⟩
     replace mid := (mid.call hbz).setP ⟨_, gp, cp, rfl, gp0, p8, dn⟩
     clear hbz dn gp0 p8
     try clear hNow
     have hNow := And.intro (hHeld.1.call mid.low) (hHeld.2.call mid.low)
     refine hK.out _ _ hNow ?_
     clear hK K
     try simp only [Act.put]
     try simp only [List.setIfInBounds_toArray, List.set_cons_zero, List.set_cons_succ]
     refine stepTwo (i1 := 7) (i2 := 9) (by kernel_rfl) rfl rfl (by rfl) (by rfl) (fun K hK => ?_) (fun K hK => ?_)
     ·go_simp
      replace mid := mid.setA
      try clear hNow
      have hNow := And.intro (hHeld.1.call mid.low) (hHeld.2.call mid.low)
      refine hK.out _ _ hNow ?_
      clear hK K
      try simp only [Act.put]
      try simp only [List.setIfInBounds_toArray, List.set_cons_zero, List.set_cons_succ]
      generalize wb1.heap.size = ga at mid ⊢
      generalize wb1.alloc (.cells (izA N) 3) = wc at mid hNow ⊢
      refine stepNext (i := 9) (by kernel_rfl) rfl (by rfl) (fun K hK => ?_)
      go_simp
      (with_reducible refine (CW.out _ (gCall low mid.low)).mono ?_); rintro e wd1 ⟨⟨vt, rfl, rt⟩, hbz⟩
      obtain ⟨At, ct, rfl⟩ := own_shape rt
      replace mid := (mid.call hbz).setT ⟨_, rt⟩
      clear hbz rt
      try clear hNow
      have hNow := And.intro (hHeld.1.call mid.low) (hHeld.2.call mid.low)
      refine hK.out _ _ hNow ?_
      clear hK K
      try simp only [Act.put]
      try simp only [List.setIfInBounds_toArray, List.set_cons_zero, List.set_cons_succ]
      refine takeFirst (i := 10) (v := .agg (mcA N S Y b (.slice (some ⟨gk, 0, none⟩) N N) zeroL (.slice Ar KN cr) (.slice (some ⟨gp, 0, none⟩) p.length p.length) (.slice (some ⟨ga, 0, none⟩) N N) (.slice At wts.length ct) 0)) rfl (by kernel_rfl) (by kernel_rfl) (by kernel_rfl) (by rfl) (fun _ _ _ h => h) (fun _ _ => exec_buildMc zeroL_length rfl rfl rfl rfl rfl rfl) (by assumption) ?_
      try simp only [Act.put]
      try simp only [List.setIfInBounds_toArray, List.set_cons_zero, List.set_cons_succ]
      refine relist (l2 := #[true, true, true, true, true, true, true, true, true, true, true, true, false]) (by kernel_rfl) ?_
      exact hE gp ga gx At ct _ mid
     ·go_simp
      (with_reducible refine (CW.out _ (gCall low mid.low)).mono ?_); rintro e wc ⟨⟨vt, rfl, rt⟩, hbz⟩
      obtain ⟨At, ct, rfl⟩ := own_shape rt
      replace mid := (mid.call hbz).setT ⟨_, rt⟩
      clear hbz rt
      try clear hNow
      have hNow := And.intro (hHeld.1.call mid.low) (hHeld.2.call mid.low)
      refine hK.out _ _ hNow ?_
      clear hK K
      try simp only [Act.put]
      try simp only [List.setIfInBounds_toArray, List.set_cons_zero, List.set_cons_succ]
      refine stepNext (i := 7) (by kernel_rfl) rfl (by rfl) (fun K hK => ?_)
      go_simp
      replace mid := mid.setA
      try clear hNow
      have hNow := And.intro (hHeld.1.call mid.low) (hHeld.2.call mid.low)
      refine hK.out _ _ hNow ?_
      clear hK K
      try simp only [Act.put]
      try simp only [List.setIfInBounds_toArray, List.set_cons_zero, List.set_cons_succ]
      generalize wc.heap.size = ga at mid ⊢
      generalize wc.alloc (.cells (izA N) 3) = wd1 at mid hNow ⊢
      refine takeFirst (i := 10) (v := .agg (mcA N S Y b (.slice (some ⟨gk, 0, none⟩) N N) zeroL (.slice Ar KN cr) (.slice (some ⟨gp, 0, none⟩) p.length p.length) (.slice (some ⟨ga, 0, none⟩) N N) (.slice At wts.length ct) 0)) rfl (by kernel_rfl) (by kernel_rfl) (by kernel_rfl) (by rfl) (fun _ _ _ h => h) (fun _ _ => exec_buildMc zeroL_length rfl rfl rfl rfl rfl rfl) (by assumption) ?_
      try simp only [Act.put]
      try simp only [List.setIfInBounds_toArray, List.set_cons_zero, List.set_cons_succ]
      refine relist (l2 := #[true, true, true, true, true, true, true, true, true, true, true, true, false]) (by kernel_rfl) ?_
      exact hE gp ga gx At ct _ mid
    ·go_simp
     replace mid := mid.setA
     try clear hNow
     have hNow := And.intro (hHeld.1.call mid.low) (hHeld.2.call mid.low)
     refine hK.out _ _ hNow ?_
     clear hK K
     try simp only [Act.put]
     try simp only [List.setIfInBounds_toArray, List.set_cons_zero, List.set_cons_succ]
     generalize wa.heap.size = ga at mid ⊢
     generalize wa.alloc (.cells (izA N) 3) = wb1 at mid hNow ⊢
     refine stepNext (i := 4) (by kernel_rfl) rfl (by rfl) (fun K hK => ?_)
     go_simp
     (with_reducible refine (CP.out _ (gCall low mid.low)).mono ?_); rintro e wc ⟨⟨v', rfl, gp, cp, rfl, gp0, p8, dn⟩, hbz⟩
     replace mid := (mid.call hbz).setP ⟨_, gp, cp, rfl, gp0, p8, dn⟩
     clear hbz dn gp0 p8
     try clear hNow
     have hNow := And.intro (hHeld.1.call mid.low) (hHeld.2.call mid.low)
     refine hK.out _ _ hNow ?_
     clear hK K
     try simp only [Act.put]
     try simp only [List.setIfInBounds_toArray, List.set_cons_zero, List.set_cons_succ]
     refine stepNext (i := 9) (by kernel_rfl) rfl (by rfl) (fun K hK => ?_)
     go_simp
     (with_reducible refine (CW.out _ (gCall low mid.low)).mono ?_); rintro e wd1 ⟨⟨vt, rfl, rt⟩, hbz⟩
     obtain ⟨At, ct, rfl⟩ := own_shape rt
     replace mid := (mid.call hbz).setT ⟨_, rt⟩
     clear hbz rt
     try clear hNow
     have hNow := And.intro (hHeld.1.call mid.low) (hHeld.2.call mid.low)
     refine hK.out _ _ hNow ?_
     clear hK K
     try simp only [Act.put]
     try simp only [List.setIfInBounds_toArray, List.set_cons_zero, List.set_cons_succ]
     refine takeFirst (i := 10) (v := .agg (mcA N S Y b (.slice (some ⟨gk, 0, none⟩) N N) zeroL (.slice Ar KN cr) (.slice (some ⟨gp, 0, none⟩) p.length p.length) (.slice (some ⟨ga, 0, none⟩) N N) (.slice At wts.length ct) 0)) rfl (by kernel_rfl) (by kernel_rfl) (by kernel_rfl) (by rfl) (fun _ _ _ h => h) (fun _ _ => exec_buildMc zeroL_length rfl rfl rfl rfl rfl rfl) (by assumption) ?_
     try simp only [Act.put]
     try simp only [List.setIfInBounds_toArray, List.set_cons_zero, List.set_cons_succ]
     refine relist (l2 := #[true, true, true, true, true, true, true, true, true, true, true, true, false]) (by kernel_rfl) ?_
     exact hE gp ga gx At ct _ mid
  intro gp ga gx At ct wz mid
  have ga0 := (mid.vr _ rfl).1
  have XS : (mcA N S Y b (.slice (some ⟨gk, 0, none⟩) N N) zeroL (.slice Ar KN cr) (.slice (some ⟨gp, 0, none⟩) p.length p.length) (.slice (some ⟨ga, 0, none⟩) N N) (.slice At wts.length ct) 0).size = zMc.size := by rw [mcA_size zeroL_length, mcA_size zeroL_length]
  have XO : (mcA N S Y b (.slice (some ⟨gk, 0, none⟩) N N) zeroL (.slice Ar KN cr) (.slice (some ⟨gp, 0, none⟩) p.length p.length) (.slice (some ⟨ga, 0, none⟩) N N) (.slice At wts.length ct) 0).all (·.oneCell') = true := mcA_one
  have MK := Lib.hid (fun (W : World) (hk : Ks W (.slice (some ⟨gk, 0, none⟩) N N) (List.replicate N (emptyC S Y))) (hr : Rs W (.slice Ar KN cr) R) (hp : Ps W (.slice (some ⟨gp, 0, none⟩) p.length p.length) p) (ha : Sl W W.heap.size 1 (.slice (some ⟨ga, 0, none⟩) N N) (List.replicate N (0 : Int)).length ((List.replicate N (0 : Int)).map (Value.int .i64))) (ht : Sl W W.heap.size 1 (.slice At wts.length ct) wts.length (wts.map (Value.int .i64))) =>
   show MRead W (.agg (mcA N S Y b (.slice (some ⟨gk, 0, none⟩) N N) zeroL (.slice Ar KN cr) (.slice (some ⟨gp, 0, none⟩) p.length p.length) (.slice (some ⟨ga, 0, none⟩) N N) (.slice At wts.length ct) 0)) (newMc N S Y b (List.replicate N (emptyC S Y)) KN p wts) from
    ⟨zeroL_length, _, _, _, _, _, rfl, hk, by
     rw [← hR] at hr
     exact hr, hp, ha, ht⟩)
  generalize mcA N S Y b (.slice (some ⟨gk, 0, none⟩) N N) zeroL (.slice Ar KN cr) (.slice (some ⟨gp, 0, none⟩) p.length p.length) (.slice (some ⟨ga, 0, none⟩) N N) (.slice At wts.length ct) 0 = XB at *
  refine stepNext (i := 12) (by kernel_rfl) rfl (by rfl) (fun K hK => ?_)
  refine wp_store_box 37 (.tmp 14) (.tmp 55) rfl _ XB rfl rfl (mid.vr _ rfl).2 (tyMach.size.trans (congrArg some XS.symm)) XS.symm XO ?_
  intro w7 xb7 st7
  have near7 := st7.low mid.low ga0
  obtain ⟨B1, pf⟩ := mid.pr _ rfl
  obtain ⟨B2, wt⟩ := mid.wt _ _ rfl
  have pf7 := pf.kept st7 (mid.vr _ rfl).2 (by decide) (by decide)
  have wt7 := row_kept wt st7 (mid.vr _ rfl).2 (by decide)
  have az7 := st7.box (mid.at_ _ rfl) (boxNe (mid.at_ _ rfl) (mid.vr _ rfl).2 (by decide))
  have K7 := Lib.hid (KS6.out.call near7)
  have F7 := Lib.hid (FR6.out.call near7)
  have P7 := Lib.hid pf7
  have T7 := Lib.hid wt7
  have Z7 := Lib.hid az7
  have hNow : Box w7 w.heap.size 23 (cfgA N S Y b) ∧ Box w7 w4.heap.size 31 (wldA (.slice (some ⟨gk, 0, none⟩) N N) zeroL) := ⟨hHeld.1.call near7, hHeld.2.call near7⟩
  refine hK.out _ _ hNow ?_
  clear hK K
  try simp only [Act.put]
  try simp only [List.setIfInBounds_toArray, List.set_cons_zero, List.set_cons_succ]
  refine wpAnyH_done (by kernel_rfl) ?_ _
  refine NoPanic.normal ?_
  replace ob := ob.call near7
  replace low := gCall low near7
  have xr := xb7.range
  clear hHeld hNow near7 pf7 wt7 az7 st7 mid pf wt MS KS6 FR6
  go_wp2_with (first | ((with_reducible refine wp_loadW (tyMach) (xr) (XS) ?_ ?_ ?_); rfl; rfl) | ((with_reducible refine wp_storeW (tyMach) (ob) (rfl) (XS) (XO) ?_ ?_ ?_); rfl; rfl))
  intro w8 ob8 st8
  have M8 := Lib.hid (MK.out w8 (K7.out.kept st8 ob (by decide) (by decide) (by decide)).ks (F7.out.kept st8 ob (by decide)).rs (P7.out.kept st8 ob (by decide) (by decide)).ps (sl_zeros n200 (st8.box Z7.out (boxNe Z7.out ob (by decide)))) (Sl.ofOwn (row_kept T7.out st8 ob (by decide))))
  replace low := st8.low low (by omega)
  clear st8 ob xb7 xr
  go_wp2_with fail
  exact bodyPost_ret (v := .tuple #[.agg XB, .int .i64 0]) (results_first tyMach Tryz.results17 rfl rfl ob8 XS) rfl ⟨⟨_, by rw [HE.out], .inr ⟨HE.out, _, by rw [Int.toNat_natCast]; exact M8.out, CO.out, FL.out⟩⟩, low⟩
end Go.Proofs.YtcegjehoejgofaaGreat
namespace Go.Proofs.YtcegjehoejgofaaGreat
open Go.ChangeShapes Go.WideShapes Go.ChangeAt Go.RowKit
def maxI (x y : Int) : Int := if y > x then y else x
def minI (x y : Int) : Int := if y < x then y else x
section
variable {ops : Array Oper} {rest : List Oper} {dst : Option Tmp} {t : TypeId} {pos : String} {after : Array Edge} {a : Act} {w : World} {Q : Exit → Act → World → Prop} {ats : Array TypeId} {s x : Operand} {A B : Int}
theorem wpList_max (hs : a.eval s = .int .i64 A) (hx : a.eval x = .int .i64 B) (h : wpList Tryz.prog ops Q rest (a.put dst (.int .i64 (maxI A B))) w) :
  wpList Tryz.prog ops Q (⟨dst, .call { callee := .builtin .max, args := #[s, x], argTypes := ats }, t, pos, after, none⟩ :: rest) a w := by
 refine wpList_plain rfl fun K hK => ?_
 unfold Oper.wp execOp
 simp only [resolve, invoke, builtin, Sem.run_bind, Sem.run_pure, Result.andThen_ok, List.map_toArray, List.map_cons, List.map_nil, hs, hx, run_max_int2]
 exact hK _ _ h
theorem wpList_min (hs : a.eval s = .int .i64 A) (hx : a.eval x = .int .i64 B) (h : wpList Tryz.prog ops Q rest (a.put dst (.int .i64 (minI A B))) w) :
  wpList Tryz.prog ops Q (⟨dst, .call { callee := .builtin .min, args := #[s, x], argTypes := ats }, t, pos, after, none⟩ :: rest) a w := by
 refine wpList_plain rfl fun K hK => ?_
 unfold Oper.wp execOp
 simp only [resolve, invoke, builtin, Sem.run_bind, Sem.run_pure, Result.andThen_ok, List.map_toArray, List.map_cons, List.map_nil, hs, hx, run_min_int2]
 exact hK _ _ h
end
end Go.Proofs.YtcegjehoejgofaaGreat
namespace Go.Proofs.YtcegjehoejgofaaGreat
open Go.ChangeShapes Go.WideShapes Go.ChangeAt Go.RowKit Go.Joins
end Go.Proofs.YtcegjehoejgofaaGreat
namespace Go.Proofs.YtcegjehoejgofaaGreat
open Go.ChangeShapes Go.WideShapes Go.ChangeAt Go.RowKit Go.Joins
theorem newR_slots {n : Int} {k : Nat} {x : Sw} (h : x ∈ newR n k k) : x.fu = false ∧ x.nd = 0 ∧ x.wt = 0 ∧ ∃ j : Nat, j < k ∧ x.pl = nodeAt n 0 j := by
 obtain ⟨j, hj, rfl⟩ := List.mem_map.1 h
 have := List.mem_range.1 hj
 rw [if_pos this]
 exact ⟨rfl, rfl, rfl, j, this, rfl⟩
theorem newMc_ok {n s y b k : Int} {css : List (List St)} {p : List (List Dd)} {wts : List Int} (h : newE n s y b k p wts = 0) (hc : cohE n s y b css zeroL = 0) : McOk (newMc n s y b css k.toNat p wts) ∧ 1 ≤ k ∧ k ≤ 8 := by
 unfold newE at h
 by_cases h1 : cntE n s y b k ≠ 0
 ·rw [if_pos h1] at h; exact absurd h h1
 rw [if_neg h1] at h
 by_cases h2 : progsE n s y b p ≠ 0
 ·rw [if_pos h2] at h; exact absurd h h2
 rw [if_neg h2] at h
 by_cases h3 : waitsB wts = false
 ·rw [if_pos h3] at h; cases h
 have h1' : cntE n s y b k = 0 := by simpa using h1
 have h2' : progsE n s y b p = 0 := by simpa using h2
 have h3' : waitsB wts = true := by simpa using h3
 have kk : cfgB n s y b = true ∧ 1 ≤ k ∧ k ≤ 8 := by
  unfold cntE at h1'
  split at h1'
  ·assumption
  ·cases h1'
 obtain ⟨c0, c1, c2⟩ := kk
 have hn := cfgB_iff.1 c0
 obtain ⟨_, pn, pl⟩ := progsE_zero h2'
 have free : ∀ x ∈ newR n k.toNat k.toNat, x.fu = false := fun x hx => (newR_slots hx).1
 have nofil : ∀ j : Int, filB (newR n k.toNat k.toNat) j = false := fun j => filB_no.2 fun x hx hf => by rw [free x hx] at hf; cases hf
 refine ⟨⟨hc, ringE_zero.2 ⟨c0, by simp only [newMc, newR_length]; omega, by simp only [newMc, newR_length]; omega, ?_⟩, h2', ?_, ?_, h3', by simp [newMc], ?_⟩, c1, c2⟩
 ·refine ⟨fun x hx => ?_, ?_⟩
  ·obtain ⟨f1, f2, f3, j, _, f4⟩ := newR_slots hx
   refine ⟨nodB_iff.2 ?_, nodB_iff.2 ?_, waitB_iff.2 ?_, fun _ => ⟨f2, f3⟩⟩
   ·rw [f4]
    exact ⟨nodeAt_nonneg (by omega), nodeAt_lt (by omega)⟩
   ·rw [f2]
    simp only [newMc]
    omega
   ·omega
  ·refine List.pairwise_of_forall_mem_list fun x hx z _ f _ => ?_
   rw [free x hx] at f
   cases f
 ·simp only [newMc, List.length_replicate]
  omega
 ·intro j x l hx _
  simp only [newMc, List.getElem?_replicate] at hx
  split at hx
  ·cases hx; omega
  ·cases hx
 ·intro j x l _ _ hf
  simp only [newMc] at hf
  rw [nofil] at hf
  cases hf
end Go.Proofs.YtcegjehoejgofaaGreat
namespace Go.Proofs.YtcegjehoejgofaaGreat
open Go.ChangeShapes Go.WideShapes Go.ChangeAt Go.RowKit Go.Joins
def nil2A : Array Value := #[.slice none 0 0, .slice none 0 0]
abbrev mc0A : Array Value := mcA 0 0 0 0 (.slice none 0 0) zeroL (.slice none 0 0) (.slice none 0 0) (.slice none 0 0) (.slice none 0 0) 0
theorem shareMade {M Φ : Nat → Nat → Value → World → Prop} {G : Prop} (tree : (∀ k g v w, M k g v w → Φ k g v w) → G) (last : ∀ k g v w, M k g v w → Φ k g v w) : G := tree last
theorem info_list2 : (Tryz.prog.info? 85).map (fun i => (i.zero, i.size, i.bytes)) = some (some (.slice none 0 0), 1, 24) := by kernel_rfl
theorem make_two (w : World) : (Instr.makeSlice 34 (.int .i64 2) (.int .i64 2)).run Tryz.prog w = .ok (.slice (some ⟨w.heap.size, 0, none⟩) 2 2) (w.alloc (.cells nil2A 85)) := by
 obtain ⟨i0, hi, hz0, hz1, hz2⟩ := info_parts info_list2
 have := run_make w 34 85 i0 (.slice none 0 0) Tryz.underlying34 hi hz0 .i64 .i64 2 2 (by omega) (Int.le_refl _) (by rw [hz2]; omega) (by omega)
 rw [this, hz1]
 have e : madeCells (Value.slice none 0 0).cells 2 = nil2A := by kernel_rfl
 simp [e]
theorem ps_two {w : World} {g : Nat} (b : Box w g 85 nil2A) : Ps w (.slice (some ⟨g, 0, none⟩) 2 2) [[], []] := by
 refine ⟨some ⟨g, 0, none⟩, 2, rfl, Nat.le_refl _, by unfold maxLen; decide, fun _ => ⟨g, 0, rfl, b.lt, fun k l hk => ?_⟩⟩
 match k, hk with
 | 0, hk =>
  simp at hk
  subst hk
  exact ⟨none, 0, b.at_ 0 rfl, ⟨rfl, none, 0, rfl, Nat.le_refl _, Nat.zero_le _, fun h => absurd h (Nat.lt_irrefl 0)⟩⟩
 | 1, hk =>
  simp at hk
  subst hk
  exact ⟨none, 0, b.at_ 1 rfl, ⟨rfl, none, 0, rfl, Nat.le_refl _, Nat.zero_le _, fun h => absurd h (Nat.lt_irrefl 0)⟩⟩
theorem sl_nil (w : World) : Sl w w.heap.size 1 (.slice none 0 0) ([] : List Int).length (([] : List Int).map (Value.int .i64)) := ⟨rfl, none, 0, rfl, Nat.le_refl _, Nat.zero_le _, fun h => absurd h (Nat.lt_irrefl 0)⟩
set_option maxRecDepth 10000 in
set_option maxHeartbeats 4000000 in
theorem machines_yes (NI : MNewIs) (w : World) : Calls Tryz.prog 6 #[] w fun e w' => e = .returned (.bool true) ∧ Below w.heap.size w w' := by
 have hE0 : newE 2 1 1 1 1 [[], []] [] = 0 := by decide +kernel
 have NN := Lib.hid (show ∀ (W : World) (pv : Value), Ps W pv [[], []] → Calls Tryz.prog 17 #[cfg 2 1 1 1, .int .i64 1, pv, .slice none 0 0] W fun e w' => (∃ v, e = .returned (.tuple #[v, .int .i64 0]) ∧ ∃ M, MRead w' v M ∧ M.at_.length = 2) ∧ Below W.heap.size W w' from fun W pv h => by
  refine (NI 2 1 1 1 1 pv (.slice none 0 0) [[], []] [] W h (sl_nil W)).mono ?_
  rintro e w' ⟨⟨v, rfl, hv⟩, hb⟩
  rw [hE0] at hv ⊢
  rcases hv with ⟨h, _⟩ | ⟨_, css, rd, _⟩
  ·exact absurd rfl h
  ·exact ⟨⟨v, rfl, _, rd, by simp [newMc]⟩, hb⟩)
 have MT := Lib.hid fun w => make_two w
 clear hE0
 have low := Below.refl w.heap.size w
 go_enter Tryz.func6, Tryz.ntmps6
 go_wp2_with fail
 have MT2 := MT.out
 refine wp_region_noPanic ?_
 refine wp_region_held_drew (S := fun _ => True) (by kernel_rfl) trivial (fun hHeld => ?_)
 replace low := low.drew
 generalize w.drew = wN at *
 apply shareMade (M := fun _ g v wz => Below wN.heap.size wN wz ∧ wN.heap.size ≤ g ∧ Box wz g 37 mc0A ∧ ∃ M, MRead wz v M ∧ M.at_.length = 2)
 ·intro hE
  have mid := Two.start wN 85 nil2A 37 mc0A
  refine stepThree (i1 := 0) (i2 := 1) (i3 := 6) (by kernel_rfl) rfl rfl rfl (by rfl) (by rfl) (by rfl) (fun K hK => ?_) (fun K hK => ?_) (fun K hK => ?_)
  ·go_simp
   (with_reducible refine (small_is _).mono ?_); rintro e wx ⟨rfl, hbz⟩
   replace mid := mid.call hbz
   clear hbz
   refine hK.out _ _ hHeld ?_
   clear hK K
   try simp only [Act.put]
   try simp only [List.setIfInBounds_toArray, List.set_cons_zero, List.set_cons_succ]
   refine stepTwo (i1 := 1) (i2 := 6) (by kernel_rfl) rfl rfl (by rfl) (by rfl) (fun K hK => ?_) (fun K hK => ?_)
   ·go_simp
    replace mid := mid.allocA
    refine hK.out _ _ hHeld ?_
    clear hK K
    try simp only [Act.put]
    try simp only [List.setIfInBounds_toArray, List.set_cons_zero, List.set_cons_succ]
    generalize wx.heap.size = gm at mid ⊢
    generalize wx.alloc (.cells nil2A 85) = wy at mid ⊢
    refine stepTwo (i1 := 2) (i2 := 6) (by kernel_rfl) rfl rfl (by rfl) (by rfl) (fun K hK => ?_) (fun K hK => ?_)
    ·go_simp
     (with_reducible refine (NN.out _ _ (ps_two (mid.fa _ rfl).2)).mono ?_); rintro e wz ⟨⟨v, rfl, rd⟩, hbz⟩
     replace mid := mid.call hbz
     have RD := Lib.hid rd
     clear rd hbz
     refine hK.out _ _ hHeld ?_
     clear hK K
     try simp only [Act.put]
     try simp only [List.setIfInBounds_toArray, List.set_cons_zero, List.set_cons_succ]
     refine takeA 3 ?_ rfl ?_ ?_; rotate_left
     ·(intro w hSw; go_simp; try (with_reducible rfl))
     try simp only [Act.put, List.setIfInBounds_toArray, List.set_cons_zero, List.set_cons_succ]
     refine takeA 4 ?_ rfl ?_ ?_; rotate_left
     ·(intro w hSw; go_simp; try (with_reducible rfl))
     try simp only [Act.put, List.setIfInBounds_toArray, List.set_cons_zero, List.set_cons_succ]
     refine takeA 5 ?_ rfl ?_ ?_; rotate_left
     ·(intro w hSw; go_simp; try (with_reducible rfl))
     try simp only [Act.put, List.setIfInBounds_toArray, List.set_cons_zero, List.set_cons_succ]
     refine stepNext (i := 6) (by kernel_rfl) rfl (by rfl) (fun K hK => ?_)
     refine op_newW tyMach ?_
     replace mid := mid.allocB
     obtain ⟨Mq, q1, q2⟩ := RD.out
     have RD : Hid (∃ M, MRead (wz.alloc (.cells mc0A 37)) v M ∧ M.at_.length = 2) := Lib.hid ⟨Mq, q1.call (gAlloc (Below.refl wz.heap.size wz) (.cells mc0A 37)), q2⟩
     clear q1
     refine hK.out _ _ hHeld ?_
     clear hK K
     try simp only [Act.put]
     try simp only [List.setIfInBounds_toArray, List.set_cons_zero, List.set_cons_succ]
     generalize wz.heap.size = gv at mid ⊢
     generalize wz.alloc (.cells mc0A 37) = wq at mid RD ⊢
     refine relist (l2 := #[true, true, true, true, true, true, true, false, false]) (by kernel_rfl) ?_
     exact hE gm gv v _ ⟨mid.low, (mid.fb _ rfl).1, (mid.fb _ rfl).2, RD.out⟩
    ·refine op_newW tyMach ?_
     replace mid := mid.allocB
     refine hK.out _ _ hHeld ?_
     clear hK K
     try simp only [Act.put]
     try simp only [List.setIfInBounds_toArray, List.set_cons_zero, List.set_cons_succ]
     generalize wy.heap.size = gv at mid ⊢
     generalize wy.alloc (.cells mc0A 37) = wz at mid ⊢
     refine stepNext (i := 2) (by kernel_rfl) rfl (by rfl) (fun K hK => ?_)
     go_simp
     (with_reducible refine (NN.out _ _ (ps_two (mid.fa _ rfl).2)).mono ?_); rintro e wq ⟨⟨v, rfl, rd⟩, hbz⟩
     replace mid := mid.call hbz
     have RD := Lib.hid rd
     clear rd hbz
     refine hK.out _ _ hHeld ?_
     clear hK K
     try simp only [Act.put]
     try simp only [List.setIfInBounds_toArray, List.set_cons_zero, List.set_cons_succ]
     refine takeA 3 ?_ rfl ?_ ?_; rotate_left
     ·(intro w hSw; go_simp; try (with_reducible rfl))
     try simp only [Act.put, List.setIfInBounds_toArray, List.set_cons_zero, List.set_cons_succ]
     refine takeA 4 ?_ rfl ?_ ?_; rotate_left
     ·(intro w hSw; go_simp; try (with_reducible rfl))
     try simp only [Act.put, List.setIfInBounds_toArray, List.set_cons_zero, List.set_cons_succ]
     refine takeA 5 ?_ rfl ?_ ?_; rotate_left
     ·(intro w hSw; go_simp; try (with_reducible rfl))
     try simp only [Act.put, List.setIfInBounds_toArray, List.set_cons_zero, List.set_cons_succ]
     refine relist (l2 := #[true, true, true, true, true, true, true, false, false]) (by kernel_rfl) ?_
     exact hE gm gv v _ ⟨mid.low, (mid.fb _ rfl).1, (mid.fb _ rfl).2, RD.out⟩
   ·refine op_newW tyMach ?_
    replace mid := mid.allocB
    refine hK.out _ _ hHeld ?_
    clear hK K
    try simp only [Act.put]
    try simp only [List.setIfInBounds_toArray, List.set_cons_zero, List.set_cons_succ]
    generalize wx.heap.size = gv at mid ⊢
    generalize wx.alloc (.cells mc0A 37) = wy at mid ⊢
    refine stepNext (i := 1) (by kernel_rfl) rfl (by rfl) (fun K hK => ?_)
    go_simp
    replace mid := mid.allocA
    refine hK.out _ _ hHeld ?_
    clear hK K
    try simp only [Act.put]
    try simp only [List.setIfInBounds_toArray, List.set_cons_zero, List.set_cons_succ]
    generalize wy.heap.size = gm at mid ⊢
    generalize wy.alloc (.cells nil2A 85) = wz at mid ⊢
    refine stepNext (i := 2) (by kernel_rfl) rfl (by rfl) (fun K hK => ?_)
    go_simp
    (with_reducible refine (NN.out _ _ (ps_two (mid.fa _ rfl).2)).mono ?_); rintro e wq ⟨⟨v, rfl, rd⟩, hbz⟩
    replace mid := mid.call hbz
    have RD := Lib.hid rd
    clear rd hbz
    refine hK.out _ _ hHeld ?_
    clear hK K
    try simp only [Act.put]
    try simp only [List.setIfInBounds_toArray, List.set_cons_zero, List.set_cons_succ]
    refine takeA 3 ?_ rfl ?_ ?_; rotate_left
    ·(intro w hSw; go_simp; try (with_reducible rfl))
    try simp only [Act.put, List.setIfInBounds_toArray, List.set_cons_zero, List.set_cons_succ]
    refine takeA 4 ?_ rfl ?_ ?_; rotate_left
    ·(intro w hSw; go_simp; try (with_reducible rfl))
    try simp only [Act.put, List.setIfInBounds_toArray, List.set_cons_zero, List.set_cons_succ]
    refine takeA 5 ?_ rfl ?_ ?_; rotate_left
    ·(intro w hSw; go_simp; try (with_reducible rfl))
    try simp only [Act.put, List.setIfInBounds_toArray, List.set_cons_zero, List.set_cons_succ]
    refine relist (l2 := #[true, true, true, true, true, true, true, false, false]) (by kernel_rfl) ?_
    exact hE gm gv v _ ⟨mid.low, (mid.fb _ rfl).1, (mid.fb _ rfl).2, RD.out⟩
  ·go_simp
   replace mid := mid.allocA
   refine hK.out _ _ hHeld ?_
   clear hK K
   try simp only [Act.put]
   try simp only [List.setIfInBounds_toArray, List.set_cons_zero, List.set_cons_succ]
   generalize wN.heap.size = gm at mid ⊢
   generalize wN.alloc (.cells nil2A 85) = wx at mid ⊢
   refine stepTwo (i1 := 0) (i2 := 6) (by kernel_rfl) rfl rfl (by rfl) (by rfl) (fun K hK => ?_) (fun K hK => ?_)
   ·go_simp
    (with_reducible refine (small_is _).mono ?_); rintro e wy ⟨rfl, hbz⟩
    replace mid := mid.call hbz
    clear hbz
    refine hK.out _ _ hHeld ?_
    clear hK K
    try simp only [Act.put]
    try simp only [List.setIfInBounds_toArray, List.set_cons_zero, List.set_cons_succ]
    refine stepTwo (i1 := 2) (i2 := 6) (by kernel_rfl) rfl rfl (by rfl) (by rfl) (fun K hK => ?_) (fun K hK => ?_)
    ·go_simp
     (with_reducible refine (NN.out _ _ (ps_two (mid.fa _ rfl).2)).mono ?_); rintro e wz ⟨⟨v, rfl, rd⟩, hbz⟩
     replace mid := mid.call hbz
     have RD := Lib.hid rd
     clear rd hbz
     refine hK.out _ _ hHeld ?_
     clear hK K
     try simp only [Act.put]
     try simp only [List.setIfInBounds_toArray, List.set_cons_zero, List.set_cons_succ]
     refine takeA 3 ?_ rfl ?_ ?_; rotate_left
     ·(intro w hSw; go_simp; try (with_reducible rfl))
     try simp only [Act.put, List.setIfInBounds_toArray, List.set_cons_zero, List.set_cons_succ]
     refine takeA 4 ?_ rfl ?_ ?_; rotate_left
     ·(intro w hSw; go_simp; try (with_reducible rfl))
     try simp only [Act.put, List.setIfInBounds_toArray, List.set_cons_zero, List.set_cons_succ]
     refine takeA 5 ?_ rfl ?_ ?_; rotate_left
     ·(intro w hSw; go_simp; try (with_reducible rfl))
     try simp only [Act.put, List.setIfInBounds_toArray, List.set_cons_zero, List.set_cons_succ]
     refine stepNext (i := 6) (by kernel_rfl) rfl (by rfl) (fun K hK => ?_)
     refine op_newW tyMach ?_
     replace mid := mid.allocB
     obtain ⟨Mq, q1, q2⟩ := RD.out
     have RD : Hid (∃ M, MRead (wz.alloc (.cells mc0A 37)) v M ∧ M.at_.length = 2) := Lib.hid ⟨Mq, q1.call (gAlloc (Below.refl wz.heap.size wz) (.cells mc0A 37)), q2⟩
     clear q1
     refine hK.out _ _ hHeld ?_
     clear hK K
     try simp only [Act.put]
     try simp only [List.setIfInBounds_toArray, List.set_cons_zero, List.set_cons_succ]
     generalize wz.heap.size = gv at mid ⊢
     generalize wz.alloc (.cells mc0A 37) = wq at mid RD ⊢
     refine relist (l2 := #[true, true, true, true, true, true, true, false, false]) (by kernel_rfl) ?_
     exact hE gm gv v _ ⟨mid.low, (mid.fb _ rfl).1, (mid.fb _ rfl).2, RD.out⟩
    ·refine op_newW tyMach ?_
     replace mid := mid.allocB
     refine hK.out _ _ hHeld ?_
     clear hK K
     try simp only [Act.put]
     try simp only [List.setIfInBounds_toArray, List.set_cons_zero, List.set_cons_succ]
     generalize wy.heap.size = gv at mid ⊢
     generalize wy.alloc (.cells mc0A 37) = wz at mid ⊢
     refine stepNext (i := 2) (by kernel_rfl) rfl (by rfl) (fun K hK => ?_)
     go_simp
     (with_reducible refine (NN.out _ _ (ps_two (mid.fa _ rfl).2)).mono ?_); rintro e wq ⟨⟨v, rfl, rd⟩, hbz⟩
     replace mid := mid.call hbz
     have RD := Lib.hid rd
     clear rd hbz
     refine hK.out _ _ hHeld ?_
     clear hK K
     try simp only [Act.put]
     try simp only [List.setIfInBounds_toArray, List.set_cons_zero, List.set_cons_succ]
     refine takeA 3 ?_ rfl ?_ ?_; rotate_left
     ·(intro w hSw; go_simp; try (with_reducible rfl))
     try simp only [Act.put, List.setIfInBounds_toArray, List.set_cons_zero, List.set_cons_succ]
     refine takeA 4 ?_ rfl ?_ ?_; rotate_left
     ·(intro w hSw; go_simp; try (with_reducible rfl))
     try simp only [Act.put, List.setIfInBounds_toArray, List.set_cons_zero, List.set_cons_succ]
     refine takeA 5 ?_ rfl ?_ ?_; rotate_left
     ·(intro w hSw; go_simp; try (with_reducible rfl))
     try simp only [Act.put, List.setIfInBounds_toArray, List.set_cons_zero, List.set_cons_succ]
     refine relist (l2 := #[true, true, true, true, true, true, true, false, false]) (by kernel_rfl) ?_
     exact hE gm gv v _ ⟨mid.low, (mid.fb _ rfl).1, (mid.fb _ rfl).2, RD.out⟩
   ·refine op_newW tyMach ?_
    replace mid := mid.allocB
    refine hK.out _ _ hHeld ?_
    clear hK K
    try simp only [Act.put]
    try simp only [List.setIfInBounds_toArray, List.set_cons_zero, List.set_cons_succ]
    generalize wx.heap.size = gv at mid ⊢
    generalize wx.alloc (.cells mc0A 37) = wy at mid ⊢
    refine stepNext (i := 0) (by kernel_rfl) rfl (by rfl) (fun K hK => ?_)
    go_simp
    (with_reducible refine (small_is _).mono ?_); rintro e wz ⟨rfl, hbz⟩
    replace mid := mid.call hbz
    clear hbz
    refine hK.out _ _ hHeld ?_
    clear hK K
    try simp only [Act.put]
    try simp only [List.setIfInBounds_toArray, List.set_cons_zero, List.set_cons_succ]
    refine stepNext (i := 2) (by kernel_rfl) rfl (by rfl) (fun K hK => ?_)
    go_simp
    (with_reducible refine (NN.out _ _ (ps_two (mid.fa _ rfl).2)).mono ?_); rintro e wq ⟨⟨v, rfl, rd⟩, hbz⟩
    replace mid := mid.call hbz
    have RD := Lib.hid rd
    clear rd hbz
    refine hK.out _ _ hHeld ?_
    clear hK K
    try simp only [Act.put]
    try simp only [List.setIfInBounds_toArray, List.set_cons_zero, List.set_cons_succ]
    refine takeA 3 ?_ rfl ?_ ?_; rotate_left
    ·(intro w hSw; go_simp; try (with_reducible rfl))
    try simp only [Act.put, List.setIfInBounds_toArray, List.set_cons_zero, List.set_cons_succ]
    refine takeA 4 ?_ rfl ?_ ?_; rotate_left
    ·(intro w hSw; go_simp; try (with_reducible rfl))
    try simp only [Act.put, List.setIfInBounds_toArray, List.set_cons_zero, List.set_cons_succ]
    refine takeA 5 ?_ rfl ?_ ?_; rotate_left
    ·(intro w hSw; go_simp; try (with_reducible rfl))
    try simp only [Act.put, List.setIfInBounds_toArray, List.set_cons_zero, List.set_cons_succ]
    refine relist (l2 := #[true, true, true, true, true, true, true, false, false]) (by kernel_rfl) ?_
    exact hE gm gv v _ ⟨mid.low, (mid.fb _ rfl).1, (mid.fb _ rfl).2, RD.out⟩
  ·refine op_newW tyMach ?_
   replace mid := mid.allocB
   refine hK.out _ _ hHeld ?_
   clear hK K
   try simp only [Act.put]
   try simp only [List.setIfInBounds_toArray, List.set_cons_zero, List.set_cons_succ]
   generalize wN.heap.size = gv at mid ⊢
   generalize wN.alloc (.cells mc0A 37) = wx at mid ⊢
   refine stepTwo (i1 := 0) (i2 := 1) (by kernel_rfl) rfl rfl (by rfl) (by rfl) (fun K hK => ?_) (fun K hK => ?_)
   ·go_simp
    (with_reducible refine (small_is _).mono ?_); rintro e wy ⟨rfl, hbz⟩
    replace mid := mid.call hbz
    clear hbz
    refine hK.out _ _ hHeld ?_
    clear hK K
    try simp only [Act.put]
    try simp only [List.setIfInBounds_toArray, List.set_cons_zero, List.set_cons_succ]
    refine stepNext (i := 1) (by kernel_rfl) rfl (by rfl) (fun K hK => ?_)
    go_simp
    replace mid := mid.allocA
    refine hK.out _ _ hHeld ?_
    clear hK K
    try simp only [Act.put]
    try simp only [List.setIfInBounds_toArray, List.set_cons_zero, List.set_cons_succ]
    generalize wy.heap.size = gm at mid ⊢
    generalize wy.alloc (.cells nil2A 85) = wz at mid ⊢
    refine stepNext (i := 2) (by kernel_rfl) rfl (by rfl) (fun K hK => ?_)
    go_simp
    (with_reducible refine (NN.out _ _ (ps_two (mid.fa _ rfl).2)).mono ?_); rintro e wq ⟨⟨v, rfl, rd⟩, hbz⟩
    replace mid := mid.call hbz
    have RD := Lib.hid rd
    clear rd hbz
    refine hK.out _ _ hHeld ?_
    clear hK K
    try simp only [Act.put]
    try simp only [List.setIfInBounds_toArray, List.set_cons_zero, List.set_cons_succ]
    refine takeA 3 ?_ rfl ?_ ?_; rotate_left
    ·(intro w hSw; go_simp; try (with_reducible rfl))
    try simp only [Act.put, List.setIfInBounds_toArray, List.set_cons_zero, List.set_cons_succ]
    refine takeA 4 ?_ rfl ?_ ?_; rotate_left
    ·(intro w hSw; go_simp; try (with_reducible rfl))
    try simp only [Act.put, List.setIfInBounds_toArray, List.set_cons_zero, List.set_cons_succ]
    refine takeA 5 ?_ rfl ?_ ?_; rotate_left
    ·(intro w hSw; go_simp; try (with_reducible rfl))
    try simp only [Act.put, List.setIfInBounds_toArray, List.set_cons_zero, List.set_cons_succ]
    refine relist (l2 := #[true, true, true, true, true, true, true, false, false]) (by kernel_rfl) ?_
    exact hE gm gv v _ ⟨mid.low, (mid.fb _ rfl).1, (mid.fb _ rfl).2, RD.out⟩
   ·go_simp
    replace mid := mid.allocA
    refine hK.out _ _ hHeld ?_
    clear hK K
    try simp only [Act.put]
    try simp only [List.setIfInBounds_toArray, List.set_cons_zero, List.set_cons_succ]
    generalize wx.heap.size = gm at mid ⊢
    generalize wx.alloc (.cells nil2A 85) = wy at mid ⊢
    refine stepNext (i := 0) (by kernel_rfl) rfl (by rfl) (fun K hK => ?_)
    go_simp
    (with_reducible refine (small_is _).mono ?_); rintro e wz ⟨rfl, hbz⟩
    replace mid := mid.call hbz
    clear hbz
    refine hK.out _ _ hHeld ?_
    clear hK K
    try simp only [Act.put]
    try simp only [List.setIfInBounds_toArray, List.set_cons_zero, List.set_cons_succ]
    refine stepNext (i := 2) (by kernel_rfl) rfl (by rfl) (fun K hK => ?_)
    go_simp
    (with_reducible refine (NN.out _ _ (ps_two (mid.fa _ rfl).2)).mono ?_); rintro e wq ⟨⟨v, rfl, rd⟩, hbz⟩
    replace mid := mid.call hbz
    have RD := Lib.hid rd
    clear rd hbz
    refine hK.out _ _ hHeld ?_
    clear hK K
    try simp only [Act.put]
    try simp only [List.setIfInBounds_toArray, List.set_cons_zero, List.set_cons_succ]
    refine takeA 3 ?_ rfl ?_ ?_; rotate_left
    ·(intro w hSw; go_simp; try (with_reducible rfl))
    try simp only [Act.put, List.setIfInBounds_toArray, List.set_cons_zero, List.set_cons_succ]
    refine takeA 4 ?_ rfl ?_ ?_; rotate_left
    ·(intro w hSw; go_simp; try (with_reducible rfl))
    try simp only [Act.put, List.setIfInBounds_toArray, List.set_cons_zero, List.set_cons_succ]
    refine takeA 5 ?_ rfl ?_ ?_; rotate_left
    ·(intro w hSw; go_simp; try (with_reducible rfl))
    try simp only [Act.put, List.setIfInBounds_toArray, List.set_cons_zero, List.set_cons_succ]
    refine relist (l2 := #[true, true, true, true, true, true, true, false, false]) (by kernel_rfl) ?_
    exact hE gm gv v _ ⟨mid.low, (mid.fb _ rfl).1, (mid.fb _ rfl).2, RD.out⟩
 rintro gm g v wz ⟨near, gnew, vb, M, rd, len⟩
 have m64 := rd.m64
 obtain ⟨A0, c0, A1, c1, A2, c2, A3, c3, A4, c4, rfl, _, _, _, _, _⟩ := rd.shape
 have t71 := mcA_tail (n := M.n) (s := M.s) (y := M.y) (b := M.b) (u := .slice A0 M.css.length c0) (rv := .slice A1 M.ring.length c1) (pv := .slice A2 M.pr.length c2) (av := .slice A3 M.at_.length c3) (tv := .slice A4 M.wts.length c4) (h := M.had) m64 2
 have sz : (mcA M.n M.s M.y M.b (.slice A0 M.css.length c0) M.mem (.slice A1 M.ring.length c1) (.slice A2 M.pr.length c2) (.slice A3 M.at_.length c3) (.slice A4 M.wts.length c4) M.had).size = mc0A.size := by rw [mcA_size m64, mcA_size zeroL_length]
 have on : (mcA M.n M.s M.y M.b (.slice A0 M.css.length c0) M.mem (.slice A1 M.ring.length c1) (.slice A2 M.pr.length c2) (.slice A3 M.at_.length c3) (.slice A4 M.wts.length c4) M.had).all (·.oneCell') = true := mcA_one
 generalize mcA M.n M.s M.y M.b (.slice A0 M.css.length c0) M.mem (.slice A1 M.ring.length c1) (.slice A2 M.pr.length c2) (.slice A3 M.at_.length c3) (.slice A4 M.wts.length c4) M.had = XA at *
 rw [len] at t71
 have lz := low.size
 replace low := gCall low near
 refine stepNext (i := 7) (by kernel_rfl) rfl (by rfl) (fun K hK => ?_)
 refine wp_store_box 37 (.tmp 1) (.tmp 7) rfl _ XA rfl rfl vb (by rw [tyMach.size, sz]) sz.symm on ?_
 intro w4 zb st
 have low4 := st.low low (by omega)
 have cz := zb.at_ 71 t71
 refine hK.out _ _ hHeld ?_
 clear hK K
 try simp only [Act.put]
 try simp only [List.setIfInBounds_toArray, List.set_cons_zero, List.set_cons_succ]
 refine takeA 8 ?_ rfl ?_ ?_; rotate_left
 ·(intro w hSw; go_simp; try (with_reducible rfl))
 try simp only [Act.put, List.setIfInBounds_toArray, List.set_cons_zero, List.set_cons_succ]
 refine wpAnyH_done (by kernel_rfl) ?_ _
 refine NoPanic.normal ?_
 clear hHeld st vb near low
 go_wp2_with fail
 go_ret
 exact ⟨rfl, low4⟩
end Go.Proofs.YtcegjehoejgofaaGreat
namespace Go.Proofs.YtcegjehoejgofaaGreat
open Go.ChangeShapes Go.WideShapes Go.ChangeAt Go.RowKit Go.Joins
theorem machines_true (w : World) : Calls Tryz.prog 6 #[] w fun e w' => e = .returned (.bool true) ∧ Below w.heap.size w w' := machines_yes machNew_is w
end Go.Proofs.YtcegjehoejgofaaGreat
