/-
Proved: what the texts below say at the head of each. No condition but theirs.
-/
import Derived.Test.YtcegjehoejgofaaGreatJoined6
import Derived.Test.YtcegjehoejgofaaGreatJoined1
import Derived.Lib.SliceRun
import Derived.Test.YtcegjehoejgofaaGreatJoined4
import Derived.Test.YtcegjehoejgofaaGreatJoined5
namespace Go.Proofs.YtcegjehoejgofaaGreat
open Go.ChangeShapes Go.WideShapes Go.ChangeAt Go.RowKit Go.Joins
def deed0A : Array Value := #[.int .i64 0, .int .i64 0, .int .i64 0, .int .u64 0]
theorem tyCfg4 : Ty 23 #[.int .i64 0, .int .i64 0, .int .i64 0, .int .i64 0] := ⟨by kernel_rfl, ⟨_, Tryz.underlying23, rfl⟩, fun w => by kernel_rfl⟩
theorem tyDeed4 : Ty 49 deed0A := ⟨by kernel_rfl, ⟨_, Tryz.underlying49, rfl⟩, fun w => by kernel_rfl⟩
def deedA (d : Dd) : Array Value := #[.int .i64 d.nd, .int .i64 d.kd, .int .i64 d.ad, .int .u64 d.vl]
theorem deedA_one (d : Dd) : (deedA d).all (·.oneCell') = true := by simp [deedA, Value.oneCell']
def Gave (w : World) (B : Nat) (I : Bool) (css' : List (List St)) (mem' : List Int) (A : Option Addr) (c n : Nat) (m : List Int) : Prop := I = false → n = css'.length ∧ m = mem' ∧ KFr w B w.heap.size (.slice A n c) css'
section
variable {w w' : World} {B C : Nat} {I : Bool} {v : Value} {css css' : List (List St)} {mem' m : List Int} {A : Option Addr} {c n : Nat}
theorem KFr.kept {x : Nat} {T : TypeId} {cs : Array Value} (h : KFr w B C v css) (st : Stored w x w') (bx : Box w x T cs) (h1 : 114 ≠ T) (h2 : 193 ≠ T) (h3 : 160 ≠ T) : KFr w' B C v css :=
 h.map (fun _ _ b => st.box b (boxNe b bx h1)) (fun _ _ b => st.box b (boxNe b bx h2)) (fun _ _ b => st.box b (boxNe b bx h3))
theorem Gave.call (h : Gave w B I css' mem' A c n m) (hb : Below w.heap.size w w') : Gave w' B I css' mem' A c n m := fun hi => by
 obtain ⟨h1, h2, h3⟩ := h hi
 exact ⟨h1, h2, (h3.call hb).more (Nat.le_refl _) hb.size⟩
theorem Gave.kept {x : Nat} {T : TypeId} {cs : Array Value} (h : Gave w B I css' mem' A c n m) (st : Stored w x w') (bx : Box w x T cs) (k1 : 114 ≠ T) (k2 : 193 ≠ T) (k3 : 160 ≠ T) : Gave w' B I css' mem' A c n m := fun hi => by
 obtain ⟨h1, h2, h3⟩ := h hi
 exact ⟨h1, h2, by rw [st.size]; exact h3.kept st bx k1 k2 k3⟩
theorem Gave.more {B' : Nat} (h : Gave w B I css' mem' A c n m) (hB : B' ≤ B) : Gave w B' I css' mem' A c n m := fun hi => by
 obtain ⟨h1, h2, h3⟩ := h hi
 exact ⟨h1, h2, h3.more hB (Nat.le_refl _)⟩
end
def toldM (M : Mc) (d : Dd) : Int := if idleB M.css d = true then 0 else doV (flatW M.css M.mem) d
def idleE (M : Mc) (d : Dd) : Int := if idleB M.css d = true then 5 else 0
theorem do_any {M : Mc} {d : Dd} (m64 : M.mem.length = 64) (he : findE M.n M.s M.y M.b M.css M.mem d = 0) (v : Value) (w : World) (h : Ks w v M.css) :
  Calls Tryz.prog 85 #[cfg M.n M.s M.y M.b, wldV v M.mem, .agg (deedA d)] w fun e w' => (∃ A c n m f1 f2 f3 f4, e = .returned (.tuple #[wldV (.slice A n c) m, doneV (toldM M d) f1 f2 f3 f4, .int .i64 (idleE M d)]) ∧ m.length = 64 ∧
   Gave w' w.heap.size (idleB M.css d) (didF M.n M.s M.y M.b M.css M.mem d).1 (didF M.n M.s M.y M.b M.css M.mem d).2 A c n m) ∧ Below w.heap.size w w' := by
 unfold toldM idleE
 cases hi : idleB M.css d with
 | true =>
  rw [if_pos rfl, if_pos rfl]
  refine (do_idle m64 he hi v w h).mono ?_
  rintro e w' ⟨rfl, hb⟩
  exact ⟨⟨none, 0, 0, zeroL, _, _, _, _, rfl, zeroL_length, fun h => by cases h⟩, hb⟩
 | false =>
  rw [if_neg (by simp), if_neg (by simp)]
  obtain ⟨out, did, e2, C⟩ := didF_is m64 he hi
  refine (C v w h).mono ?_
  rintro e w' ⟨⟨v', rfl, kf⟩, hb⟩
  obtain ⟨A, c, rfl⟩ := kf.shape
  exact ⟨⟨A, c, _, _, _, _, _, _, rfl, keepM_length m64 out, fun _ => ⟨rfl, e2.symm, kf⟩⟩, hb⟩
theorem share0 {Φ G : Prop} (tree : Φ → G) (last : Φ) : G := tree last
theorem shareN {M Φ : Nat → World → Prop} {G : Prop} (tree : (∀ g w, M g w → Φ g w) → G) (last : ∀ g w, M g w → Φ g w) : G := tree last
theorem shareP {M Φ : Nat → Nat → Option Addr → Nat → Nat → List Int → Bool → Int → Int → Bool → World → Prop} {G : Prop} (tree : (∀ ga gb A c n m f1 f2 f3 f4 w, M ga gb A c n m f1 f2 f3 f4 w → Φ ga gb A c n m f1 f2 f3 f4 w) → G) (last : ∀ ga gb A c n m f1 f2 f3 f4 w, M ga gb A c n m f1 f2 f3 f4 w → Φ ga gb A c n m f1 f2 f3 f4 w) : G := tree last
structure NextV (w0 : World) (g : Nat) (w : World) : Prop where
 low : Below w0.heap.size w0 w
 new : w0.heap.size ≤ g
 box : Box w g 49 deed0A
theorem run_cfg {w : World} {g : Nat} {t : TypeId} {n s y b h : Int} {u rv pv av tv ev : Value} {m : List Int} (bx : Box w g t (runA n s y b u m rv pv av tv h ev)) : w.rangeAt g 0 (#[.int .i64 n, .int .i64 s, .int .i64 y, .int .i64 b] : Array Value).toList := fun j x hx => by
 refine bx.at_ (0 + j) ?_
 have hj : j < 4 := (List.getElem?_eq_some_iff.1 hx).1
 unfold runA runL
 rw [Nat.zero_add, List.getElem?_toArray, List.getElem?_append_left (by simpa using hj)]
 exact hx
theorem build_event (d : Dd) (u : Int) (bb : Bool) (w : World) : (Instr.build 51 #[(0, .agg (deedA d)), (1, .int .u64 u), (2, .bool bb)]).run Tryz.prog w = .ok (.agg #[.int .i64 d.nd, .int .i64 d.kd, .int .i64 d.ad, .int .u64 d.vl, .int .u64 u, .bool bb]) w := by kernel_rfl
theorem exec_buildE {ρ : Operand → Value} {dst : Option Tmp} {t : TypeId} {pos : String} {after : Array Edge} {gd : Option (Nat × Bool)} {x y z : Operand} {d : Dd} {u : Int} {bb : Bool} {w : World} (hx : ρ x = .agg (deedA d)) (hy : ρ y = .int .u64 u) (hz : ρ z = .bool bb) :
  (execOp ρ ⟨dst, .build 51 #[(0, x), (1, y), (2, z)], t, pos, after, gd⟩).run Tryz.prog w = .ok (.value (.agg #[.int .i64 d.nd, .int .i64 d.kd, .int .i64 d.ad, .int .u64 d.vl, .int .u64 u, .bool bb])) w := by
 unfold execOp
 simp only [List.map_toArray, List.map_cons, List.map_nil, hx, hy, hz, Sem.run_bind, build_event, Result.andThen_ok, Sem.run_pure]
theorem event_new (w : World) (x : Ev) (j : Nat) (u : Value) (h : (Ev.cells x)[j]? = some u) : (w.alloc (.cells (Ev.arr x) 51)).cell? ((⟨w.heap.size, 0, none⟩ : Addr).add j) = some u := by
 have e : (⟨w.heap.size, 0, none⟩ : Addr).add j = ⟨w.heap.size, j, none⟩ := by cases j <;> simp [Addr.add]
 rw [e]
 exact (Box.new w 51 (Ev.arr x)).at_ j (by show (Ev.cells x).toArray[j]? = some u; rw [List.getElem?_toArray]; exact h)
noncomputable def mid1 (M : Mc) (d : Dd) : Mc := if idleB M.css d = true then M else { M with css := (didF M.n M.s M.y M.b M.css M.mem d).1, mem := (didF M.n M.s M.y M.b M.css M.mem d).2 }
theorem perf_mid (M : Mc) (k : Nat) (d : Dd) {x : Int} (hx : M.at_[k]? = some x) : perf didF M k d = { mid1 M d with at_ := M.at_.set k (x + 1) } := by
 have gx : M.at_.getD k 0 = x := by simp [List.getD, hx]
 unfold perf mid1
 cases idleB M.css d
 ·rw [if_neg (by simp), if_neg (by simp), gx]
 ·rw [if_pos rfl, if_pos rfl, gx]
set_option maxRecDepth 10000 in
set_option maxHeartbeats 8000000 in
theorem perform_is (B g ga : Nat) (M : Mc) (ev : List Ev) (k : Nat) (d : Dd) (bb : Bool) (w : World) (h : RunS w B g ga M ev) (ok : McOk M) (hop : opAt M k = some d) (few : ev.length ≤ 500) :
  Calls Tryz.prog 52 #[.pointer (some ⟨g, 0, none⟩), .int .i64 k, .bool bb] w fun e w' => (e = .returned (.int .i64 0) ∧ RunS w' B g ga (perf didF M k d) (ev ++ [perfE M bb d]) ∧ Frame ga w w') ∧ Below B w w' := by
 have m64 := h.m64
 obtain ⟨x, l, hx, hl, x0, x1, hd, hnd, hde, hkn⟩ := opAt_some ok hop
 have he : findE M.n M.s M.y M.b M.css M.mem d = 0 := by unfold findE; rw [if_neg (by simpa using ok.coh), if_neg (by simpa using hde), if_neg (by omega)]
 have H := Lib.hid h
 obtain ⟨A0, c0, A1, c1, A2, c2, A3, c3, A4, c4, A5, c5, bx, _, ks, _, ps, sa, _, ia, re⟩ := h.read
 have NX := Lib.hid fun W (hb : Below w.heap.size w W) => (next_good _ _ M.pr M.at_ k x l W (ps.call hb) (Sl.call sa hb) ok.prs.symm hl hx x0).mono (fun e w' ⟨n, b⟩ => show e = Ending.returned (.tuple #[.agg (deedA d), .bool true, .int .i64 0]) ∧ Below W.heap.size W w' from ⟨by
  rcases n with ⟨n, _⟩ | ⟨j, d', n1, n2, n3⟩
  ·omega
  ·have : x.toNat = j := by omega
   rw [this, n2] at hd
   cases hd
   exact n3, b⟩)
 have DD := Lib.hid fun W (hb : Below w.heap.size w W) => do_any m64 he _ W (ks.call hb)
 have HX := Lib.hid hx
 have LL := Lib.hid (show l.length ≤ 20 from (listE_zero.1 (progsE_zero ok.prg).2.2 k l hl).1)
 obtain ⟨i0, hi0, hz0, hz1, hz2⟩ := info_parts info_event
 have HI := Lib.hid hi0
 have HZ := Lib.hid (And.intro hz0 (And.intro hz1 hz2))
 clear hi0 hz0 hz1 hz2
 have k0 : (0 : Int) ≤ k := by omega
 obtain ⟨⟨x0', x1', x2', x3'⟩, x69, x70, x71, x72, x73, x74⟩ := run_cells bx m64
 clear h ks ps sa hl hd hde hkn re ia x0' x1' x2' x3' x69 x72 x73 x74
 have low := Below.refl w.heap.size w
 go_enter Tryz.func52, Tryz.ntmps52
 go_wp2_with fail
 refine wp_region_noPanic ?_
 refine wp_region_held_drew (S := fun w' => w'.cell? ⟨g, 70, none⟩ = some (.slice A2 M.pr.length c2) ∧ w'.cell? ⟨g, 71, none⟩ = some (.slice A3 M.at_.length c3)) (by kernel_rfl) ⟨x70, x71⟩ (fun hHeld => ?_)
 replace low := low.drew
 generalize w.drew = wN at *
 clear x70 x71
 refine takeA 0 ?_ rfl ?_ ?_; rotate_left
 ·(intro w hSw; go_simp; try (with_reducible rfl))
 try simp only [Act.put, List.setIfInBounds_toArray, List.set_cons_zero, List.set_cons_succ]
 refine takeA 1 ?_ rfl ?_ ?_; rotate_left
 ·(intro w hSw; go_simp; try (with_reducible rfl))
 try simp only [Act.put, List.setIfInBounds_toArray, List.set_cons_zero, List.set_cons_succ]
 refine takeA 2 ?_ rfl ?_ ?_; rotate_left
 ·(intro w hSw; go_simp; try (with_reducible rfl))
 try simp only [Act.put, List.setIfInBounds_toArray, List.set_cons_zero, List.set_cons_succ]
 refine takeA 3 ?_ rfl ?_ ?_; rotate_left
 ·(intro w hSw; go_simp; try (with_reducible rfl))
 try simp only [Act.put, List.setIfInBounds_toArray, List.set_cons_zero, List.set_cons_succ]
 refine takeA 4 ?_ rfl ?_ ?_; rotate_left
 ·(intro w hSw; go_simp; try (with_reducible rfl))
 try simp only [Act.put, List.setIfInBounds_toArray, List.set_cons_zero, List.set_cons_succ]
 refine takeA 5 ?_ rfl ?_ ?_; rotate_left
 ·(intro w hSw; go_simp; try (with_reducible rfl))
 try simp only [Act.put, List.setIfInBounds_toArray, List.set_cons_zero, List.set_cons_succ]
 refine takeA 6 ?_ rfl ?_ ?_; rotate_left
 ·(intro w hSw; go_simp; try (with_reducible rfl))
 try simp only [Act.put, List.setIfInBounds_toArray, List.set_cons_zero, List.set_cons_succ]
 refine takeA 7 ?_ rfl ?_ ?_; rotate_left
 ·(intro w hSw; go_simp; try (with_reducible rfl))
 try simp only [Act.put, List.setIfInBounds_toArray, List.set_cons_zero, List.set_cons_succ]
 refine takeA 8 ?_ rfl ?_ ?_; rotate_left
 ·(intro w hSw; go_simp; try (with_reducible rfl))
 try simp only [Act.put, List.setIfInBounds_toArray, List.set_cons_zero, List.set_cons_succ]
 apply shareN (M := fun gx wz => NextV wN gx wz)
 ·intro hE
  have near := Below.refl wN.heap.size wN
  refine stepTwo (i1 := 9) (i2 := 14) (by kernel_rfl) rfl rfl (by rfl) (by rfl) (fun K hK => ?_) (fun K hK => ?_)
  ·go_simp
   (with_reducible refine (NX.out _ (gCall low near)).mono ?_); rintro e wx ⟨rfl, hbz⟩
   replace near := gCall near hbz
   try clear hNow
   have hNow := (And.intro (callC near hHeld.1) (callC near hHeld.2))
   refine hK.out _ _ hNow ?_
   clear hK K
   try simp only [Act.put]
   try simp only [List.setIfInBounds_toArray, List.set_cons_zero, List.set_cons_succ]
   refine takeA 10 ?_ rfl ?_ ?_; rotate_left
   ·(intro w hSw; go_simp; try (with_reducible rfl))
   try simp only [Act.put, List.setIfInBounds_toArray, List.set_cons_zero, List.set_cons_succ]
   refine takeA 11 ?_ rfl ?_ ?_; rotate_left
   ·(intro w hSw; go_simp; try (with_reducible rfl))
   try simp only [Act.put, List.setIfInBounds_toArray, List.set_cons_zero, List.set_cons_succ]
   refine takeA 12 ?_ rfl ?_ ?_; rotate_left
   ·(intro w hSw; go_simp; try (with_reducible rfl))
   try simp only [Act.put, List.setIfInBounds_toArray, List.set_cons_zero, List.set_cons_succ]
   refine takeA 13 ?_ rfl ?_ ?_; rotate_left
   ·(intro w hSw; go_simp; try (with_reducible rfl))
   try simp only [Act.put, List.setIfInBounds_toArray, List.set_cons_zero, List.set_cons_succ]
   clear hbz
   refine stepNext (i := 14) (by kernel_rfl) rfl (by rfl) (fun K hK => ?_)
   refine op_newW tyDeed4 ?_
   obtain ⟨gx, HG⟩ : ∃ gx, Hid (wx.heap.size = gx) := ⟨_, Lib.hid rfl⟩
   have new : wN.heap.size ≤ gx := by rw [← HG.out]; exact near.size
   replace near := gAlloc near (.cells deed0A 49)
   have box := Box.new wx 49 deed0A
   try clear hNow
   have hNow := (And.intro (callC near hHeld.1) (callC near hHeld.2))
   refine hK.out _ _ hNow ?_
   clear hK K
   try simp only [Act.put]
   try simp only [List.setIfInBounds_toArray, List.set_cons_zero, List.set_cons_succ]
   rw [HG.out] at box ⊢
   generalize wx.alloc (.cells deed0A 49) = wy at near box hNow ⊢
   refine relist (l2 := #[true, true, true, true, true, true, true, true, true, true, true, true, true, true, true, false, false, false]) (by kernel_rfl) ?_
   exact hE _ _ ⟨near, new, box⟩
  ·refine op_newW tyDeed4 ?_
   obtain ⟨gx, HG⟩ : ∃ gx, Hid (wN.heap.size = gx) := ⟨_, Lib.hid rfl⟩
   have new : wN.heap.size ≤ gx := by rw [← HG.out]; exact near.size
   replace near := gAlloc near (.cells deed0A 49)
   have box := Box.new wN 49 deed0A
   try clear hNow
   have hNow := (And.intro (callC near hHeld.1) (callC near hHeld.2))
   refine hK.out _ _ hNow ?_
   clear hK K
   try simp only [Act.put]
   try simp only [List.setIfInBounds_toArray, List.set_cons_zero, List.set_cons_succ]
   rw [HG.out] at box ⊢
   generalize wN.alloc (.cells deed0A 49) = wx at near box hNow ⊢
   refine stepNext (i := 9) (by kernel_rfl) rfl (by rfl) (fun K hK => ?_)
   go_simp
   (with_reducible refine (NX.out _ (gCall low near)).mono ?_); rintro e wy ⟨rfl, hbz⟩
   replace near := gCall near hbz
   try clear hNow
   have hNow := (And.intro (callC near hHeld.1) (callC near hHeld.2))
   refine hK.out _ _ hNow ?_
   clear hK K
   try simp only [Act.put]
   try simp only [List.setIfInBounds_toArray, List.set_cons_zero, List.set_cons_succ]
   refine takeA 10 ?_ rfl ?_ ?_; rotate_left
   ·(intro w hSw; go_simp; try (with_reducible rfl))
   try simp only [Act.put, List.setIfInBounds_toArray, List.set_cons_zero, List.set_cons_succ]
   refine takeA 11 ?_ rfl ?_ ?_; rotate_left
   ·(intro w hSw; go_simp; try (with_reducible rfl))
   try simp only [Act.put, List.setIfInBounds_toArray, List.set_cons_zero, List.set_cons_succ]
   refine takeA 12 ?_ rfl ?_ ?_; rotate_left
   ·(intro w hSw; go_simp; try (with_reducible rfl))
   try simp only [Act.put, List.setIfInBounds_toArray, List.set_cons_zero, List.set_cons_succ]
   refine takeA 13 ?_ rfl ?_ ?_; rotate_left
   ·(intro w hSw; go_simp; try (with_reducible rfl))
   try simp only [Act.put, List.setIfInBounds_toArray, List.set_cons_zero, List.set_cons_succ]
   replace box := box.call hbz
   refine relist (l2 := #[true, true, true, true, true, true, true, true, true, true, true, true, true, true, true, false, false, false]) (by kernel_rfl) ?_
   exact hE _ _ ⟨near, new, box⟩
 intro gd wz nv
 refine stepNext (i := 15) (by kernel_rfl) rfl (by rfl) (fun K hK => ?_)
 refine wp_store_box 49 (.tmp 8) (.tmp 27) rfl _ (deedA d) rfl rfl nv.box (tyDeed4.size.trans rfl) rfl (deedA_one d) ?_
 intro w4 db st
 have near := st.low nv.low nv.new
 have gnew := nv.new
 try clear hNow
 have hNow := (And.intro (callC near hHeld.1) (callC near hHeld.2))
 refine hK.out _ _ hNow ?_
 clear hK K
 try simp only [Act.put]
 try simp only [List.setIfInBounds_toArray, List.set_cons_zero, List.set_cons_succ]
 refine takeA 16 ?_ rfl ?_ ?_; rotate_left
 ·(intro w hSw; go_simp; try (with_reducible rfl))
 try simp only [Act.put, List.setIfInBounds_toArray, List.set_cons_zero, List.set_cons_succ]
 refine takeA 17 ?_ rfl ?_ ?_; rotate_left
 ·(intro w hSw; go_simp; try (with_reducible rfl))
 try simp only [Act.put, List.setIfInBounds_toArray, List.set_cons_zero, List.set_cons_succ]
 refine wpAnyH_done (by kernel_rfl) ?_ _
 refine NoPanic.normal ?_
 have gdn : w.heap.size ≤ gd := Nat.le_trans low.size gnew
 replace low := gCall low near
 clear hNow near st nv gnew
 have bx4 := bx.call low
 have rg := run_wld bx4
 clear bx
 go_wp2_with fail
 refine wp_region_noPanic ?_
 refine wp_region_held_drew (S := fun w' => Box w' g 127 (runA M.n M.s M.y M.b (.slice A0 M.css.length c0) M.mem (.slice A1 M.ring.length c1) (.slice A2 M.pr.length c2) (.slice A3 M.at_.length c3) (.slice A4 M.wts.length c4) M.had (.slice A5 ev.length c5)) ∧ Box w' gd 49 (deedA d)) (by kernel_rfl) ⟨bx4.drew, db.drew⟩ (fun hHeld => ?_)
 replace low := low.drew
 replace db := db.drew
 generalize w4.drew = wM at *
 clear bx4 rg
 refine takeA 0 ?_ rfl ?_ ?_; rotate_left
 ·(intro w hSw; go_simp; try (with_reducible rfl))
 try simp only [Act.put, List.setIfInBounds_toArray, List.set_cons_zero, List.set_cons_succ]
 refine takeA 1 ?_ rfl ?_ ?_; rotate_left
 ·(intro w hSw; go_simp; try (with_reducible rfl))
 try simp only [Act.put, List.setIfInBounds_toArray, List.set_cons_zero, List.set_cons_succ]
 refine takeA 2 ?_ rfl ?_ ?_; rotate_left
 ·(intro w hSw; go_simp; try (with_reducible rfl))
 try simp only [Act.put, List.setIfInBounds_toArray, List.set_cons_zero, List.set_cons_succ]
 refine takeFirst (i := 3) (v := .agg (#[.int .i64 M.n, .int .i64 M.s, .int .i64 M.y, .int .i64 M.b])) rfl (by kernel_rfl) (by kernel_rfl) (by kernel_rfl) (by rfl) (fun _ _ _ h => h) (fun _ hSw => exec_loadW tyCfg4 rfl (run_cfg hSw.1) (rfl)) (by assumption) ?_
 try simp only [Act.put]
 try simp only [List.setIfInBounds_toArray, List.set_cons_zero, List.set_cons_succ]
 refine takeA 4 ?_ rfl ?_ ?_; rotate_left
 ·(intro w hSw; go_simp; try (with_reducible rfl))
 try simp only [Act.put, List.setIfInBounds_toArray, List.set_cons_zero, List.set_cons_succ]
 refine takeA 5 ?_ rfl ?_ ?_; rotate_left
 ·(intro w hSw; go_simp; try (with_reducible rfl))
 try simp only [Act.put, List.setIfInBounds_toArray, List.set_cons_zero, List.set_cons_succ]
 refine takeA 6 ?_ rfl ?_ ?_; rotate_left
 ·(intro w hSw; go_simp; try (with_reducible rfl))
 try simp only [Act.put, List.setIfInBounds_toArray, List.set_cons_zero, List.set_cons_succ]
 refine takeFirst (i := 7) (v := .agg (wldA (.slice A0 M.css.length c0) M.mem)) rfl (by kernel_rfl) (by kernel_rfl) (by kernel_rfl) (by rfl) (fun _ _ _ h => h) (fun _ hSw => exec_loadW tyWorld rfl (run_wld hSw.1) (wld_size m64)) (by assumption) ?_
 try simp only [Act.put]
 try simp only [List.setIfInBounds_toArray, List.set_cons_zero, List.set_cons_succ]
 refine takeFirst (i := 8) (v := .agg (deedA d)) rfl (by kernel_rfl) (by kernel_rfl) (by kernel_rfl) (by rfl) (fun _ _ _ h => h) (fun _ hSw => exec_loadW tyDeed4 rfl (Box.range hSw.2) (rfl)) (by assumption) ?_
 try simp only [Act.put]
 try simp only [List.setIfInBounds_toArray, List.set_cons_zero, List.set_cons_succ]
 apply shareP (M := fun gv gt A c n m f1 f2 f3 f4 wz => Two wM 31 nilW 180 done0 wz (some gv) (some gt) ∧ m.length = 64 ∧ Gave wz wM.heap.size (idleB M.css d) (didF M.n M.s M.y M.b M.css M.mem d).1 (didF M.n M.s M.y M.b M.css M.mem d).2 A c n m)
 ·intro hE
  have mid := Two.start wM 31 nilW 180 done0
  refine stepThree (i1 := 9) (i2 := 14) (i3 := 15) (by kernel_rfl) rfl rfl rfl (by rfl) (by rfl) (by rfl) (fun K hK => ?_) (fun K hK => ?_) (fun K hK => ?_)
  ·go_simp
   (with_reducible refine (Calls.mono (DD.out _ (gCall low mid.low)) ?_)); rintro e wa ⟨⟨A9, c9, n9, m9, f1, f2, f3, f4, rfl, hm9, gv⟩, hbz⟩
   have G := Lib.hid (gv.more mid.low.size)
   replace mid := mid.call hbz
   clear hbz gv
   try clear hNow
   have hNow := And.intro (hHeld.1.call mid.low) (hHeld.2.call mid.low)
   refine hK.out _ _ hNow ?_
   clear hK K
   try simp only [Act.put]
   try simp only [List.setIfInBounds_toArray, List.set_cons_zero, List.set_cons_succ]
   refine takeA 10 ?_ rfl ?_ ?_; rotate_left
   ·(intro w hSw; go_simp; try (with_reducible rfl))
   try simp only [Act.put, List.setIfInBounds_toArray, List.set_cons_zero, List.set_cons_succ]
   refine takeA 11 ?_ rfl ?_ ?_; rotate_left
   ·(intro w hSw; go_simp; try (with_reducible rfl))
   try simp only [Act.put, List.setIfInBounds_toArray, List.set_cons_zero, List.set_cons_succ]
   refine takeA 12 ?_ rfl ?_ ?_; rotate_left
   ·(intro w hSw; go_simp; try (with_reducible rfl))
   try simp only [Act.put, List.setIfInBounds_toArray, List.set_cons_zero, List.set_cons_succ]
   refine takeA 13 ?_ rfl ?_ ?_; rotate_left
   ·(intro w hSw; go_simp; try (with_reducible rfl))
   try simp only [Act.put, List.setIfInBounds_toArray, List.set_cons_zero, List.set_cons_succ]
   refine stepTwo (i1 := 14) (i2 := 15) (by kernel_rfl) rfl rfl (by rfl) (by rfl) (fun K hK => ?_) (fun K hK => ?_)
   ·refine op_newW tyWorld ?_
    replace mid := mid.allocA
    replace G := Lib.hid (G.out.call (gAlloc (Below.refl wa.heap.size wa) (.cells nilW 31)))
    try clear hNow
    have hNow := And.intro (hHeld.1.call mid.low) (hHeld.2.call mid.low)
    refine hK.out _ _ hNow ?_
    clear hK K
    try simp only [Act.put]
    try simp only [List.setIfInBounds_toArray, List.set_cons_zero, List.set_cons_succ]
    generalize wa.heap.size = gv at mid ⊢
    generalize wa.alloc (.cells nilW 31) = wb1 at mid hNow G ⊢
    refine stepNext (i := 15) (by kernel_rfl) rfl (by rfl) (fun K hK => ?_)
    refine op_newW tyDone ?_
    replace mid := mid.allocB
    replace G := Lib.hid (G.out.call (gAlloc (Below.refl wb1.heap.size wb1) (.cells done0 180)))
    try clear hNow
    have hNow := And.intro (hHeld.1.call mid.low) (hHeld.2.call mid.low)
    refine hK.out _ _ hNow ?_
    clear hK K
    try simp only [Act.put]
    try simp only [List.setIfInBounds_toArray, List.set_cons_zero, List.set_cons_succ]
    generalize wb1.heap.size = gt at mid ⊢
    generalize wb1.alloc (.cells done0 180) = wc at mid hNow G ⊢
    refine relist (l2 := #[true, true, true, true, true, true, true, true, true, true, true, true, true, true, true, true, false, false, false]) (by kernel_rfl) ?_
    exact hE gv gt A9 c9 n9 m9 f1 f2 f3 f4 _ ⟨mid, hm9, G.out⟩
   ·refine op_newW tyDone ?_
    replace mid := mid.allocB
    replace G := Lib.hid (G.out.call (gAlloc (Below.refl wa.heap.size wa) (.cells done0 180)))
    try clear hNow
    have hNow := And.intro (hHeld.1.call mid.low) (hHeld.2.call mid.low)
    refine hK.out _ _ hNow ?_
    clear hK K
    try simp only [Act.put]
    try simp only [List.setIfInBounds_toArray, List.set_cons_zero, List.set_cons_succ]
    generalize wa.heap.size = gt at mid ⊢
    generalize wa.alloc (.cells done0 180) = wb1 at mid hNow G ⊢
    refine stepNext (i := 14) (by kernel_rfl) rfl (by rfl) (fun K hK => ?_)
    refine op_newW tyWorld ?_
    replace mid := mid.allocA
    replace G := Lib.hid (G.out.call (gAlloc (Below.refl wb1.heap.size wb1) (.cells nilW 31)))
    try clear hNow
    have hNow := And.intro (hHeld.1.call mid.low) (hHeld.2.call mid.low)
    refine hK.out _ _ hNow ?_
    clear hK K
    try simp only [Act.put]
    try simp only [List.setIfInBounds_toArray, List.set_cons_zero, List.set_cons_succ]
    generalize wb1.heap.size = gv at mid ⊢
    generalize wb1.alloc (.cells nilW 31) = wc at mid hNow G ⊢
    refine relist (l2 := #[true, true, true, true, true, true, true, true, true, true, true, true, true, true, true, true, false, false, false]) (by kernel_rfl) ?_
    exact hE gv gt A9 c9 n9 m9 f1 f2 f3 f4 _ ⟨mid, hm9, G.out⟩
  ·refine op_newW tyWorld ?_
   replace mid := mid.allocA
   try clear hNow
   have hNow := And.intro (hHeld.1.call mid.low) (hHeld.2.call mid.low)
   refine hK.out _ _ hNow ?_
   clear hK K
   try simp only [Act.put]
   try simp only [List.setIfInBounds_toArray, List.set_cons_zero, List.set_cons_succ]
   generalize wM.heap.size = gv at mid ⊢
   generalize wM.alloc (.cells nilW 31) = wa at mid hNow ⊢
   refine stepTwo (i1 := 9) (i2 := 15) (by kernel_rfl) rfl rfl (by rfl) (by rfl) (fun K hK => ?_) (fun K hK => ?_)
   ·go_simp
    (with_reducible refine (Calls.mono (DD.out _ (gCall low mid.low)) ?_)); rintro e wb1 ⟨⟨A9, c9, n9, m9, f1, f2, f3, f4, rfl, hm9, gv⟩, hbz⟩
    have G := Lib.hid (gv.more mid.low.size)
    replace mid := mid.call hbz
    clear hbz gv
    try clear hNow
    have hNow := And.intro (hHeld.1.call mid.low) (hHeld.2.call mid.low)
    refine hK.out _ _ hNow ?_
    clear hK K
    try simp only [Act.put]
    try simp only [List.setIfInBounds_toArray, List.set_cons_zero, List.set_cons_succ]
    refine takeA 10 ?_ rfl ?_ ?_; rotate_left
    ·(intro w hSw; go_simp; try (with_reducible rfl))
    try simp only [Act.put, List.setIfInBounds_toArray, List.set_cons_zero, List.set_cons_succ]
    refine takeA 11 ?_ rfl ?_ ?_; rotate_left
    ·(intro w hSw; go_simp; try (with_reducible rfl))
    try simp only [Act.put, List.setIfInBounds_toArray, List.set_cons_zero, List.set_cons_succ]
    refine takeA 12 ?_ rfl ?_ ?_; rotate_left
    ·(intro w hSw; go_simp; try (with_reducible rfl))
    try simp only [Act.put, List.setIfInBounds_toArray, List.set_cons_zero, List.set_cons_succ]
    refine takeA 13 ?_ rfl ?_ ?_; rotate_left
    ·(intro w hSw; go_simp; try (with_reducible rfl))
    try simp only [Act.put, List.setIfInBounds_toArray, List.set_cons_zero, List.set_cons_succ]
    refine stepNext (i := 15) (by kernel_rfl) rfl (by rfl) (fun K hK => ?_)
    refine op_newW tyDone ?_
    replace mid := mid.allocB
    replace G := Lib.hid (G.out.call (gAlloc (Below.refl wb1.heap.size wb1) (.cells done0 180)))
    try clear hNow
    have hNow := And.intro (hHeld.1.call mid.low) (hHeld.2.call mid.low)
    refine hK.out _ _ hNow ?_
    clear hK K
    try simp only [Act.put]
    try simp only [List.setIfInBounds_toArray, List.set_cons_zero, List.set_cons_succ]
    generalize wb1.heap.size = gt at mid ⊢
    generalize wb1.alloc (.cells done0 180) = wc at mid hNow G ⊢
    refine relist (l2 := #[true, true, true, true, true, true, true, true, true, true, true, true, true, true, true, true, false, false, false]) (by kernel_rfl) ?_
    exact hE gv gt A9 c9 n9 m9 f1 f2 f3 f4 _ ⟨mid, hm9, G.out⟩
   ·refine op_newW tyDone ?_
    replace mid := mid.allocB
    try clear hNow
    have hNow := And.intro (hHeld.1.call mid.low) (hHeld.2.call mid.low)
    refine hK.out _ _ hNow ?_
    clear hK K
    try simp only [Act.put]
    try simp only [List.setIfInBounds_toArray, List.set_cons_zero, List.set_cons_succ]
    generalize wa.heap.size = gt at mid ⊢
    generalize wa.alloc (.cells done0 180) = wb1 at mid hNow ⊢
    refine stepNext (i := 9) (by kernel_rfl) rfl (by rfl) (fun K hK => ?_)
    go_simp
    (with_reducible refine (Calls.mono (DD.out _ (gCall low mid.low)) ?_)); rintro e wc ⟨⟨A9, c9, n9, m9, f1, f2, f3, f4, rfl, hm9, gv⟩, hbz⟩
    have G := Lib.hid (gv.more mid.low.size)
    replace mid := mid.call hbz
    clear hbz gv
    try clear hNow
    have hNow := And.intro (hHeld.1.call mid.low) (hHeld.2.call mid.low)
    refine hK.out _ _ hNow ?_
    clear hK K
    try simp only [Act.put]
    try simp only [List.setIfInBounds_toArray, List.set_cons_zero, List.set_cons_succ]
    refine takeA 10 ?_ rfl ?_ ?_; rotate_left
    ·(intro w hSw; go_simp; try (with_reducible rfl))
    try simp only [Act.put, List.setIfInBounds_toArray, List.set_cons_zero, List.set_cons_succ]
    refine takeA 11 ?_ rfl ?_ ?_; rotate_left
    ·(intro w hSw; go_simp; try (with_reducible rfl))
    try simp only [Act.put, List.setIfInBounds_toArray, List.set_cons_zero, List.set_cons_succ]
    refine takeA 12 ?_ rfl ?_ ?_; rotate_left
    ·(intro w hSw; go_simp; try (with_reducible rfl))
    try simp only [Act.put, List.setIfInBounds_toArray, List.set_cons_zero, List.set_cons_succ]
    refine takeA 13 ?_ rfl ?_ ?_; rotate_left
    ·(intro w hSw; go_simp; try (with_reducible rfl))
    try simp only [Act.put, List.setIfInBounds_toArray, List.set_cons_zero, List.set_cons_succ]
    refine relist (l2 := #[true, true, true, true, true, true, true, true, true, true, true, true, true, true, true, true, false, false, false]) (by kernel_rfl) ?_
    exact hE gv gt A9 c9 n9 m9 f1 f2 f3 f4 _ ⟨mid, hm9, G.out⟩
  ·refine op_newW tyDone ?_
   replace mid := mid.allocB
   try clear hNow
   have hNow := And.intro (hHeld.1.call mid.low) (hHeld.2.call mid.low)
   refine hK.out _ _ hNow ?_
   clear hK K
   try simp only [Act.put]
   try simp only [List.setIfInBounds_toArray, List.set_cons_zero, List.set_cons_succ]
   generalize wM.heap.size = gt at mid ⊢
   generalize wM.alloc (.cells done0 180) = wa at mid hNow ⊢
   refine stepTwo (i1 := 9) (i2 := 14) (by kernel_rfl) rfl rfl (by rfl) (by rfl) (fun K hK => ?_) (fun K hK => ?_)
   ·go_simp
    (with_reducible refine (Calls.mono (DD.out _ (gCall low mid.low)) ?_)); rintro e wb1 ⟨⟨A9, c9, n9, m9, f1, f2, f3, f4, rfl, hm9, gv⟩, hbz⟩
    have G := Lib.hid (gv.more mid.low.size)
    replace mid := mid.call hbz
    clear hbz gv
    try clear hNow
    have hNow := And.intro (hHeld.1.call mid.low) (hHeld.2.call mid.low)
    refine hK.out _ _ hNow ?_
    clear hK K
    try simp only [Act.put]
    try simp only [List.setIfInBounds_toArray, List.set_cons_zero, List.set_cons_succ]
    refine takeA 10 ?_ rfl ?_ ?_; rotate_left
    ·(intro w hSw; go_simp; try (with_reducible rfl))
    try simp only [Act.put, List.setIfInBounds_toArray, List.set_cons_zero, List.set_cons_succ]
    refine takeA 11 ?_ rfl ?_ ?_; rotate_left
    ·(intro w hSw; go_simp; try (with_reducible rfl))
    try simp only [Act.put, List.setIfInBounds_toArray, List.set_cons_zero, List.set_cons_succ]
    refine takeA 12 ?_ rfl ?_ ?_; rotate_left
    ·(intro w hSw; go_simp; try (with_reducible rfl))
    try simp only [Act.put, List.setIfInBounds_toArray, List.set_cons_zero, List.set_cons_succ]
    refine takeA 13 ?_ rfl ?_ ?_; rotate_left
    ·(intro w hSw; go_simp; try (with_reducible rfl))
    try simp only [Act.put, List.setIfInBounds_toArray, List.set_cons_zero, List.set_cons_succ]
    refine stepNext (i := 14) (by kernel_rfl) rfl (by rfl) (fun K hK => ?_)
    refine op_newW tyWorld ?_
    replace mid := mid.allocA
    replace G := Lib.hid (G.out.call (gAlloc (Below.refl wb1.heap.size wb1) (.cells nilW 31)))
    try clear hNow
    have hNow := And.intro (hHeld.1.call mid.low) (hHeld.2.call mid.low)
    refine hK.out _ _ hNow ?_
    clear hK K
    try simp only [Act.put]
    try simp only [List.setIfInBounds_toArray, List.set_cons_zero, List.set_cons_succ]
    generalize wb1.heap.size = gv at mid ⊢
    generalize wb1.alloc (.cells nilW 31) = wc at mid hNow G ⊢
    refine relist (l2 := #[true, true, true, true, true, true, true, true, true, true, true, true, true, true, true, true, false, false, false]) (by kernel_rfl) ?_
    exact hE gv gt A9 c9 n9 m9 f1 f2 f3 f4 _ ⟨mid, hm9, G.out⟩
   ·refine op_newW tyWorld ?_
    replace mid := mid.allocA
    try clear hNow
    have hNow := And.intro (hHeld.1.call mid.low) (hHeld.2.call mid.low)
    refine hK.out _ _ hNow ?_
    clear hK K
    try simp only [Act.put]
    try simp only [List.setIfInBounds_toArray, List.set_cons_zero, List.set_cons_succ]
    generalize wa.heap.size = gv at mid ⊢
    generalize wa.alloc (.cells nilW 31) = wb1 at mid hNow ⊢
    refine stepNext (i := 9) (by kernel_rfl) rfl (by rfl) (fun K hK => ?_)
    go_simp
    (with_reducible refine (Calls.mono (DD.out _ (gCall low mid.low)) ?_)); rintro e wc ⟨⟨A9, c9, n9, m9, f1, f2, f3, f4, rfl, hm9, gv⟩, hbz⟩
    have G := Lib.hid (gv.more mid.low.size)
    replace mid := mid.call hbz
    clear hbz gv
    try clear hNow
    have hNow := And.intro (hHeld.1.call mid.low) (hHeld.2.call mid.low)
    refine hK.out _ _ hNow ?_
    clear hK K
    try simp only [Act.put]
    try simp only [List.setIfInBounds_toArray, List.set_cons_zero, List.set_cons_succ]
    refine takeA 10 ?_ rfl ?_ ?_; rotate_left
    ·(intro w hSw; go_simp; try (with_reducible rfl))
    try simp only [Act.put, List.setIfInBounds_toArray, List.set_cons_zero, List.set_cons_succ]
    refine takeA 11 ?_ rfl ?_ ?_; rotate_left
    ·(intro w hSw; go_simp; try (with_reducible rfl))
    try simp only [Act.put, List.setIfInBounds_toArray, List.set_cons_zero, List.set_cons_succ]
    refine takeA 12 ?_ rfl ?_ ?_; rotate_left
    ·(intro w hSw; go_simp; try (with_reducible rfl))
    try simp only [Act.put, List.setIfInBounds_toArray, List.set_cons_zero, List.set_cons_succ]
    refine takeA 13 ?_ rfl ?_ ?_; rotate_left
    ·(intro w hSw; go_simp; try (with_reducible rfl))
    try simp only [Act.put, List.setIfInBounds_toArray, List.set_cons_zero, List.set_cons_succ]
    refine relist (l2 := #[true, true, true, true, true, true, true, true, true, true, true, true, true, true, true, true, false, false, false]) (by kernel_rfl) ?_
    exact hE gv gt A9 c9 n9 m9 f1 f2 f3 f4 _ ⟨mid, hm9, G.out⟩
 intro gv gt A c n m f1 f2 f3 f4 wz two_hm_G
 obtain ⟨two, hm, G0⟩ := two_hm_G
 have sm : (wldA (.slice A n c) m).size = nilW.size := wld_size hm
 have om : (wldA (.slice A n c) m).all (·.oneCell') = true := wldA_one _
 have vn := (two.fa _ rfl).1
 have tn := (two.fb _ rfl).1
 refine stepNext (i := 16) (by kernel_rfl) rfl (by rfl) (fun K hK => ?_)
 refine wp_store_box 31 (.tmp 11) (.tmp 44) rfl _ (wldA (.slice A n c) m) rfl rfl (two.fa _ rfl).2 (tyWorld.size.trans (congrArg some sm.symm)) sm.symm om ?_
 intro w5 vb st5
 have near := st5.low two.low vn
 have tb := st5.box (two.fb _ rfl).2 (fun e => two.ne _ _ rfl rfl e.symm)
 have G5 := Lib.hid (G0.kept st5 (two.fa _ rfl).2 (by decide) (by decide) (by decide))
 have hNow := And.intro (hHeld.1.call near) (hHeld.2.call near)
 refine hK.out _ _ hNow ?_
 clear hK K
 try simp only [Act.put]
 try simp only [List.setIfInBounds_toArray, List.set_cons_zero, List.set_cons_succ]
 refine stepNext (i := 17) (by kernel_rfl) rfl (by rfl) (fun K hK => ?_)
 refine wp_store_box 180 (.tmp 12) (.tmp 45) rfl _ (doneA (toldM M d) f1 f2 f3 f4) rfl rfl tb (tyDone.size.trans rfl) rfl (done_one _ _ _ _ _) ?_
 intro w6 tb6 st6
 have near6 := st6.low near tn
 have vb6 := st6.box vb (fun e => two.ne _ _ rfl rfl e)
 have G6 := Lib.hid (G5.out.kept st6 tb (by decide) (by decide) (by decide))
 have hNow2 := And.intro (hHeld.1.call near6) (hHeld.2.call near6)
 refine hK.out _ _ hNow2 ?_
 clear hK K
 try simp only [Act.put]
 try simp only [List.setIfInBounds_toArray, List.set_cons_zero, List.set_cons_succ]
 refine takeA 18 ?_ rfl ?_ ?_; rotate_left
 ·(intro w hSw; go_simp; try (with_reducible rfl))
 try simp only [Act.put, List.setIfInBounds_toArray, List.set_cons_zero, List.set_cons_succ]
 refine wpAnyH_done (by kernel_rfl) ?_ _
 refine NoPanic.normal ?_
 have db6 := db.call near6
 have lz := low.size
 replace low := gCall low near6
 have gl := H.out.lt
 have H6 := Lib.hid (H.out.call low)
 have G7 := Lib.hid (G6.out.more lz)
 clear hHeld hNow hNow2 st5 st6 near near6 two tb G0 G5 G6 vb db
 have AB := H.out.aB
 have GB := H.out.gB
 generalize hu : toldM M d = u at *
 have HU := Lib.hid hu
 generalize hE : idleE M d = E at *
 have HE := Lib.hid hE
 clear hu hE hnd
 have x20 : x < 20 := by have := LL.out; omega
 cases hi : idleB M.css d with
 | true =>
  have e5 : E = 5 := by rw [← HE.out]; unfold idleE; rw [if_pos hi]
  have em : mid1 M d = M := by unfold mid1; rw [if_pos hi]
  subst e5
  have H7R : RunS w6 B g ga (mid1 M d) ev := by rw [em]; exact H6.out
  have FRM := Lib.hid (Frame.call (ga := ga) low)
  clear em
  have H7 := Lib.hid H7R
  obtain ⟨B0, d0, B1, d1, B2, d2, B3, d3, B4, d4, B5, d5, bx7, _, _, _, _, _, _, ia7, re7⟩ := H7.out.read
  obtain ⟨cap, eia, hcap⟩ := ia7.shape
  injection eia with q1 _ q3
  subst q1 q3
  have AT1 := Lib.hid (show (mid1 M d).at_ = M.at_ by unfold mid1; split <;> rfl)
  have HX7 : (mid1 M d).at_[k]? = some x := by rw [AT1.out]; exact HX.out
  have c71 := (run_cells bx7 H7.out.m64).2.2.2.1
  have c74 := (run_cells bx7 H7.out.m64).2.2.2.2.2.2
  have cat := ia7.at_ HX7
  have fat := ia7.free k
  have ktl : (k : Int) < (mid1 M d).at_.length := by have := (List.getElem?_eq_some_iff.1 HX7).1; omega
  have ST8 := Lib.hid (Stored.cell1 w6 ⟨ga, k, none⟩ (.int .i64 (x + 1)))
  obtain ⟨H8, FR8⟩ := H7.out.setAt k (x + 1)
  have low8 := ST8.out.low (low.mono (by have := H.out.lt; omega)) H7.out.aB
  have db8 := FR8 gd _ _ (by decide) (by decide) (by omega) db6
  have tb8 := FR8 gt _ _ (by decide) (by decide) (by omega) tb6
  have H8' := Lib.hid H8
  have FR8' := Lib.hid (FRM.out.trans FR8)
  clear H8 FR8 bx7 ia7 re7 ST8 H7 FRM
  go_wp2_with fail
  have al8 : ({ mid1 M d with at_ := (mid1 M d).at_.set k (x + 1) } : Mc) = perf didF M k d := by rw [perf_mid M k d HX.out, AT1.out]
  rw [al8] at H8'
  generalize w6.setCell ⟨ga, k, none⟩ (.int .i64 (x + 1)) = w8 at *
  clear c71 c74 cat fat ktl AT1 HX7 al8
  obtain ⟨B0, d0, B1, d1, B2, d2, B3, d3, B4, d4, B5, d5, bx8, _, _, _, _, _, _, _, re8⟩ := H8'.out.read
  have c74 := (run_cells bx8 H8'.out.m64).2.2.2.2.2.2
  have RE8 := Lib.hid re8
  clear bx8 re8
  refine wp_region_noPanic ?_
  refine wp_region_held_drew (S := fun w' => Box w' gd 49 (deedA d) ∧ Box w' gt 180 (doneA u f1 f2 f3 f4)) (by kernel_rfl) ⟨db8.drew, tb8.drew⟩ (fun hHeld => ?_)
  have H9 := Lib.hid (H8'.out.call (Below.refl _ _).drew)
  have FR9 := Lib.hid (FR8'.out.trans (Frame.call (ga := ga) (Below.refl w8.heap.size w8).drew))
  have low9 := low8.drew
  have RE9 := Lib.hid (own_below RE8.out (Below.refl _ _).drew)
  replace c74 := drewC c74
  clear H8' FR8' low8 RE8 db8 tb8
  generalize w8.drew = wy at *
  refine takeA 0 ?_ rfl ?_ ?_; rotate_left
  ·(intro w hSw; go_simp; try (with_reducible rfl))
  try simp only [Act.put, List.setIfInBounds_toArray, List.set_cons_zero, List.set_cons_succ]
  refine takeA 1 ?_ rfl ?_ ?_; rotate_left
  ·(intro w hSw; go_simp; try (with_reducible rfl))
  try simp only [Act.put, List.setIfInBounds_toArray, List.set_cons_zero, List.set_cons_succ]
  refine takeA 2 ?_ rfl ?_ ?_; rotate_left
  ·(intro w hSw; go_simp; try (with_reducible rfl))
  try simp only [Act.put, List.setIfInBounds_toArray, List.set_cons_zero, List.set_cons_succ]
  refine takeA 3 ?_ rfl ?_ ?_; rotate_left
  ·(intro w hSw; go_simp; try (with_reducible rfl))
  try simp only [Act.put, List.setIfInBounds_toArray, List.set_cons_zero, List.set_cons_succ]
  refine takeFirst (i := 5) (v := .agg (deedA d)) rfl (by kernel_rfl) (by kernel_rfl) (by kernel_rfl) (by rfl) (fun _ _ _ h => h) (fun _ hSw => exec_loadW tyDeed4 rfl (Box.range hSw.1) (rfl)) (by assumption) ?_
  try simp only [Act.put]
  try simp only [List.setIfInBounds_toArray, List.set_cons_zero, List.set_cons_succ]
  refine takeA 6 ?_ rfl ?_ ?_; rotate_left
  ·(intro w hSw; go_simp; try (with_reducible rfl))
  try simp only [Act.put, List.setIfInBounds_toArray, List.set_cons_zero, List.set_cons_succ]
  refine takeFirst (i := 7) (v := .int .u64 u) rfl (by kernel_rfl) (by kernel_rfl) (by kernel_rfl) (by rfl) (fun _ _ _ h => h) (fun w' hSw => by have c9 := hSw.2.at_ 0 rfl; go_simp) (by assumption) ?_
  try simp only [Act.put]
  try simp only [List.setIfInBounds_toArray, List.set_cons_zero, List.set_cons_succ]
  refine takeA 8 ?_ rfl ?_ ?_; rotate_left
  ·(intro w hSw; go_simp; try (with_reducible rfl))
  try simp only [Act.put, List.setIfInBounds_toArray, List.set_cons_zero, List.set_cons_succ]
  refine takeFirst (i := 9) (v := .agg #[.int .i64 d.nd, .int .i64 d.kd, .int .i64 d.ad, .int .u64 d.vl, .int .u64 u, .bool bb]) rfl (by kernel_rfl) (by kernel_rfl) (by kernel_rfl) (by rfl) (fun _ _ _ h => h) (fun _ _ => exec_buildE rfl rfl rfl) (by assumption) ?_
  try simp only [Act.put]
  try simp only [List.setIfInBounds_toArray, List.set_cons_zero, List.set_cons_succ]
  have alc := gAlloc (Below.refl wy.heap.size wy) (.cells #[.int .i64 d.nd, .int .i64 d.kd, .int .i64 d.ad, .int .u64 d.vl, .int .u64 u, .bool bb] 51)
  have c74b := allocC (.cells #[.int .i64 d.nd, .int .i64 d.kd, .int .i64 d.ad, .int .u64 d.vl, .int .u64 u, .bool bb] 51) c74
  have hNext := And.intro (hHeld.1.call alc) (hHeld.2.call alc)
  apply share0
  ·intro hE
   refine stepTwo (i1 := 4) (i2 := 10) (by kernel_rfl) rfl rfl (by rfl) (by rfl) (fun K hK => ?_) (fun K hK => ?_)
   ·go_simp
    refine hK.out _ _ hHeld ?_
    clear hK K
    try simp only [Act.put]
    try simp only [List.setIfInBounds_toArray, List.set_cons_zero, List.set_cons_succ]
    refine stepNext (i := 10) (by kernel_rfl) rfl (by rfl) (fun K hK => ?_)
    go_simp
    refine hK.out _ _ hNext ?_
    clear hK K
    try simp only [Act.put]
    try simp only [List.setIfInBounds_toArray, List.set_cons_zero, List.set_cons_succ]
    refine relist (l2 := #[true, true, true, true, true, true, true, true, true, true, true, false, false, false, false]) (by kernel_rfl) ?_
    exact hE
   ·go_simp
    refine hK.out _ _ hNext ?_
    clear hK K
    try simp only [Act.put]
    try simp only [List.setIfInBounds_toArray, List.set_cons_zero, List.set_cons_succ]
    refine stepNext (i := 4) (by kernel_rfl) rfl (by rfl) (fun K hK => ?_)
    go_simp
    refine hK.out _ _ hNext ?_
    clear hK K
    try simp only [Act.put]
    try simp only [List.setIfInBounds_toArray, List.set_cons_zero, List.set_cons_succ]
    refine relist (l2 := #[true, true, true, true, true, true, true, true, true, true, true, false, false, false, false]) (by kernel_rfl) ?_
    exact hE
  have H10 := Lib.hid (H9.out.call alc)
  have FR10 := Lib.hid (FR9.out.trans (Frame.call (ga := ga) alc))
  have RE10 := Lib.hid (own_below RE9.out alc)
  have low10 := low9.trans (alc.mono (B' := B) (by have := H9.out.lt; have := H9.out.gB; omega))
  have news := Lib.hid fun j u' h => event_new wy ⟨d, u, bb⟩ j u' h
  clear H9 FR9 low9 RE9 hHeld alc c74
  generalize hw10 : wy.alloc (.cells #[.int .i64 d.nd, .int .i64 d.kd, .int .i64 d.ad, .int .u64 d.vl, .int .u64 u, .bool bb] 51) = w10 at *
  have lz10 : B ≤ w10.heap.size := by have := H10.out.lt; have := H10.out.gB; omega
  clear hw10
  refine stepNext (i := 11) (by kernel_rfl) rfl (by rfl) (fun K hK => ?_)
  refine wp_append_own _ (.tmp 70) (.tmp 76) 42 rfl B 51 i0 (.agg #[.int .i64 0, .int .i64 0, .int .i64 0, .int .u64 0, .int .u64 0, .bool false]) 6 48 Tryz.underlying42 HI.out HZ.out.1 HZ.out.2.1 HZ.out.2.2 rfl (by decide) _ _ _ rfl RE10.out ⟨wy.heap.size, 0, none⟩ 1 1 (Ev.cells ⟨d, u, bb⟩) rfl rfl news.out (elE.one _) ?f3 ?f4 ?f5 ?_
  case f3 => unfold maxLen; omega
  case f4 => omega
  case f5 => exact lz10
  intro v4 w4 own4 grow4 _
  rw [show elE.C ev ++ Ev.cells ⟨d, u, bb⟩ = elE.C (ev ++ [⟨d, u, bb⟩]) from (elE.C_snoc ev ⟨d, u, bb⟩).symm] at own4
  have own4' : w4.ownsRow B 51 6 v4 (ev ++ [(⟨d, u, bb⟩ : Ev)]).length (elE.C (ev ++ [⟨d, u, bb⟩])) := by rw [List.length_append]; exact own4
  have bel := (Below.refl B w10).grown grow4 lz10 (fun g e => (RE10.out.lt _ e).1)
  have hNx := And.intro (hNext.1.grown grow4 (own_ne RE10.out hNext.1 (by decide))) (hNext.2.grown grow4 (own_ne RE10.out hNext.2 (by decide)))
  obtain ⟨H11, FR11⟩ := H10.out.setEvents ⟨_, _, rfl⟩ c74b own4' grow4 bel
  have low11 := (Stored.cell1 w4 ⟨g, 74, none⟩ v4).low (low10.trans bel) H10.out.gB
  have bx4' : ∃ cs, Box w4 g 127 cs := by
   obtain ⟨_, _, _, _, _, _, _, _, _, _, _, _, bq, _⟩ := H10.out.read
   exact ⟨_, bq.grown grow4 (own_ne RE10.out bq (by decide))⟩
  obtain ⟨cs4, b4⟩ := bx4'
  have st4 := Stored.cell1 w4 ⟨g, 74, none⟩ v4
  have hNx2 := And.intro (st4.box hNx.1 (boxNe hNx.1 b4 (by decide))) (st4.box hNx.2 (boxNe hNx.2 b4 (by decide)))
  have c744 : ∃ z, w4.cell? ⟨g, 74, none⟩ = some z := ⟨_, grow4.cell c74b (own_ne RE10.out (show Box w10 g 127 _ from H10.out.read.choose_spec.choose_spec.choose_spec.choose_spec.choose_spec.choose_spec.choose_spec.choose_spec.choose_spec.choose_spec.choose_spec.choose_spec.1) (by decide))⟩
  obtain ⟨z4, c74w⟩ := c744
  have f74 := b4.frozen 74
  obtain ⟨A9, c9, rfl⟩ := own_shape own4
  refine hK.out _ _ hNx ?_
  clear hK K
  try simp only [Act.put]
  try simp only [List.setIfInBounds_toArray, List.set_cons_zero, List.set_cons_succ]
  have RS := Lib.hid H11
  have FR := Lib.hid (FR10.out.trans FR11)
  clear H11 FR11 H10 FR10 RE10 own4 own4' grow4 bel c74b
  refine takeA 12 ?_ rfl ?_ ?_; rotate_left
  ·(intro w hSw; go_simp; try (with_reducible rfl))
  try simp only [Act.put, List.setIfInBounds_toArray, List.set_cons_zero, List.set_cons_succ]
  refine takeA 13 ?_ rfl ?_ ?_; rotate_left
  ·(intro w hSw; go_simp; try (with_reducible rfl))
  try simp only [Act.put, List.setIfInBounds_toArray, List.set_cons_zero, List.set_cons_succ]
  refine stepNext (i := 14) (by kernel_rfl) rfl (by rfl) (fun K hK => ?_)
  go_simp
  refine hK.out _ _ hNx2 ?_
  clear hK K
  try simp only [Act.put]
  try simp only [List.setIfInBounds_toArray, List.set_cons_zero, List.set_cons_succ]
  refine wpAnyH_done (by kernel_rfl) ?_ _
  refine NoPanic.normal ?_
  clear hNx hNx2 hNext c74w f74 st4 b4
  go_wp2_with fail
  go_ret
  refine ⟨⟨rfl, ?_, FR.out⟩, low11⟩
  have := RS.out
  rw [show perfE M bb d = ⟨d, u, bb⟩ from by unfold perfE; rw [← HU.out]; rfl]
  exact this
 | false =>
  have e0 : E = 0 := by rw [← HE.out]; unfold idleE; rw [if_neg (by rw [hi]; simp)]
  subst e0
  obtain ⟨en, em, kf⟩ := G7.out hi
  subst en em
  obtain ⟨RA, bx6, b69⟩ : ∃ RA, Box w6 g 127 RA ∧ 69 ≤ RA.size := by
   obtain ⟨_, _, _, _, _, _, _, _, _, _, _, _, bq, _⟩ := H6.out.read
   exact ⟨_, bq, by rw [runA_size m64]; omega⟩
  have vr := vb6.range
  go_wp2_with (first | ((with_reducible refine wp_loadW (tyWorld) (vr) (sm) ?_ ?_ ?_); rfl; rfl) | ((with_reducible refine wpList_storeW4 bx6 b69 hm om ?_ ?_ ?_); rfl; rfl))
  intro w7 e7
  obtain ⟨H7R0, FR7, st7⟩ := H6.out.setWorld hm kf (by omega) (by omega) (by omega) (Nat.le_refl _)
  rw [← e7] at H7R0 FR7 st7
  have em : mid1 M d = { M with css := (didF M.n M.s M.y M.b M.css M.mem d).1, mem := (didF M.n M.s M.y M.b M.css M.mem d).2 } := by unfold mid1; rw [if_neg (by rw [hi]; simp)]
  have H7R : RunS w7 B g ga (mid1 M d) ev := by rw [em]; exact H7R0
  have FRM := Lib.hid ((Frame.call (ga := ga) low).trans FR7)
  have low7 := st7.low (low.mono (B' := B) (by omega)) GB
  have db7 := FR7 gd _ _ (by decide) (by decide) (by omega) db6
  have tb7 := FR7 gt _ _ (by decide) (by decide) (by omega) tb6
  clear em e7 H7R0 FR7 st7 bx6 b69 vr kf low db6 tb6 vb6 sm om hm
  have H7 := Lib.hid H7R
  obtain ⟨B0, d0, B1, d1, B2, d2, B3, d3, B4, d4, B5, d5, bx7, _, _, _, _, _, _, ia7, re7⟩ := H7.out.read
  obtain ⟨cap, eia, hcap⟩ := ia7.shape
  injection eia with q1 _ q3
  subst q1 q3
  have AT1 := Lib.hid (show (mid1 M d).at_ = M.at_ by unfold mid1; split <;> rfl)
  have HX7 : (mid1 M d).at_[k]? = some x := by rw [AT1.out]; exact HX.out
  have c71 := (run_cells bx7 H7.out.m64).2.2.2.1
  have c74 := (run_cells bx7 H7.out.m64).2.2.2.2.2.2
  have cat := ia7.at_ HX7
  have fat := ia7.free k
  have ktl : (k : Int) < (mid1 M d).at_.length := by have := (List.getElem?_eq_some_iff.1 HX7).1; omega
  have ST8 := Lib.hid (Stored.cell1 w7 ⟨ga, k, none⟩ (.int .i64 (x + 1)))
  obtain ⟨H8, FR8⟩ := H7.out.setAt k (x + 1)
  have low8 := ST8.out.low low7 H7.out.aB
  have db8 := FR8 gd _ _ (by decide) (by decide) (by omega) db7
  have tb8 := FR8 gt _ _ (by decide) (by decide) (by omega) tb7
  have H8' := Lib.hid H8
  have FR8' := Lib.hid (FRM.out.trans FR8)
  clear H8 FR8 bx7 ia7 re7 ST8 H7 FRM
  go_wp2_with fail
  have al8 : ({ mid1 M d with at_ := (mid1 M d).at_.set k (x + 1) } : Mc) = perf didF M k d := by rw [perf_mid M k d HX.out, AT1.out]
  rw [al8] at H8'
  generalize w7.setCell ⟨ga, k, none⟩ (.int .i64 (x + 1)) = w8 at *
  clear c71 c74 cat fat ktl AT1 HX7 al8
  obtain ⟨B0, d0, B1, d1, B2, d2, B3, d3, B4, d4, B5, d5, bx8, _, _, _, _, _, _, _, re8⟩ := H8'.out.read
  have c74 := (run_cells bx8 H8'.out.m64).2.2.2.2.2.2
  have RE8 := Lib.hid re8
  clear bx8 re8
  refine wp_region_noPanic ?_
  refine wp_region_held_drew (S := fun w' => Box w' gd 49 (deedA d) ∧ Box w' gt 180 (doneA u f1 f2 f3 f4)) (by kernel_rfl) ⟨db8.drew, tb8.drew⟩ (fun hHeld => ?_)
  have H9 := Lib.hid (H8'.out.call (Below.refl _ _).drew)
  have FR9 := Lib.hid (FR8'.out.trans (Frame.call (ga := ga) (Below.refl w8.heap.size w8).drew))
  have low9 := low8.drew
  have RE9 := Lib.hid (own_below RE8.out (Below.refl _ _).drew)
  replace c74 := drewC c74
  clear H8' FR8' low8 RE8 db8 tb8
  generalize w8.drew = wy at *
  refine takeA 0 ?_ rfl ?_ ?_; rotate_left
  ·(intro w hSw; go_simp; try (with_reducible rfl))
  try simp only [Act.put, List.setIfInBounds_toArray, List.set_cons_zero, List.set_cons_succ]
  refine takeA 1 ?_ rfl ?_ ?_; rotate_left
  ·(intro w hSw; go_simp; try (with_reducible rfl))
  try simp only [Act.put, List.setIfInBounds_toArray, List.set_cons_zero, List.set_cons_succ]
  refine takeA 2 ?_ rfl ?_ ?_; rotate_left
  ·(intro w hSw; go_simp; try (with_reducible rfl))
  try simp only [Act.put, List.setIfInBounds_toArray, List.set_cons_zero, List.set_cons_succ]
  refine takeA 3 ?_ rfl ?_ ?_; rotate_left
  ·(intro w hSw; go_simp; try (with_reducible rfl))
  try simp only [Act.put, List.setIfInBounds_toArray, List.set_cons_zero, List.set_cons_succ]
  refine takeFirst (i := 5) (v := .agg (deedA d)) rfl (by kernel_rfl) (by kernel_rfl) (by kernel_rfl) (by rfl) (fun _ _ _ h => h) (fun _ hSw => exec_loadW tyDeed4 rfl (Box.range hSw.1) (rfl)) (by assumption) ?_
  try simp only [Act.put]
  try simp only [List.setIfInBounds_toArray, List.set_cons_zero, List.set_cons_succ]
  refine takeA 6 ?_ rfl ?_ ?_; rotate_left
  ·(intro w hSw; go_simp; try (with_reducible rfl))
  try simp only [Act.put, List.setIfInBounds_toArray, List.set_cons_zero, List.set_cons_succ]
  refine takeFirst (i := 7) (v := .int .u64 u) rfl (by kernel_rfl) (by kernel_rfl) (by kernel_rfl) (by rfl) (fun _ _ _ h => h) (fun w' hSw => by have c9 := hSw.2.at_ 0 rfl; go_simp) (by assumption) ?_
  try simp only [Act.put]
  try simp only [List.setIfInBounds_toArray, List.set_cons_zero, List.set_cons_succ]
  refine takeA 8 ?_ rfl ?_ ?_; rotate_left
  ·(intro w hSw; go_simp; try (with_reducible rfl))
  try simp only [Act.put, List.setIfInBounds_toArray, List.set_cons_zero, List.set_cons_succ]
  refine takeFirst (i := 9) (v := .agg #[.int .i64 d.nd, .int .i64 d.kd, .int .i64 d.ad, .int .u64 d.vl, .int .u64 u, .bool bb]) rfl (by kernel_rfl) (by kernel_rfl) (by kernel_rfl) (by rfl) (fun _ _ _ h => h) (fun _ _ => exec_buildE rfl rfl rfl) (by assumption) ?_
  try simp only [Act.put]
  try simp only [List.setIfInBounds_toArray, List.set_cons_zero, List.set_cons_succ]
  have alc := gAlloc (Below.refl wy.heap.size wy) (.cells #[.int .i64 d.nd, .int .i64 d.kd, .int .i64 d.ad, .int .u64 d.vl, .int .u64 u, .bool bb] 51)
  have c74b := allocC (.cells #[.int .i64 d.nd, .int .i64 d.kd, .int .i64 d.ad, .int .u64 d.vl, .int .u64 u, .bool bb] 51) c74
  have hNext := And.intro (hHeld.1.call alc) (hHeld.2.call alc)
  apply share0
  ·intro hE
   refine stepTwo (i1 := 4) (i2 := 10) (by kernel_rfl) rfl rfl (by rfl) (by rfl) (fun K hK => ?_) (fun K hK => ?_)
   ·go_simp
    refine hK.out _ _ hHeld ?_
    clear hK K
    try simp only [Act.put]
    try simp only [List.setIfInBounds_toArray, List.set_cons_zero, List.set_cons_succ]
    refine stepNext (i := 10) (by kernel_rfl) rfl (by rfl) (fun K hK => ?_)
    go_simp
    refine hK.out _ _ hNext ?_
    clear hK K
    try simp only [Act.put]
    try simp only [List.setIfInBounds_toArray, List.set_cons_zero, List.set_cons_succ]
    refine relist (l2 := #[true, true, true, true, true, true, true, true, true, true, true, false, false, false, false]) (by kernel_rfl) ?_
    exact hE
   ·go_simp
    refine hK.out _ _ hNext ?_
    clear hK K
    try simp only [Act.put]
    try simp only [List.setIfInBounds_toArray, List.set_cons_zero, List.set_cons_succ]
    refine stepNext (i := 4) (by kernel_rfl) rfl (by rfl) (fun K hK => ?_)
    go_simp
    refine hK.out _ _ hNext ?_
    clear hK K
    try simp only [Act.put]
    try simp only [List.setIfInBounds_toArray, List.set_cons_zero, List.set_cons_succ]
    refine relist (l2 := #[true, true, true, true, true, true, true, true, true, true, true, false, false, false, false]) (by kernel_rfl) ?_
    exact hE
  have H10 := Lib.hid (H9.out.call alc)
  have FR10 := Lib.hid (FR9.out.trans (Frame.call (ga := ga) alc))
  have RE10 := Lib.hid (own_below RE9.out alc)
  have low10 := low9.trans (alc.mono (B' := B) (by have := H9.out.lt; have := H9.out.gB; omega))
  have news := Lib.hid fun j u' h => event_new wy ⟨d, u, bb⟩ j u' h
  clear H9 FR9 low9 RE9 hHeld alc c74
  generalize hw10 : wy.alloc (.cells #[.int .i64 d.nd, .int .i64 d.kd, .int .i64 d.ad, .int .u64 d.vl, .int .u64 u, .bool bb] 51) = w10 at *
  have lz10 : B ≤ w10.heap.size := by have := H10.out.lt; have := H10.out.gB; omega
  clear hw10
  refine stepNext (i := 11) (by kernel_rfl) rfl (by rfl) (fun K hK => ?_)
  refine wp_append_own _ (.tmp 70) (.tmp 76) 42 rfl B 51 i0 (.agg #[.int .i64 0, .int .i64 0, .int .i64 0, .int .u64 0, .int .u64 0, .bool false]) 6 48 Tryz.underlying42 HI.out HZ.out.1 HZ.out.2.1 HZ.out.2.2 rfl (by decide) _ _ _ rfl RE10.out ⟨wy.heap.size, 0, none⟩ 1 1 (Ev.cells ⟨d, u, bb⟩) rfl rfl news.out (elE.one _) ?f3 ?f4 ?f5 ?_
  case f3 => unfold maxLen; omega
  case f4 => omega
  case f5 => exact lz10
  intro v4 w4 own4 grow4 _
  rw [show elE.C ev ++ Ev.cells ⟨d, u, bb⟩ = elE.C (ev ++ [⟨d, u, bb⟩]) from (elE.C_snoc ev ⟨d, u, bb⟩).symm] at own4
  have own4' : w4.ownsRow B 51 6 v4 (ev ++ [(⟨d, u, bb⟩ : Ev)]).length (elE.C (ev ++ [⟨d, u, bb⟩])) := by rw [List.length_append]; exact own4
  have bel := (Below.refl B w10).grown grow4 lz10 (fun g e => (RE10.out.lt _ e).1)
  have hNx := And.intro (hNext.1.grown grow4 (own_ne RE10.out hNext.1 (by decide))) (hNext.2.grown grow4 (own_ne RE10.out hNext.2 (by decide)))
  obtain ⟨H11, FR11⟩ := H10.out.setEvents ⟨_, _, rfl⟩ c74b own4' grow4 bel
  have low11 := (Stored.cell1 w4 ⟨g, 74, none⟩ v4).low (low10.trans bel) H10.out.gB
  have bx4' : ∃ cs, Box w4 g 127 cs := by
   obtain ⟨_, _, _, _, _, _, _, _, _, _, _, _, bq, _⟩ := H10.out.read
   exact ⟨_, bq.grown grow4 (own_ne RE10.out bq (by decide))⟩
  obtain ⟨cs4, b4⟩ := bx4'
  have st4 := Stored.cell1 w4 ⟨g, 74, none⟩ v4
  have hNx2 := And.intro (st4.box hNx.1 (boxNe hNx.1 b4 (by decide))) (st4.box hNx.2 (boxNe hNx.2 b4 (by decide)))
  have c744 : ∃ z, w4.cell? ⟨g, 74, none⟩ = some z := ⟨_, grow4.cell c74b (own_ne RE10.out (show Box w10 g 127 _ from H10.out.read.choose_spec.choose_spec.choose_spec.choose_spec.choose_spec.choose_spec.choose_spec.choose_spec.choose_spec.choose_spec.choose_spec.choose_spec.1) (by decide))⟩
  obtain ⟨z4, c74w⟩ := c744
  have f74 := b4.frozen 74
  obtain ⟨A9, c9, rfl⟩ := own_shape own4
  refine hK.out _ _ hNx ?_
  clear hK K
  try simp only [Act.put]
  try simp only [List.setIfInBounds_toArray, List.set_cons_zero, List.set_cons_succ]
  have RS := Lib.hid H11
  have FR := Lib.hid (FR10.out.trans FR11)
  clear H11 FR11 H10 FR10 RE10 own4 own4' grow4 bel c74b
  refine takeA 12 ?_ rfl ?_ ?_; rotate_left
  ·(intro w hSw; go_simp; try (with_reducible rfl))
  try simp only [Act.put, List.setIfInBounds_toArray, List.set_cons_zero, List.set_cons_succ]
  refine takeA 13 ?_ rfl ?_ ?_; rotate_left
  ·(intro w hSw; go_simp; try (with_reducible rfl))
  try simp only [Act.put, List.setIfInBounds_toArray, List.set_cons_zero, List.set_cons_succ]
  refine stepNext (i := 14) (by kernel_rfl) rfl (by rfl) (fun K hK => ?_)
  go_simp
  refine hK.out _ _ hNx2 ?_
  clear hK K
  try simp only [Act.put]
  try simp only [List.setIfInBounds_toArray, List.set_cons_zero, List.set_cons_succ]
  refine wpAnyH_done (by kernel_rfl) ?_ _
  refine NoPanic.normal ?_
  clear hNx hNx2 hNext c74w f74 st4 b4
  go_wp2_with fail
  go_ret
  refine ⟨⟨rfl, ?_, FR.out⟩, low11⟩
  have := RS.out
  rw [show perfE M bb d = ⟨d, u, bb⟩ from by unfold perfE; rw [← HU.out]; rfl]
  exact this
end Go.Proofs.YtcegjehoejgofaaGreat
namespace Go.Proofs.YtcegjehoejgofaaGreat
open Go.ChangeShapes Go.WideShapes Go.ChangeAt Go.RowKit Go.Joins
theorem int_there {w w' : World} {A : Option Addr} {c : Nat} {xs : List Int} (h : Sl w w.heap.size 1 (.slice A xs.length c) xs.length (xs.map (Value.int .i64))) (low : Below w.heap.size w w') {k : Nat} {x : Int} (hx : xs[k]? = some x) :
  ∃ b o, A = some ⟨b, o, none⟩ ∧ w'.cell? ⟨b, o + k, none⟩ = some (.int .i64 x) ∧ (k : Int) < xs.length := by
 have hk := (List.getElem?_eq_some_iff.1 hx).1
 obtain ⟨_, A', c', e, _, _, h3⟩ := h
 injection e with e1 _ e3
 subst e1 e3
 obtain ⟨b, o, rfl, hb, hc⟩ := h3 (by omega)
 refine ⟨b, o, rfl, (low.cell (p := ⟨b, o + k, none⟩) hb).trans ?_, by omega⟩
 have := hc k (.int .i64 x) (by rw [List.getElem?_map, hx]; rfl)
 simpa using this
theorem prog_there {w w' : World} {A : Option Addr} {c : Nat} {p : List (List Dd)} (h : Ps w (.slice A p.length c) p) (low : Below w.heap.size w w') {k : Nat} {l : List Dd} (hl : p[k]? = some l) :
  ∃ b o A' c', A = some ⟨b, o, none⟩ ∧ w'.cell? ⟨b, o + k, none⟩ = some (.slice A' l.length c') ∧ (k : Int) < p.length := by
 have hk := (List.getElem?_eq_some_iff.1 hl).1
 obtain ⟨A', c', e, _, _, h3⟩ := h.ex
 injection e with e1 _ e3
 subst e1 e3
 obtain ⟨b, o, rfl, hb, hc⟩ := h3 (by omega)
 obtain ⟨A2, c2, cl, _⟩ := hc k l hl
 exact ⟨b, o, A2, c2, rfl, (low.cell (p := ⟨b, o + k, none⟩) hb).trans cl, by omega⟩
set_option maxRecDepth 10000 in
set_option maxHeartbeats 4000000 in
theorem finished_any (v : Value) (M : Mc) (k : Nat) (x : Int) (l : List Dd) (w : World) (h : MRead w v M) (hx : M.at_[k]? = some x) (hl : M.pr[k]? = some l) :
  Calls Tryz.prog 49 #[v, .int .i64 k] w fun e w' => e = .returned (.bool (decide (x = (l.length : Int)))) ∧ Below w.heap.size w w' := by
 have m64 := h.m64
 obtain ⟨A0, c0, A1, c1, A2, c2, A3, c3, A4, c4, rfl, k0, k1, k2, k3, k4⟩ := h.shape
 have CELLS := Lib.hid (fun (W : World) (g : Nat) (hb : Box W g 37 (mcA M.n M.s M.y M.b (.slice A0 M.css.length c0) M.mem (.slice A1 M.ring.length c1) (.slice A2 M.pr.length c2) (.slice A3 M.at_.length c3) (.slice A4 M.wts.length c4) M.had)) => mach_cells hb m64)
 have e : (x == (l.length : Int)) = decide (x = (l.length : Int)) := rfl
 generalize decide (x = (l.length : Int)) = B at e ⊢
 have j0 : (0 : Int) ≤ k := by omega
 clear h k0 k1 k4
 generalize mcA M.n M.s M.y M.b (.slice A0 M.css.length c0) M.mem (.slice A1 M.ring.length c1) (.slice A2 M.pr.length c2) (.slice A3 M.at_.length c3) (.slice A4 M.wts.length c4) M.had = XA at *
 have low := Below.refl w.heap.size w
 have xb := boxNext low 37 XA
 replace low := gAlloc low (.cells XA 37)
 try simp only [World.size_alloc] at xb
 obtain ⟨b, o, rfl, c71, j1⟩ := int_there k3 low hx
 obtain ⟨b2, o2, A', c', rfl, c70, j2⟩ := prog_there k2 low hl
 clear k2 k3 hx hl
 obtain ⟨⟨x0, x1, x2, x3⟩, x69, x70, x71, x72, x73⟩ := CELLS.out _ _ xb
 clear x0 x1 x2 x3 x69 x72 x73
 go_enter Tryz.func49, Tryz.ntmps49
 go_wp2_with fail
 go_quiet (fail)
 go_wp2_with fail
 go_ret
 exact ⟨rfl, gDrewN low _⟩
set_option maxRecDepth 10000 in
set_option maxHeartbeats 4000000 in
theorem nextWait_any (v : Value) (M : Mc) (w : World) (h : MRead w v M) (hh : 0 ≤ M.had) : Calls Tryz.prog 115 #[v] w fun e w' => e = .returned (.int .i64 (waitM M)) ∧ Below w.heap.size w w' := by
 have m64 := h.m64
 obtain ⟨A0, c0, A1, c1, A2, c2, A3, c3, A4, c4, rfl, k0, k1, k2, k3, k4⟩ := h.shape
 obtain ⟨_, A', c', e', l1, l2, _⟩ := id k4
 injection e' with e1 _ e3
 subst e1 e3
 unfold maxLen at l2
 have CELLS := Lib.hid (fun (W : World) (g : Nat) (hb : Box W g 37 (mcA M.n M.s M.y M.b (.slice A0 M.css.length c0) M.mem (.slice A1 M.ring.length c1) (.slice A2 M.pr.length c2) (.slice A3 M.at_.length c3) (.slice A4 M.wts.length c4) M.had)) => mach_cells hb m64)
 have WM := Lib.hid (show waitM M = if M.wts.length = 0 then 0 else M.wts.getD (M.had % M.wts.length).toNat 0 from rfl)
 generalize waitM M = R at WM ⊢
 clear h k0 k1 k2 k3
 generalize mcA M.n M.s M.y M.b (.slice A0 M.css.length c0) M.mem (.slice A1 M.ring.length c1) (.slice A2 M.pr.length c2) (.slice A3 M.at_.length c3) (.slice A4 M.wts.length c4) M.had = XA at *
 have K4 := Lib.hid k4
 clear k4
 have low := Below.refl w.heap.size w
 have xb := boxNext low 37 XA
 replace low := gAlloc low (.cells XA 37)
 try simp only [World.size_alloc] at xb
 obtain ⟨⟨x0, x1, x2, x3⟩, x69, x70, x71, x72, x73⟩ := CELLS.out _ _ xb
 clear x0 x1 x2 x3 x69 x70 x71
 go_enter Tryz.func115, Tryz.ntmps115
 by_cases h0 : M.wts.length = 0
 ·have e : R = 0 := by rw [WM.out, if_pos h0]
  subst e
  have e2 : ((M.wts.length : Int) == 0) = true := by simpa using h0
  go_wp2_with fail
  go_ret
  exact ⟨rfl, low⟩
 ·have e2 : ((M.wts.length : Int) == 0) = false := by simpa using h0
  have e3 : ((M.wts.length : Int) == 0) = false := e2
  obtain ⟨j, hj⟩ : ∃ j : Nat, M.had % (M.wts.length : Int) = j := ⟨(M.had % (M.wts.length : Int)).toNat, by have := Int.emod_nonneg M.had (show (M.wts.length : Int) ≠ 0 by omega); omega⟩
  have hjl : j < M.wts.length := by have := Int.emod_lt_of_pos M.had (show 0 < (M.wts.length : Int) by omega); omega
  have hx : M.wts[j]? = some M.wts[j] := List.getElem?_eq_getElem _
  generalize M.wts[j] = x at hx
  have e : R = x := by rw [WM.out, if_neg h0, hj]; simp [List.getD, hx]
  subst e
  have hm : M.had.tmod (M.wts.length : Int) = j := by rw [Int.tmod_eq_emod_of_nonneg hh]; exact hj
  obtain ⟨b, o, rfl, cx, j1⟩ := int_there K4.out low hx
  have j0 : (0 : Int) ≤ j := by omega
  have l0 : (M.wts.length : Int) ≠ 0 := by omega
  clear hx hj WM
  go_wp2_with fail
  go_quiet (fail)
  go_wp2_with fail
  go_ret
  exact ⟨rfl, gDrewN low _⟩
set_option maxRecDepth 10000 in
set_option maxHeartbeats 4000000 in
theorem hasEnded_is (v : Value) (M : Mc) (w : World) (h : MRead w v M) (hp : M.pr.length = M.at_.length) : Calls Tryz.prog 92 #[v] w fun e w' => e = .returned (.bool (endB M)) ∧ Below w.heap.size w w' := by
 have FA := Lib.hid fun (W : World) (hb : Below w.heap.size w W) k x l hx hl => finished_any v M k x l W (h.call hb) hx hl
 have m64 := h.m64
 obtain ⟨A0, c0, A1, c1, A2, c2, A3, c3, A4, c4, rfl, k0, k1, k2, k3, k4⟩ := h.shape
 have sz : (mcA M.n M.s M.y M.b (.slice A0 M.css.length c0) M.mem (.slice A1 M.ring.length c1) (.slice A2 M.pr.length c2) (.slice A3 M.at_.length c3) (.slice A4 M.wts.length c4) M.had).size = (mcA 0 0 0 0 (.slice none 0 0) zeroL (.slice none 0 0) (.slice none 0 0) (.slice none 0 0) (.slice none 0 0) 0).size := by rw [mcA_size m64, mcA_size zeroL_length]
 generalize hE : endB M = E
 have HE := Lib.hid hE
 obtain ⟨_, _, _, p1, p2, _⟩ := k2.ex
 unfold maxLen at p2
 clear h k0 k1 k2 k3 k4 hE
 have CELLS := Lib.hid (fun (W : World) (g : Nat) (hb : Box W g 37 (mcA M.n M.s M.y M.b (.slice A0 M.css.length c0) M.mem (.slice A1 M.ring.length c1) (.slice A2 M.pr.length c2) (.slice A3 M.at_.length c3) (.slice A4 M.wts.length c4) M.had)) => mach_cells hb m64)
 generalize mcA M.n M.s M.y M.b (.slice A0 M.css.length c0) M.mem (.slice A1 M.ring.length c1) (.slice A2 M.pr.length c2) (.slice A3 M.at_.length c3) (.slice A4 M.wts.length c4) M.had = XA at *
 have low := Below.refl w.heap.size w
 have xb := boxNext low 37 XA
 replace low := gAlloc low (.cells XA 37)
 try simp only [World.size_alloc] at xb
 obtain ⟨⟨x0, x1, x2, x3⟩, x69, x70, x71, x72, x73⟩ := CELLS.out _ _ xb
 go_enter Tryz.func92, Tryz.ntmps92
 go_wp2_with fail
 clear x0 x1 x2 x3 x69 x70 x71 x72 x73
 go_loopw [7] (fun i wr => ∃ j : Nat, j ≤ M.pr.length ∧ i = .int .i64 j ∧ Hid (∀ k, k < j → M.at_.getD k 0 = ((M.pr.getD k []).length : Int)) ∧ Box wr w.heap.size 37 XA ∧ Below w.heap.size w wr) (fun i _ => M.pr.length - (intOf i).toNat)
 case atStart => exact ⟨0, Nat.zero_le _, rfl, Lib.hid (fun k hk => by omega), xb, low⟩
 case round =>
  clear xb low
  obtain ⟨j, hj, rfl, hok, xb, low⟩ := hrel
  by_cases hlt : j < M.pr.length
  ·have hx : M.at_[j]? = some (M.at_[j]'(by omega)) := List.getElem?_eq_getElem _
   have hy : M.pr[j]? = some (M.pr[j]'(by omega)) := List.getElem?_eq_getElem _
   generalize (M.at_[j]'(by omega)) = x at hx
   generalize M.pr[j]'(by omega) = l at hy
   have gx : M.at_.getD j 0 = x := by simp [List.getD, hx]
   have gy : M.pr.getD j [] = l := by simp [List.getD, hy]
   have FC := Lib.hid (FA.out wr low j x l hx hy)
   have BAD := Lib.hid (show decide (x = (l.length : Int)) = false → E = false from fun h => by
    rw [← HE.out]
    unfold endB
    rw [List.all_eq_false]
    exact ⟨j, by simp; omega, by rw [gx, gy]; simpa using h⟩)
   have NX := Lib.hid (show decide (x = (l.length : Int)) = true → ∀ k, k < j + 1 → M.at_.getD k 0 = ((M.pr.getD k []).length : Int) from fun h k hk => by
    by_cases e : k = j
    ·rw [e, gx, gy]; simpa using h
    ·exact hok.out k (by omega))
   generalize decide (x = (l.length : Int)) = D at *
   have j0 : (0 : Int) ≤ j := by omega
   have j2 : (j : Int) < M.pr.length := by omega
   have rx := xb.range
   clear hx hy gx gy hok
   go_wp2_with ((with_reducible refine wp_loadW (tyMach) (rx) (sz) ?_ ?_ ?_); rfl; rfl)
   (with_reducible refine FC.out.mono ?_); rintro e w2 ⟨rfl, hb⟩
   replace xb := xb.call hb
   replace low := gCall low hb
   clear hb rx FC
   cases D
   ·have e4 := BAD.out rfl
    subst e4
    go_wp2_with fail
    go_ret
    exact ⟨rfl, low⟩
   ·have N2 := Lib.hid (NX.out rfl)
    clear BAD NX
    go_wp2_with fail
    go_roundw
    case rel => exact ⟨j + 1, by omega, by go_num, N2, xb, low⟩
    case measure => simp [intOf]; omega
  ·obtain rfl : j = M.pr.length := by omega
   have e1 : E = true := by
    rw [← HE.out]
    unfold endB
    rw [List.all_eq_true]
    intro k hk
    have := hok.out k (by have : k < M.at_.length := (by simpa using hk); omega)
    simpa using this
   subst e1
   go_wp2_with fail
   go_ret
   exact ⟨rfl, low⟩
end Go.Proofs.YtcegjehoejgofaaGreat
namespace Go.Proofs.YtcegjehoejgofaaGreat
open Go.ChangeShapes Go.WideShapes Go.ChangeAt Go.RowKit Go.Joins
def idxI (p : Int → Bool) (l : List Int) : Int := match l.findIdx? p with | some k => k | none => -1
theorem idxI_none {p : Int → Bool} {l : List Int} (h : ∀ (k : Nat) x, l[k]? = some x → p x = false) : idxI p l = -1 := by
 have : l.findIdx? p = none := by
  rw [List.findIdx?_eq_none_iff]
  intro x hx
  obtain ⟨k, hk, e⟩ := List.getElem_of_mem hx
  exact h k x (by rw [List.getElem?_eq_getElem hk, e])
 rw [idxI, this]
theorem idxI_some {p : Int → Bool} {l : List Int} {k : Nat} {x : Int} (h : ∀ j y, j < k → l[j]? = some y → p y = false) (hk : l[k]? = some x) (hp : p x = true) : idxI p l = k := by
 have : l.findIdx? p = some k := by
  rw [List.findIdx?_eq_some_iff_getElem]
  obtain ⟨hlt, e⟩ := List.getElem?_eq_some_iff.1 hk
  refine ⟨hlt, by rw [e]; exact hp, fun j hj => ?_⟩
  rw [h j _ hj (List.getElem?_eq_getElem (by omega))]
  decide
 rw [idxI, this]
theorem idxI_cases (p : Int → Bool) (l : List Int) : (idxI p l = -1 ∧ ∀ x ∈ l, p x = false) ∨ ∃ k x, idxI p l = (k : Nat) ∧ l[k]? = some x ∧ p x = true ∧ ∀ j y, j < k → l[j]? = some y → p y = false := by
 cases e : l.findIdx? p with
 | none =>
  refine .inl ⟨by rw [idxI, e], ?_⟩
  rw [List.findIdx?_eq_none_iff] at e
  exact e
 | some k =>
  refine .inr ?_
  have e' := e
  rw [List.findIdx?_eq_some_iff_getElem] at e
  obtain ⟨hk, e1, e2⟩ := e
  refine ⟨k, l[k], by rw [idxI, e'], List.getElem?_eq_getElem hk, e1, fun j y hj hy => ?_⟩
  obtain ⟨hlt, rfl⟩ := List.getElem?_eq_some_iff.1 hy
  simpa using e2 j hj
end Go.Proofs.YtcegjehoejgofaaGreat
namespace Go.Proofs.YtcegjehoejgofaaGreat
open Go.ChangeShapes Go.WideShapes Go.ChangeAt Go.RowKit Go.Joins
theorem idxI_any (p : Int → Bool) (l : List Int) : decide (0 ≤ idxI p l) = l.any p := by
 rcases idxI_cases p l with ⟨e, h⟩ | ⟨k, x, e, hx, hp, _⟩
 ·rw [e, List.any_eq_false.2 (fun x hx => by rw [h x hx]; decide)]; rfl
 ·rw [e, List.any_eq_true.2 ⟨x, List.mem_of_getElem? hx, hp⟩]
  exact decide_eq_true (by omega)
theorem all_any (p : Int → Bool) : ∀ l : List Int, l.all p = !(l.any fun x => !p x)
 | [] => rfl
 | x :: r => by rw [List.all_cons, List.any_cons, all_any p r, Bool.not_or, Bool.not_not]
theorem badWait_any (x : Int) (w : World) : Calls Tryz.prog 71 #[.int .i64 x] w fun e w' => e = .returned (.bool (!waitB x)) ∧ w' = w := by
 unfold waitB
 go_enter Tryz.func71, Tryz.ntmps71
 by_cases h1 : x < 0
 ·have e : decide (0 ≤ x ∧ x ≤ 9) = false := decide_eq_false (by omega)
  rw [e]
  have e2 : decide (x < 0) = true := decide_eq_true h1
  go_wp2_with fail
  go_ret
  exact ⟨rfl, rfl⟩
 ·have e2 : decide (x < 0) = false := decide_eq_false h1
  by_cases h2 : 9 < x
  ·have e : decide (0 ≤ x ∧ x ≤ 9) = false := decide_eq_false (by omega)
   rw [e]
   have e3 : decide (9 < x) = true := decide_eq_true h2
   go_wp2_with fail
   go_ret
   exact ⟨rfl, rfl⟩
  ·have e : decide (0 ≤ x ∧ x ≤ 9) = true := decide_eq_true (by omega)
   rw [e]
   have e3 : decide (9 < x) = false := decide_eq_false h2
   go_wp2_with fail
   go_ret
   exact ⟨rfl, rfl⟩
theorem indexBad_any (v : Value) (l : List Int) (w : World) (h : Sl w w.heap.size 1 v l.length (l.map (Value.int .i64))) :
  Calls Tryz.prog 95 #[v, .func (.func 71) #[] #[]] w fun e w' => e = .returned (.int .i64 (idxI (fun x => !waitB x) l)) ∧ Below w.heap.size w w' := by
 have eg : ∀ args w, (callFunc 71 args).run Tryz.prog w = .ok (.enter 71 args) w := fun _ _ => by kernel_rfl
 obtain ⟨_, A, c, rfl, h1, h2, h3⟩ := h
 have H3 := Lib.hid h3
 have CC := Lib.hid badWait_any
 unfold maxLen at h2
 clear h3
 have low := Below.refl w.heap.size w
 go_enter Tryz.func95, Tryz.ntmps95
 go_wp2_with fail
 go_loopw [8] (fun i wr => ∃ j : Nat, j ≤ l.length ∧ i = .int .i64 j ∧ Hid (∀ q y, q < j → l[q]? = some y → (!waitB y) = false) ∧ Below w.heap.size w wr) (fun i _ => l.length - (intOf i).toNat)
 case atStart => exact ⟨0, Nat.zero_le _, rfl, Lib.hid fun q y hq => absurd hq (by omega), low⟩
 case round =>
  clear low
  obtain ⟨j, hj, rfl, hno, low⟩ := hrel
  by_cases hlt : j < l.length
  ·obtain ⟨b, o, rfl, hb, hc⟩ := H3.out (by omega)
   have hx : l[j]? = some l[j] := List.getElem?_eq_getElem _
   generalize l[j] = x at hx
   have c0 : wr.cell? ⟨b, o + j, none⟩ = some (.int .i64 x) := (low.cell (p := ⟨b, o + j, none⟩) hb).trans (by have := hc j (.int .i64 x) (by rw [List.getElem?_map, hx]; rfl); simpa using this)
   have HX := Lib.hid hx
   have S := Lib.hid (CC.out x wr)
   have j0 : (0 : Int) ≤ j := by omega
   have j1 : (j : Int) < l.length := by omega
   clear hx hc
   generalize hp : (!waitB x) = B at S
   have HP := Lib.hid hp
   clear hp
   go_wp2_with fail
   (with_reducible refine S.out.mono ?_); rintro e w2 ⟨rfl, rfl⟩
   clear c0
   have NX := Lib.hid (show B = false → ∀ q y, q < j + 1 → l[q]? = some y → (!waitB y) = false from fun hb q y hq hy => by
    by_cases e : q < j
    ·exact hno.out q y e hy
    ·obtain rfl : q = j := by omega
     rw [HX.out] at hy
     cases hy
     rw [HP.out]; exact hb)
   cases B
   ·have N2 := Lib.hid (NX.out rfl)
    clear NX
    go_wp2_with fail
    go_roundw
    case rel => exact ⟨j + 1, by omega, by go_num, N2, low⟩
    case measure => simp [intOf]; omega
   ·go_wp2_with fail
    go_ret
    exact ⟨by rw [idxI_some hno.out HX.out HP.out]; rfl, low⟩
  ·go_wp2_with fail
   go_ret
   exact ⟨by rw [idxI_none (fun k x hx => hno.out k x (by have := (List.getElem?_eq_some_iff.1 hx).1; omega) hx)]; rfl, low⟩
theorem hasBad_any (v : Value) (l : List Int) (w : World) (h : Sl w w.heap.size 1 v l.length (l.map (Value.int .i64))) :
  Calls Tryz.prog 72 #[v, .func (.func 71) #[] #[]] w fun e w' => e = .returned (.bool (l.any fun x => !waitB x)) ∧ Below w.heap.size w w' := by
 have I := Lib.hid (indexBad_any v l w h)
 obtain ⟨_, A, c, rfl, _⟩ := h
 rw [← idxI_any]
 generalize idxI (fun x => !waitB x) l = r at I ⊢
 have low := Below.refl w.heap.size w
 go_enter Tryz.func72, Tryz.ntmps72
 go_wp2_with fail
 (with_reducible refine (Calls.mono I.out ?_)); rintro e w2 ⟨rfl, hb⟩
 replace low := gCall low hb
 clear hb
 go_wp2_with fail
 go_ret
 exact ⟨rfl, low⟩
theorem areWaits_any (v : Value) (l : List Int) (w : World) (h : Sl w w.heap.size 1 v l.length (l.map (Value.int .i64))) :
  Calls Tryz.prog 38 #[v] w fun e w' => e = .returned (.bool (waitsB l)) ∧ Below w.heap.size w w' := by
 have I := Lib.hid (hasBad_any v l w h)
 have hw : waitsB l = (decide (l.length ≤ 20) && !(l.any fun x => !waitB x)) := by
  unfold waitsB
  rw [all_any]
 rw [hw]
 clear hw
 obtain ⟨_, A, c, rfl, h1, h2, _⟩ := h
 unfold maxLen at h2
 generalize (l.any fun x => !waitB x) = r at I ⊢
 have low := Below.refl w.heap.size w
 go_enter Tryz.func38, Tryz.ntmps38
 by_cases h20 : 20 < l.length
 ·have e : decide (l.length ≤ 20) = false := decide_eq_false (by omega)
  have e2 : decide ((l.length : Int) ≤ 20) = false := decide_eq_false (by omega)
  rw [e]
  go_wp2_with fail
  go_ret
  exact ⟨rfl, low⟩
 ·have e : decide (l.length ≤ 20) = true := decide_eq_true (by omega)
  have e2 : decide ((l.length : Int) ≤ 20) = true := decide_eq_true (by omega)
  rw [e]
  go_wp2_with fail
  (with_reducible refine (Calls.mono I.out ?_)); rintro e w2 ⟨rfl, hb⟩
  replace low := gCall low hb
  clear hb
  go_wp2_with fail
  go_ret
  exact ⟨by simp, low⟩
end Go.Proofs.YtcegjehoejgofaaGreat
namespace Go.Proofs.YtcegjehoejgofaaGreat
open Go.ChangeShapes Go.WideShapes Go.ChangeAt Go.RowKit Go.Joins
theorem indexSlotIn (F : Nat) (eg : ∀ args w, (callFunc F args).run Tryz.prog w = .ok (.enter F args) w) (g : Nat) (p : Sw → Bool) (v : Value) (l : List Sw) (w : World) (h : Rs w v l)
  (C : ∀ x W, x ∈ l → Below w.heap.size w W → Calls Tryz.prog F #[x.val, .pointer (some ⟨g, 0, none⟩)] W fun e w' => e = .returned (.bool (p x)) ∧ Below W.heap.size W w') :
  Calls Tryz.prog 80 #[v, .func (.func F) #[] #[.pointer (some ⟨g, 0, none⟩)]] w fun e w' => e = .returned (.int .i64 (idxS p l)) ∧ Below w.heap.size w w' := by
 obtain ⟨_, A, c, rfl, h1, h2, h3⟩ := h
 have H3 := Lib.hid h3
 have CC := Lib.hid C
 unfold maxLen at h2
 clear h3 C
 have low := Below.refl w.heap.size w
 go_enter Tryz.func80, Tryz.ntmps80
 go_wp2_with fail
 go_loopw [8] (fun i wr => ∃ j : Nat, j ≤ l.length ∧ i = .int .i64 j ∧ Hid (∀ q y, q < j → l[q]? = some y → p y = false) ∧ Below w.heap.size w wr) (fun i _ => l.length - (intOf i).toNat)
 case atStart => exact ⟨0, Nat.zero_le _, rfl, Lib.hid fun q y hq => absurd hq (by omega), low⟩
 case round =>
  clear low
  obtain ⟨j, hj, rfl, hno, low⟩ := hrel
  by_cases hlt : j < l.length
  ·obtain ⟨b, o, rfl, hb, hc⟩ := H3.out (by omega)
   have hx : l[j]? = some l[j] := List.getElem?_eq_getElem _
   generalize l[j] = x at hx
   obtain ⟨c0, c1, c2, c3⟩ := slotAt_of hc hb low hx
   have HX := Lib.hid hx
   have S := Lib.hid (CC.out x wr (List.mem_of_getElem? hx) low)
   have j0 : (0 : Int) ≤ j := by omega
   have j1 : (j : Int) < l.length := by omega
   clear hx hc
   generalize hp : p x = B at S
   have HP := Lib.hid hp
   clear hp
   go_wp2_with fail
   (with_reducible refine S.out.mono ?_); rintro e w2 ⟨rfl, hb2⟩
   replace low := gCall low hb2
   clear hb2 c0 c1 c2 c3
   cases B
   ·go_wp2_with fail
    go_roundw
    case rel => exact ⟨j + 1, by omega, by go_num, Lib.hid (uptoS hno.out HX.out HP.out), low⟩
    case measure => simp [intOf]; omega
   ·go_wp2_with fail
    go_ret
    exact ⟨by rw [idxS_some hno.out HX.out HP.out]; rfl, low⟩
  ·go_wp2_with fail
   go_ret
   exact ⟨by rw [idxS_none (allS hno.out hlt)]; rfl, low⟩
theorem containsSlotIn (F : Nat) (eg : ∀ args w, (callFunc F args).run Tryz.prog w = .ok (.enter F args) w) (g : Nat) (p : Sw → Bool) (v : Value) (l : List Sw) (w : World) (h : Rs w v l)
  (C : ∀ x W, x ∈ l → Below w.heap.size w W → Calls Tryz.prog F #[x.val, .pointer (some ⟨g, 0, none⟩)] W fun e w' => e = .returned (.bool (p x)) ∧ Below W.heap.size W w') :
  Calls Tryz.prog 47 #[v, .func (.func F) #[] #[.pointer (some ⟨g, 0, none⟩)]] w fun e w' => e = .returned (.bool (l.any p)) ∧ Below w.heap.size w w' := by
 have I := Lib.hid (indexSlotIn F eg g p v l w h C)
 obtain ⟨A, c, rfl⟩ := h.shape
 clear h C
 rw [← idxS_any]
 generalize idxS p l = r at I ⊢
 have low := Below.refl w.heap.size w
 go_enter Tryz.func47, Tryz.ntmps47
 go_wp2_with fail
 (with_reducible refine (Calls.mono I.out ?_)); rintro e w2 ⟨rfl, hb⟩
 replace low := gCall low hb
 clear hb
 go_wp2_with fail
 go_ret
 exact ⟨rfl, low⟩
theorem away1_any (x : Sw) (node : Int) (g : Nat) (w : World) (hc : w.cell? ⟨g, 0, none⟩ = some (.int .i64 node)) :
  Calls Tryz.prog 112 #[x.val, .pointer (some ⟨g, 0, none⟩)] w fun e w' => e = .returned (.bool (filS node x)) ∧ Below w.heap.size w w' := by
 obtain ⟨a, f, n, t⟩ := x
 have hg := block_lt_of_cell hc
 unfold filS
 have low := Below.refl w.heap.size w
 have sb := boxNext low 122 #[.int .i64 a, .bool f, .int .i64 n, .int .i64 t]
 replace low := gAlloc low (.cells #[.int .i64 a, .bool f, .int .i64 n, .int .i64 t] 122)
 try simp only [World.size_alloc] at sb
 have hc2 := allocC (.cells #[.int .i64 a, .bool f, .int .i64 n, .int .i64 t] 122) hc
 have s1 := sb.at_ 1 rfl
 have s2 := sb.at_ 2 rfl
 clear hc
 go_enter Tryz.func112, Tryz.ntmps112
 cases f
 ·go_wp2_with fail
  go_ret
  exact ⟨rfl, low⟩
 ·go_wp2_with fail
  go_ret
  exact ⟨by simp, low⟩
theorem isAway_any (v : Value) (l : List Sw) (node : Int) (w : World) (h : Rs w v l) :
  Calls Tryz.prog 87 #[v, .int .i64 node] w fun e w' => e = .returned (.bool (filB l node)) ∧ Below w.heap.size w w' := by
 have CON := Lib.hid (fun (W : World) (hr : Rs W v l) (hc : Box W w.heap.size 3 #[.int .i64 node]) => containsSlotIn 112 (fun _ _ => by kernel_rfl) w.heap.size (filS node) v l W hr (fun x W' _ hb => away1_any x node w.heap.size W' ((hc.call hb).at_ 0 rfl)))
 obtain ⟨A, c, rfl⟩ := h.shape
 unfold filB
 generalize l.any (filS node) = r at CON ⊢
 have low := Below.refl w.heap.size w
 have nb := boxNext low 3 #[.int .i64 node]
 replace low := gAlloc low (.cells #[.int .i64 node] 3)
 replace h := h.alloc (.cells #[.int .i64 node] 3)
 try simp only [World.size_alloc] at nb
 go_enter Tryz.func87, Tryz.ntmps87
 go_wp2_with fail
 (with_reducible refine (CON.out _ h nb).mono ?_); rintro e w2 ⟨rfl, hb⟩
 replace low := gCall low hb
 clear hb nb
 go_wp2_with fail
 go_ret
 exact ⟨rfl, low⟩
def finS (M : Mc) (x : Sw) : Bool := x.fu && decide (M.at_.getD x.nd.toNat 0 = ((M.pr.getD x.nd.toNat []).length : Int))
theorem stuck_any {M : Mc} (h : ∀ x ∈ M.ring, 0 ≤ x.nd ∧ x.nd < (M.at_.length : Int)) : M.ring.any (finS M) = stuckB M := by
 rw [Bool.eq_iff_iff]
 unfold stuckB
 rw [List.any_eq_true, List.any_eq_true]
 constructor
 ·rintro ⟨x, hx, e⟩
  unfold finS at e
  rw [Bool.and_eq_true] at e
  have := h x hx
  refine ⟨x.nd.toNat, List.mem_range.2 (by omega), ?_⟩
  rw [Bool.and_eq_true]
  refine ⟨e.2, ?_⟩
  rw [filB_iff]
  exact ⟨x, hx, e.1, by omega⟩
 ·rintro ⟨k, hk, e⟩
  rw [Bool.and_eq_true] at e
  obtain ⟨x, hx, f, n⟩ := filB_iff.1 e.2
  refine ⟨x, hx, ?_⟩
  unfold finS
  rw [f, n, Bool.true_and]
  exact e.1
set_option maxRecDepth 10000 in
set_option maxHeartbeats 4000000 in
theorem stuck1_any (v : Value) (M : Mc) (x : Sw) (g : Nat) (w : World) (h : MRead w v M) (hb : ∃ XA, v = .agg XA ∧ Box w g 37 XA) (hn : 0 ≤ x.nd ∧ x.nd < (M.at_.length : Int)) (hp : M.pr.length = M.at_.length) :
  Calls Tryz.prog 48 #[x.val, .pointer (some ⟨g, 0, none⟩)] w fun e w' => e = .returned (.bool (finS M x)) ∧ Below w.heap.size w w' := by
 obtain ⟨XA, rfl, xb⟩ := hb
 have m64 := h.m64
 have sz : XA.size = (mcA 0 0 0 0 (.slice none 0 0) zeroL (.slice none 0 0) (.slice none 0 0) (.slice none 0 0) (.slice none 0 0) 0).size := by
  obtain ⟨_, u, rv, pv, av, tv, e, _⟩ := h
  cases e
  rw [mcA_size m64, mcA_size zeroL_length]
 obtain ⟨a, f, n, t⟩ := x
 simp only at hn
 obtain ⟨k, rfl⟩ : ∃ k : Nat, n = k := ⟨n.toNat, by omega⟩
 have hx : M.at_[k]? = some (M.at_[k]'(by omega)) := List.getElem?_eq_getElem _
 have hy : M.pr[k]? = some (M.pr[k]'(by omega)) := List.getElem?_eq_getElem _
 generalize (M.at_[k]'(by omega)) = z at hx
 generalize M.pr[k]'(by omega) = l at hy
 have FA := Lib.hid fun (W : World) (hb : Below w.heap.size w W) => finished_any _ M k z l W (h.call hb) hx hy
 have e : finS M ⟨a, f, k, t⟩ = (f && decide (z = (l.length : Int))) := by
  unfold finS
  have gx : M.at_.getD k 0 = z := by simp [List.getD, hx]
  have gy : M.pr.getD k [] = l := by simp [List.getD, hy]
  simp only [Int.toNat_natCast, gx, gy]
 rw [e]
 generalize decide (z = (l.length : Int)) = D at FA ⊢
 clear e h hx hy hn hp
 have low := Below.refl w.heap.size w
 have sb := boxNext low 122 #[.int .i64 a, .bool f, .int .i64 k, .int .i64 t]
 replace low := gAlloc low (.cells #[.int .i64 a, .bool f, .int .i64 k, .int .i64 t] 122)
 replace xb := xb.alloc (.cells #[.int .i64 a, .bool f, .int .i64 k, .int .i64 t] 122)
 try simp only [World.size_alloc] at sb
 have s1 := sb.at_ 1 rfl
 have s2 := sb.at_ 2 rfl
 have rx := xb.range
 go_enter Tryz.func48, Tryz.ntmps48
 cases f
 ·go_wp2_with fail
  go_ret
  exact ⟨rfl, low⟩
 ·go_wp2_with ((with_reducible refine wp_loadW (tyMach) (rx) (sz) ?_ ?_ ?_); rfl; rfl)
  (with_reducible refine (FA.out _ low).mono ?_); rintro e w2 ⟨rfl, hb⟩
  replace low := gCall low hb
  clear hb
  go_wp2_with fail
  go_ret
  exact ⟨by simp, low⟩
end Go.Proofs.YtcegjehoejgofaaGreat
namespace Go.Proofs.YtcegjehoejgofaaGreat
open Go.ChangeShapes Go.WideShapes Go.ChangeAt Go.RowKit Go.Joins
theorem putR_none {l : List Sw} {k t : Int} (h : l.any (freS k) = false) : putR l k t = l := by
 unfold putR
 have := idxS_any (freS k) l
 rw [h, decide_eq_false_iff_not] at this
 rw [if_pos (by omega)]
def askM (M : Mc) (k : Nat) : Mc := if M.ring.any (freS k) = true then { M with ring := putR M.ring k (waitM M), had := M.had + 1 } else M
set_option maxRecDepth 10000 in
set_option maxHeartbeats 8000000 in
theorem ask_is (B g ga : Nat) (M : Mc) (ev : List Ev) (k : Nat) (w : World) (h : RunS w B g ga M ev) (ok : McOk M) (hk : (k : Int) < M.n) (hf : filB M.ring k = false) :
  Calls Tryz.prog 89 #[.pointer (some ⟨g, 0, none⟩), .int .i64 k] w fun e w' => (e = .returned (.int .i64 0) ∧ RunS w' B g ga (askM M k) ev ∧ Frame ga w w') ∧ Below B w w' := by
 have m64 := h.m64
 have H := Lib.hid h
 have hw := waitM_ok ok
 have hE : rputE M.n M.s M.y M.b M.ring k (waitM M) = 0 := by
  unfold rputE
  rw [if_pos ok.rng, if_pos ⟨nodB_iff.2 ⟨by omega, hk⟩, waitB_iff.2 hw⟩, if_neg (by rw [hf]; simp)]
 obtain ⟨A0, c0, A1, c1, A2, c2, A3, c3, A4, c4, A5, c5, bx, rd, _, rs, _⟩ := h.read
 have sz : (mcA M.n M.s M.y M.b (.slice A0 M.css.length c0) M.mem (.slice A1 M.ring.length c1) (.slice A2 M.pr.length c2) (.slice A3 M.at_.length c3) (.slice A4 M.wts.length c4) M.had).size = (mcA 0 0 0 0 (.slice none 0 0) zeroL (.slice none 0 0) (.slice none 0 0) (.slice none 0 0) (.slice none 0 0) 0).size := by rw [mcA_size m64, mcA_size zeroL_length]
 have NW := Lib.hid fun W (hb : Below w.heap.size w W) => nextWait_any _ M W (rd.call hb) ok.had.1
 have RP := Lib.hid fun W (hb : Below w.heap.size w W) => ringPut_ok M.n M.s M.y M.b _ M.ring k (waitM M) W (rs.call hb) hE
 have RR := Lib.hid (fun (h : M.ring.any (freS k) = false) => putR_none (t := waitM M) h)
 have AM := Lib.hid (show askM M k = if M.ring.any (freS k) = true then { M with ring := putR M.ring k (waitM M), had := M.had + 1 } else M from rfl)
 have h0 := ok.had
 have k0 : (0 : Int) ≤ k := by omega
 generalize M.ring.any (freS k) = T at *
 generalize putR M.ring k (waitM M) = R at *
 generalize waitM M = wt at *
 clear h rs rd hE hw hf
 have low := Below.refl w.heap.size w
 go_enter Tryz.func89, Tryz.ntmps89
 go_wp2_with fail
 refine wp_region_noPanic ?_
 refine wp_region_held_drew (S := fun w' => Box w' g 127 (runA M.n M.s M.y M.b (.slice A0 M.css.length c0) M.mem (.slice A1 M.ring.length c1) (.slice A2 M.pr.length c2) (.slice A3 M.at_.length c3) (.slice A4 M.wts.length c4) M.had (.slice A5 ev.length c5))) (by kernel_rfl) bx.drew (fun hHeld => ?_)
 replace low := low.drew
 clear bx
 generalize w.drew = wN at *
 refine takeA 0 ?_ rfl ?_ ?_; rotate_left
 ·(intro w hSw; go_simp; try (with_reducible rfl))
 try simp only [Act.put, List.setIfInBounds_toArray, List.set_cons_zero, List.set_cons_succ]
 refine takeA 1 ?_ rfl ?_ ?_; rotate_left
 ·(intro w hSw; go_simp; try (with_reducible rfl))
 try simp only [Act.put, List.setIfInBounds_toArray, List.set_cons_zero, List.set_cons_succ]
 refine takeA 2 ?_ rfl ?_ ?_; rotate_left
 ·(intro w hSw; go_simp; try (with_reducible rfl))
 try simp only [Act.put, List.setIfInBounds_toArray, List.set_cons_zero, List.set_cons_succ]
 refine takeFirst (i := 3) (v := .agg (#[.int .i64 M.n, .int .i64 M.s, .int .i64 M.y, .int .i64 M.b])) rfl (by kernel_rfl) (by kernel_rfl) (by kernel_rfl) (by rfl) (fun _ _ _ h => h) (fun _ hSw => exec_loadW tyCfg4 rfl (run_cfg hSw) (rfl)) (by assumption) ?_
 try simp only [Act.put]
 try simp only [List.setIfInBounds_toArray, List.set_cons_zero, List.set_cons_succ]
 refine takeA 4 ?_ rfl ?_ ?_; rotate_left
 ·(intro w hSw; go_simp; try (with_reducible rfl))
 try simp only [Act.put, List.setIfInBounds_toArray, List.set_cons_zero, List.set_cons_succ]
 refine takeA 5 ?_ rfl ?_ ?_; rotate_left
 ·(intro w hSw; go_simp; try (with_reducible rfl))
 try simp only [Act.put, List.setIfInBounds_toArray, List.set_cons_zero, List.set_cons_succ]
 refine takeA 6 ?_ rfl ?_ ?_; rotate_left
 ·(intro w hSw; go_simp; try (with_reducible rfl))
 try simp only [Act.put, List.setIfInBounds_toArray, List.set_cons_zero, List.set_cons_succ]
 refine takeFirst (i := 7) (v := .slice A1 M.ring.length c1) rfl (by kernel_rfl) (by kernel_rfl) (by kernel_rfl) (by rfl) (fun _ _ _ h => h) (fun w' hSw => by have c9 := (run_cells hSw m64).2.1; go_simp) (by assumption) ?_
 try simp only [Act.put]
 try simp only [List.setIfInBounds_toArray, List.set_cons_zero, List.set_cons_succ]
 refine takeA 8 ?_ rfl ?_ ?_; rotate_left
 ·(intro w hSw; go_simp; try (with_reducible rfl))
 try simp only [Act.put, List.setIfInBounds_toArray, List.set_cons_zero, List.set_cons_succ]
 refine takeA 9 ?_ rfl ?_ ?_; rotate_left
 ·(intro w hSw; go_simp; try (with_reducible rfl))
 try simp only [Act.put, List.setIfInBounds_toArray, List.set_cons_zero, List.set_cons_succ]
 refine takeA 10 ?_ rfl ?_ ?_; rotate_left
 ·(intro w hSw; go_simp; try (with_reducible rfl))
 try simp only [Act.put, List.setIfInBounds_toArray, List.set_cons_zero, List.set_cons_succ]
 refine takeFirst (i := 11) (v := .agg (mcA M.n M.s M.y M.b (.slice A0 M.css.length c0) M.mem (.slice A1 M.ring.length c1) (.slice A2 M.pr.length c2) (.slice A3 M.at_.length c3) (.slice A4 M.wts.length c4) M.had)) rfl (by kernel_rfl) (by kernel_rfl) (by kernel_rfl) (by rfl) (fun _ _ _ h => h) (fun _ hSw => exec_loadW tyMach rfl (run_range hSw) (sz)) (by assumption) ?_
 try simp only [Act.put]
 try simp only [List.setIfInBounds_toArray, List.set_cons_zero, List.set_cons_succ]
 have near := Below.refl wN.heap.size wN
 refine stepNext (i := 12) (by kernel_rfl) rfl (by rfl) (fun K hK => ?_)
 go_simp
 (with_reducible refine (NW.out _ (gCall low near)).mono ?_); rintro e wx ⟨rfl, hbz⟩
 replace near := gCall near hbz
 clear hbz
 refine hK.out _ _ (hHeld.call near) ?_
 clear hK K
 try simp only [Act.put]
 try simp only [List.setIfInBounds_toArray, List.set_cons_zero, List.set_cons_succ]
 refine stepNext (i := 13) (by kernel_rfl) rfl (by rfl) (fun K hK => ?_)
 go_simp
 (with_reducible refine (RP.out _ (gCall low near)).mono ?_); rintro e wy ⟨⟨v', rfl, fr⟩, hbz⟩
 have sy := near.size
 replace near := gCall near hbz
 clear hbz
 have hNow := hHeld.call near
 refine hK.out _ _ hNow ?_
 clear hK K
 try simp only [Act.put]
 try simp only [List.setIfInBounds_toArray, List.set_cons_zero, List.set_cons_succ]
 obtain ⟨A9, c9, rfl⟩ := fr.shape
 refine takeA 14 ?_ rfl ?_ ?_; rotate_left
 ·(intro w hSw; go_simp; try (with_reducible rfl))
 try simp only [Act.put, List.setIfInBounds_toArray, List.set_cons_zero, List.set_cons_succ]
 refine takeA 15 ?_ rfl ?_ ?_; rotate_left
 ·(intro w hSw; go_simp; try (with_reducible rfl))
 try simp only [Act.put, List.setIfInBounds_toArray, List.set_cons_zero, List.set_cons_succ]
 refine takeA 16 ?_ rfl ?_ ?_; rotate_left
 ·(intro w hSw; go_simp; try (with_reducible rfl))
 try simp only [Act.put, List.setIfInBounds_toArray, List.set_cons_zero, List.set_cons_succ]
 refine takeA 17 ?_ rfl ?_ ?_; rotate_left
 ·(intro w hSw; go_simp; try (with_reducible rfl))
 try simp only [Act.put, List.setIfInBounds_toArray, List.set_cons_zero, List.set_cons_succ]
 refine takeA 18 ?_ rfl ?_ ?_; rotate_left
 ·(intro w hSw; go_simp; try (with_reducible rfl))
 try simp only [Act.put, List.setIfInBounds_toArray, List.set_cons_zero, List.set_cons_succ]
 refine takeA 19 ?_ rfl ?_ ?_; rotate_left
 ·(intro w hSw; go_simp; try (with_reducible rfl))
 try simp only [Act.put, List.setIfInBounds_toArray, List.set_cons_zero, List.set_cons_succ]
 refine takeA 20 ?_ rfl ?_ ?_; rotate_left
 ·(intro w hSw; go_simp; try (with_reducible rfl))
 try simp only [Act.put, List.setIfInBounds_toArray, List.set_cons_zero, List.set_cons_succ]
 refine wpAnyH_done (by kernel_rfl) ?_ _
 refine NoPanic.normal ?_
 have lz := low.size
 replace low := gCall low near
 have FR := Lib.hid (fr.more (B' := B) (C' := wy.heap.size) (by have := H.out.lt; have := H.out.gB; omega) (Nat.le_refl _))
 have H1 := Lib.hid (H.out.call low)
 have c69 := (run_cells hNow m64).2.1
 have f69 := hNow.frozen 69
 have c73 := (run_cells hNow m64).2.2.2.2.2.1
 have f73 := hNow.frozen 73
 have GB := H1.out.gB
 have st := Stored.cell1 wy ⟨g, 69, none⟩ (.slice A9 R.length c9)
 obtain ⟨H2, FA⟩ := H1.out.setRing FR.out
 have H2' := Lib.hid H2
 have FA' := Lib.hid ((Frame.call (ga := ga) low).trans FA)
 have low2 := st.low (low.mono (B' := B) (by have := H.out.lt; omega)) GB
 clear hHeld near fr H2 FA hNow st
 cases T
 ·have e1 : askM M k = { M with ring := R } := by rw [AM.out, if_neg (by simp), RR.out rfl]
  have E1 := Lib.hid e1
  clear AM RR e1
  go_wp2_with fail
  go_ret
  exact ⟨⟨rfl, by rw [E1.out]; exact H2'.out, FA'.out⟩, low2⟩
 ·have e1 : askM M k = { M with ring := R, had := M.had + 1 } := by rw [AM.out, if_pos rfl]
  have E1 := Lib.hid e1
  obtain ⟨H3, FB⟩ := H2'.out.setHad (M.had + 1)
  have H3' := Lib.hid H3
  have FB' := Lib.hid (FA'.out.trans FB)
  have low3 := (Stored.cell1 (wy.setCell ⟨g, 69, none⟩ (.slice A9 R.length c9)) ⟨g, 73, none⟩ (.int .i64 (M.had + 1))).low low2 GB
  obtain ⟨h00, h01⟩ := h0
  clear AM RR H3 FB e1
  go_wp2_with fail
  go_ret
  exact ⟨⟨rfl, by rw [E1.out]; exact H3'.out, FB'.out⟩, low3⟩
theorem idle_hit {css : List (List St)} {d : Dd} (h : idleB css d = true) : hitB css d = true := by
 obtain ⟨h1, h2⟩ := idle_iff.1 h
 unfold hitB
 rw [h1, h2]
 decide
theorem turn_done {D : DidF} {M : Mc} {ev : List Ev} {k : Nat} (h : filB M.ring k = true ∨ opAt M k = none) : turnS D [] (M, ev) k = (M, ev) := by
 unfold turnS
 by_cases hf : filB M.ring k = true
 ·rw [if_pos (.inr hf)]
 ·rw [if_neg (by simp; simpa using hf)]
  rcases h with h | h
  ·exact absurd h hf
  ·simp only [h]
theorem turn_perf {D : DidF} {M : Mc} {ev : List Ev} {k : Nat} {d : Dd} (hf : filB M.ring k = false) (ho : opAt M k = some d) (hh : hitB M.css d = true) : turnS D [] (M, ev) k = (perf D M k d, ev ++ [perfE M false d]) := by
 unfold turnS
 rw [if_neg (by simp [hf])]
 simp only [ho]
 rw [if_pos (.inr hh)]
theorem turn_ask {M : Mc} {ev : List Ev} {k : Nat} {d : Dd} {D : DidF} (hf : filB M.ring k = false) (ho : opAt M k = some d) (hh : hitB M.css d = false) : turnS D [] (M, ev) k = (askM M k, ev) := by
 have hi : ¬ (idleB M.css d = true ∨ hitB M.css d = true) := by
  rintro (h | h)
  ·rw [idle_hit h] at hh; cases hh
  ·rw [h] at hh; cases hh
 unfold turnS askM
 rw [if_neg (by simp [hf])]
 simp only [ho]
 rw [if_neg hi]
 split <;> rfl
set_option maxRecDepth 10000 in
set_option maxHeartbeats 8000000 in
theorem turn_is (B g ga : Nat) (M : Mc) (ev : List Ev) (k : Nat) (w : World) (h : RunS w B g ga M ev) (ok : McOk M) (hk : (k : Int) < M.n) (few : ev.length ≤ 500) :
  Calls Tryz.prog 54 #[.pointer (some ⟨g, 0, none⟩), .int .i64 k] w fun e w' => (e = .returned (.int .i64 0) ∧ RunS w' B g ga (turnS didF [] (M, ev) k).1 (turnS didF [] (M, ev) k).2 ∧ Frame ga w w') ∧ Below B w w' := by
 have m64 := h.m64
 have H := Lib.hid h
 obtain ⟨x, l, hx, hl⟩ : ∃ x l, M.at_[k]? = some x ∧ M.pr[k]? = some l := by
  have := ok.len
  have := ok.prs
  exact ⟨_, _, List.getElem?_eq_getElem (by omega), List.getElem?_eq_getElem (by omega)⟩
 obtain ⟨x0, x1⟩ := ok.ats k x l hx hl
 obtain ⟨A0, c0, A1, c1, A2, c2, A3, c3, A4, c4, A5, c5, bx, rd, ks, rs, ps, sa, _⟩ := h.read
 have sz : (mcA M.n M.s M.y M.b (.slice A0 M.css.length c0) M.mem (.slice A1 M.ring.length c1) (.slice A2 M.pr.length c2) (.slice A3 M.at_.length c3) (.slice A4 M.wts.length c4) M.had).size = (mcA 0 0 0 0 (.slice none 0 0) zeroL (.slice none 0 0) (.slice none 0 0) (.slice none 0 0) (.slice none 0 0) 0).size := by rw [mcA_size m64, mcA_size zeroL_length]
 have FI := Lib.hid fun W (hb : Below w.heap.size w W) => finished_any _ M k x l W (rd.call hb) hx hl
 have AW := Lib.hid fun W (hb : Below w.heap.size w W) => isAway_any _ M.ring k W (rs.call hb)
 have OP := Lib.hid (show x = l.length → opAt M k = none from fun e => by
  unfold opAt
  rw [hl, hx]
  exact List.getElem?_eq_none (by omega))
 have OS := Lib.hid (show x < l.length → ∃ d, opAt M k = some d from fun e => by
  unfold opAt
  rw [hl, hx]
  exact ⟨_, List.getElem?_eq_getElem (by omega)⟩)
 have rr := run_range bx
 have c69 := (run_cells bx m64).2.1
 have k0 : (0 : Int) ≤ k := by omega
 have low := Below.refl w.heap.size w
 go_enter Tryz.func54, Tryz.ntmps54
 go_wp2_with ((with_reducible refine wp_loadW (tyMach) (rr) (sz) ?_ ?_ ?_); rfl; rfl)
 (with_reducible refine (FI.out _ low).mono ?_); rintro e w1 ⟨rfl, hb⟩
 replace low := gCall low hb
 clear hb FI
 by_cases hfin : x = (l.length : Int)
 ·have e1 := turn_done (D := didF) (ev := ev) (.inr (OP.out hfin))
  have e2 : decide (x = (l.length : Int)) = true := decide_eq_true hfin
  rw [e2]
  have E1 := Lib.hid e1
  clear e1
  have H1 := Lib.hid (H.out.call low)
  have FR := Lib.hid (Frame.call (ga := ga) low)
  clear hfin
  go_wp2_with fail
  go_ret
  exact ⟨⟨rfl, by rw [E1.out]; exact H1.out, FR.out⟩, low.mono (by have := H.out.lt; have := H.out.gB; omega)⟩
 have e2 : decide (x = (l.length : Int)) = false := decide_eq_false hfin
 rw [e2]
 obtain ⟨d, hop⟩ := OS.out (by omega)
 have c69' := callC low c69
 clear c69
 go_wp2_with fail
 (with_reducible refine (AW.out _ low).mono ?_); rintro e w2 ⟨rfl, hb⟩
 replace low := gCall low hb
 clear hb AW c69'
 cases hf : filB M.ring k with
 | true =>
  have e1 := turn_done (D := didF) (ev := ev) (.inl hf)
  have E1 := Lib.hid e1
  clear e1
  have H1 := Lib.hid (H.out.call low)
  have FR := Lib.hid (Frame.call (ga := ga) low)
  go_wp2_with fail
  go_ret
  exact ⟨⟨rfl, by rw [E1.out]; exact H1.out, FR.out⟩, low.mono (by have := H.out.lt; have := H.out.gB; omega)⟩
 | false =>
  have NX := Lib.hid fun W (hb : Below w.heap.size w W) => (next_good _ _ M.pr M.at_ k x l W (ps.call hb) (Sl.call sa hb) ok.prs.symm hl hx x0).mono (fun e w' ⟨n, b⟩ => show e = Ending.returned (.tuple #[.agg (deedA d), .bool true, .int .i64 0]) ∧ Below W.heap.size W w' from ⟨by
   rcases n with ⟨n, _⟩ | ⟨j, d', n1, n2, n3⟩
   ·omega
   ·have : x.toNat = j := by omega
    have hd := hop
    unfold opAt at hd
    rw [hl, hx] at hd
    simp only [Option.bind_some] at hd
    rw [this, n2] at hd
    cases hd
    exact n3, b⟩)
  obtain ⟨_, _, _, _, _, _, hd, hnd, hde, hkn⟩ := opAt_some ok hop
  have he : findE M.n M.s M.y M.b M.css M.mem d = 0 := by unfold findE; rw [if_neg (by simpa using ok.coh), if_neg (by simpa using hde), if_neg (by omega)]
  have HI := Lib.hid fun W (hb : Below w.heap.size w W) => show Calls Tryz.prog 88 #[cfg M.n M.s M.y M.b, wldV _ M.mem, .agg (deedA d)] W _ from hit_here m64 he _ W (ks.call hb)
  have x70 := callC low (run_cells bx m64).2.2.1
  have x71 := callC low (run_cells bx m64).2.2.2.1
  clear hd hde hnd hkn e2 hx hl hfin
  go_wp2_with fail
  refine wp_region_noPanic ?_
  refine wp_region_held_drew (S := fun w' => w'.cell? ⟨g, 70, none⟩ = some (.slice A2 M.pr.length c2) ∧ w'.cell? ⟨g, 71, none⟩ = some (.slice A3 M.at_.length c3)) (by kernel_rfl) ⟨x70, x71⟩ (fun hHeld => ?_)
  replace low := low.drew
  generalize w2.drew = wN at *
  clear x70 x71
  refine takeA 0 ?_ rfl ?_ ?_; rotate_left
  ·(intro w hSw; go_simp; try (with_reducible rfl))
  try simp only [Act.put, List.setIfInBounds_toArray, List.set_cons_zero, List.set_cons_succ]
  refine takeA 1 ?_ rfl ?_ ?_; rotate_left
  ·(intro w hSw; go_simp; try (with_reducible rfl))
  try simp only [Act.put, List.setIfInBounds_toArray, List.set_cons_zero, List.set_cons_succ]
  refine takeA 2 ?_ rfl ?_ ?_; rotate_left
  ·(intro w hSw; go_simp; try (with_reducible rfl))
  try simp only [Act.put, List.setIfInBounds_toArray, List.set_cons_zero, List.set_cons_succ]
  refine takeA 3 ?_ rfl ?_ ?_; rotate_left
  ·(intro w hSw; go_simp; try (with_reducible rfl))
  try simp only [Act.put, List.setIfInBounds_toArray, List.set_cons_zero, List.set_cons_succ]
  refine takeA 4 ?_ rfl ?_ ?_; rotate_left
  ·(intro w hSw; go_simp; try (with_reducible rfl))
  try simp only [Act.put, List.setIfInBounds_toArray, List.set_cons_zero, List.set_cons_succ]
  refine takeA 5 ?_ rfl ?_ ?_; rotate_left
  ·(intro w hSw; go_simp; try (with_reducible rfl))
  try simp only [Act.put, List.setIfInBounds_toArray, List.set_cons_zero, List.set_cons_succ]
  refine takeA 6 ?_ rfl ?_ ?_; rotate_left
  ·(intro w hSw; go_simp; try (with_reducible rfl))
  try simp only [Act.put, List.setIfInBounds_toArray, List.set_cons_zero, List.set_cons_succ]
  refine takeA 7 ?_ rfl ?_ ?_; rotate_left
  ·(intro w hSw; go_simp; try (with_reducible rfl))
  try simp only [Act.put, List.setIfInBounds_toArray, List.set_cons_zero, List.set_cons_succ]
  refine takeA 8 ?_ rfl ?_ ?_; rotate_left
  ·(intro w hSw; go_simp; try (with_reducible rfl))
  try simp only [Act.put, List.setIfInBounds_toArray, List.set_cons_zero, List.set_cons_succ]
  apply shareN (M := fun gx wz => NextV wN gx wz)
  ·intro hE
   have near := Below.refl wN.heap.size wN
   refine stepTwo (i1 := 9) (i2 := 14) (by kernel_rfl) rfl rfl (by rfl) (by rfl) (fun K hK => ?_) (fun K hK => ?_)
   ·go_simp
    (with_reducible refine (NX.out _ (gCall low near)).mono ?_); rintro e wx ⟨rfl, hbz⟩
    replace near := gCall near hbz
    try clear hNow
    have hNow := (And.intro (callC near hHeld.1) (callC near hHeld.2))
    refine hK.out _ _ hNow ?_
    clear hK K
    try simp only [Act.put]
    try simp only [List.setIfInBounds_toArray, List.set_cons_zero, List.set_cons_succ]
    refine takeA 10 ?_ rfl ?_ ?_; rotate_left
    ·(intro w hSw; go_simp; try (with_reducible rfl))
    try simp only [Act.put, List.setIfInBounds_toArray, List.set_cons_zero, List.set_cons_succ]
    refine takeA 11 ?_ rfl ?_ ?_; rotate_left
    ·(intro w hSw; go_simp; try (with_reducible rfl))
    try simp only [Act.put, List.setIfInBounds_toArray, List.set_cons_zero, List.set_cons_succ]
    refine takeA 12 ?_ rfl ?_ ?_; rotate_left
    ·(intro w hSw; go_simp; try (with_reducible rfl))
    try simp only [Act.put, List.setIfInBounds_toArray, List.set_cons_zero, List.set_cons_succ]
    refine takeA 13 ?_ rfl ?_ ?_; rotate_left
    ·(intro w hSw; go_simp; try (with_reducible rfl))
    try simp only [Act.put, List.setIfInBounds_toArray, List.set_cons_zero, List.set_cons_succ]
    clear hbz
    refine stepNext (i := 14) (by kernel_rfl) rfl (by rfl) (fun K hK => ?_)
    refine op_newW tyDeed4 ?_
    obtain ⟨gx, HG⟩ : ∃ gx, Hid (wx.heap.size = gx) := ⟨_, Lib.hid rfl⟩
    have new : wN.heap.size ≤ gx := by rw [← HG.out]; exact near.size
    replace near := gAlloc near (.cells deed0A 49)
    have box := Box.new wx 49 deed0A
    try clear hNow
    have hNow := (And.intro (callC near hHeld.1) (callC near hHeld.2))
    refine hK.out _ _ hNow ?_
    clear hK K
    try simp only [Act.put]
    try simp only [List.setIfInBounds_toArray, List.set_cons_zero, List.set_cons_succ]
    rw [HG.out] at box ⊢
    generalize wx.alloc (.cells deed0A 49) = wy at near box hNow ⊢
    refine relist (l2 := #[true, true, true, true, true, true, true, true, true, true, true, true, true, true, true, false, false, false]) (by kernel_rfl) ?_
    exact hE _ _ ⟨near, new, box⟩
   ·refine op_newW tyDeed4 ?_
    obtain ⟨gx, HG⟩ : ∃ gx, Hid (wN.heap.size = gx) := ⟨_, Lib.hid rfl⟩
    have new : wN.heap.size ≤ gx := by rw [← HG.out]; exact near.size
    replace near := gAlloc near (.cells deed0A 49)
    have box := Box.new wN 49 deed0A
    try clear hNow
    have hNow := (And.intro (callC near hHeld.1) (callC near hHeld.2))
    refine hK.out _ _ hNow ?_
    clear hK K
    try simp only [Act.put]
    try simp only [List.setIfInBounds_toArray, List.set_cons_zero, List.set_cons_succ]
    rw [HG.out] at box ⊢
    generalize wN.alloc (.cells deed0A 49) = wx at near box hNow ⊢
    refine stepNext (i := 9) (by kernel_rfl) rfl (by rfl) (fun K hK => ?_)
    go_simp
    (with_reducible refine (NX.out _ (gCall low near)).mono ?_); rintro e wy ⟨rfl, hbz⟩
    replace near := gCall near hbz
    try clear hNow
    have hNow := (And.intro (callC near hHeld.1) (callC near hHeld.2))
    refine hK.out _ _ hNow ?_
    clear hK K
    try simp only [Act.put]
    try simp only [List.setIfInBounds_toArray, List.set_cons_zero, List.set_cons_succ]
    refine takeA 10 ?_ rfl ?_ ?_; rotate_left
    ·(intro w hSw; go_simp; try (with_reducible rfl))
    try simp only [Act.put, List.setIfInBounds_toArray, List.set_cons_zero, List.set_cons_succ]
    refine takeA 11 ?_ rfl ?_ ?_; rotate_left
    ·(intro w hSw; go_simp; try (with_reducible rfl))
    try simp only [Act.put, List.setIfInBounds_toArray, List.set_cons_zero, List.set_cons_succ]
    refine takeA 12 ?_ rfl ?_ ?_; rotate_left
    ·(intro w hSw; go_simp; try (with_reducible rfl))
    try simp only [Act.put, List.setIfInBounds_toArray, List.set_cons_zero, List.set_cons_succ]
    refine takeA 13 ?_ rfl ?_ ?_; rotate_left
    ·(intro w hSw; go_simp; try (with_reducible rfl))
    try simp only [Act.put, List.setIfInBounds_toArray, List.set_cons_zero, List.set_cons_succ]
    replace box := box.call hbz
    refine relist (l2 := #[true, true, true, true, true, true, true, true, true, true, true, true, true, true, true, false, false, false]) (by kernel_rfl) ?_
    exact hE _ _ ⟨near, new, box⟩
  intro gd wz nv
  refine stepNext (i := 15) (by kernel_rfl) rfl (by rfl) (fun K hK => ?_)
  refine wp_store_box 49 (.tmp 6) (.tmp 37) rfl _ (deedA d) rfl rfl nv.box (tyDeed4.size.trans rfl) rfl (deedA_one d) ?_
  intro w4 db st
  have near := st.low nv.low nv.new
  try clear hNow
  have hNow := (And.intro (callC near hHeld.1) (callC near hHeld.2))
  refine hK.out _ _ hNow ?_
  clear hK K
  try simp only [Act.put]
  try simp only [List.setIfInBounds_toArray, List.set_cons_zero, List.set_cons_succ]
  refine takeA 16 ?_ rfl ?_ ?_; rotate_left
  ·(intro w hSw; go_simp; try (with_reducible rfl))
  try simp only [Act.put, List.setIfInBounds_toArray, List.set_cons_zero, List.set_cons_succ]
  refine takeA 17 ?_ rfl ?_ ?_; rotate_left
  ·(intro w hSw; go_simp; try (with_reducible rfl))
  try simp only [Act.put, List.setIfInBounds_toArray, List.set_cons_zero, List.set_cons_succ]
  refine wpAnyH_done (by kernel_rfl) ?_ _
  refine NoPanic.normal ?_
  replace low := gCall low near
  clear hNow near st nv hHeld NX
  have bx4 := bx.call low
  clear bx
  go_wp2_with fail
  refine wp_region_noPanic ?_
  refine wp_region_held_drew (S := fun w' => Box w' g 127 (runA M.n M.s M.y M.b (.slice A0 M.css.length c0) M.mem (.slice A1 M.ring.length c1) (.slice A2 M.pr.length c2) (.slice A3 M.at_.length c3) (.slice A4 M.wts.length c4) M.had (.slice A5 ev.length c5)) ∧ Box w' gd 49 (deedA d)) (by kernel_rfl) ⟨bx4.drew, db.drew⟩ (fun hHeld => ?_)
  replace low := low.drew
  generalize w4.drew = wM at *
  clear bx4 db
  refine takeA 0 ?_ rfl ?_ ?_; rotate_left
  ·(intro w hSw; go_simp; try (with_reducible rfl))
  try simp only [Act.put, List.setIfInBounds_toArray, List.set_cons_zero, List.set_cons_succ]
  refine takeA 1 ?_ rfl ?_ ?_; rotate_left
  ·(intro w hSw; go_simp; try (with_reducible rfl))
  try simp only [Act.put, List.setIfInBounds_toArray, List.set_cons_zero, List.set_cons_succ]
  refine takeA 2 ?_ rfl ?_ ?_; rotate_left
  ·(intro w hSw; go_simp; try (with_reducible rfl))
  try simp only [Act.put, List.setIfInBounds_toArray, List.set_cons_zero, List.set_cons_succ]
  refine takeFirst (i := 3) (v := .agg (#[.int .i64 M.n, .int .i64 M.s, .int .i64 M.y, .int .i64 M.b])) rfl (by kernel_rfl) (by kernel_rfl) (by kernel_rfl) (by rfl) (fun _ _ _ h => h) (fun _ hSw => exec_loadW tyCfg4 rfl (run_cfg hSw.1) (rfl)) (by assumption) ?_
  try simp only [Act.put]
  try simp only [List.setIfInBounds_toArray, List.set_cons_zero, List.set_cons_succ]
  refine takeA 4 ?_ rfl ?_ ?_; rotate_left
  ·(intro w hSw; go_simp; try (with_reducible rfl))
  try simp only [Act.put, List.setIfInBounds_toArray, List.set_cons_zero, List.set_cons_succ]
  refine takeA 5 ?_ rfl ?_ ?_; rotate_left
  ·(intro w hSw; go_simp; try (with_reducible rfl))
  try simp only [Act.put, List.setIfInBounds_toArray, List.set_cons_zero, List.set_cons_succ]
  refine takeA 6 ?_ rfl ?_ ?_; rotate_left
  ·(intro w hSw; go_simp; try (with_reducible rfl))
  try simp only [Act.put, List.setIfInBounds_toArray, List.set_cons_zero, List.set_cons_succ]
  refine takeFirst (i := 7) (v := .agg (wldA (.slice A0 M.css.length c0) M.mem)) rfl (by kernel_rfl) (by kernel_rfl) (by kernel_rfl) (by rfl) (fun _ _ _ h => h) (fun _ hSw => exec_loadW tyWorld rfl (run_wld hSw.1) (wld_size m64)) (by assumption) ?_
  try simp only [Act.put]
  try simp only [List.setIfInBounds_toArray, List.set_cons_zero, List.set_cons_succ]
  refine takeFirst (i := 8) (v := .agg (deedA d)) rfl (by kernel_rfl) (by kernel_rfl) (by kernel_rfl) (by rfl) (fun _ _ _ h => h) (fun _ hSw => exec_loadW tyDeed4 rfl (Box.range hSw.2) (rfl)) (by assumption) ?_
  try simp only [Act.put]
  try simp only [List.setIfInBounds_toArray, List.set_cons_zero, List.set_cons_succ]
  refine stepNext (i := 9) (by kernel_rfl) rfl (by rfl) (fun K hK => ?_)
  go_simp
  (with_reducible refine (HI.out _ low).mono ?_); rintro e w5 ⟨rfl, hbz⟩
  refine hK.out _ _ (And.intro (hHeld.1.call hbz) (hHeld.2.call hbz)) ?_
  clear hK K
  try simp only [Act.put]
  try simp only [List.setIfInBounds_toArray, List.set_cons_zero, List.set_cons_succ]
  have hNow := And.intro (hHeld.1.call hbz) (hHeld.2.call hbz)
  refine takeA 10 ?_ rfl ?_ ?_; rotate_left
  ·(intro w hSw; go_simp; try (with_reducible rfl))
  try simp only [Act.put, List.setIfInBounds_toArray, List.set_cons_zero, List.set_cons_succ]
  refine takeA 11 ?_ rfl ?_ ?_; rotate_left
  ·(intro w hSw; go_simp; try (with_reducible rfl))
  try simp only [Act.put, List.setIfInBounds_toArray, List.set_cons_zero, List.set_cons_succ]
  refine takeA 12 ?_ rfl ?_ ?_; rotate_left
  ·(intro w hSw; go_simp; try (with_reducible rfl))
  try simp only [Act.put, List.setIfInBounds_toArray, List.set_cons_zero, List.set_cons_succ]
  refine takeA 13 ?_ rfl ?_ ?_; rotate_left
  ·(intro w hSw; go_simp; try (with_reducible rfl))
  try simp only [Act.put, List.setIfInBounds_toArray, List.set_cons_zero, List.set_cons_succ]
  refine takeA 14 ?_ rfl ?_ ?_; rotate_left
  ·(intro w hSw; go_simp; try (with_reducible rfl))
  try simp only [Act.put, List.setIfInBounds_toArray, List.set_cons_zero, List.set_cons_succ]
  refine wpAnyH_done (by kernel_rfl) ?_ _
  refine NoPanic.normal ?_
  replace low := gCall low hbz
  have H5 := Lib.hid (H.out.call low)
  have FR := Lib.hid (Frame.call (ga := ga) low)
  have lowB := Lib.hid (low.mono (B' := B) (by have := H.out.lt; have := H.out.gB; omega))
  clear hHeld hNow hbz HI
  cases hh : hitB M.css d with
  | true =>
   have E1 := Lib.hid (turn_perf (D := didF) (ev := ev) hf hop hh)
   have PF := Lib.hid (perform_is B g ga M ev k d false w5 H5.out ok hop few)
   go_wp2_with fail
   (with_reducible refine PF.out.mono ?_); rintro e w6 ⟨⟨rfl, rs6, fr6⟩, hb6⟩
   have R6 := Lib.hid rs6
   have F6 := Lib.hid (FR.out.trans fr6)
   have L6 := lowB.out.trans hb6
   clear rs6 fr6 hb6
   go_wp2_with fail
   go_ret
   exact ⟨⟨rfl, by rw [E1.out]; exact R6.out, F6.out⟩, L6⟩
  | false =>
   have E1 := Lib.hid (turn_ask (D := didF) (ev := ev) hf hop hh)
   have PF := Lib.hid (ask_is B g ga M ev k w5 H5.out ok hk hf)
   go_wp2_with fail
   (with_reducible refine PF.out.mono ?_); rintro e w6 ⟨⟨rfl, rs6, fr6⟩, hb6⟩
   have R6 := Lib.hid rs6
   have F6 := Lib.hid (FR.out.trans fr6)
   have L6 := lowB.out.trans hb6
   clear rs6 fr6 hb6
   go_wp2_with fail
   go_ret
   exact ⟨⟨rfl, by rw [E1.out]; exact R6.out, F6.out⟩, L6⟩
end Go.Proofs.YtcegjehoejgofaaGreat
namespace Go.Proofs.YtcegjehoejgofaaGreat
open Go.ChangeShapes Go.WideShapes Go.ChangeAt Go.RowKit
def indexOf (y : Int) (xs : List Int) : Int := match xs.findIdx? (· == y) with | some k => k | none => -1
theorem indexOf_none {y : Int} {xs : List Int} (h : ∀ k, k < xs.length → xs[k]? ≠ some y) : indexOf y xs = -1 := by
 have : xs.findIdx? (· == y) = none := by
  rw [List.findIdx?_eq_none_iff]
  intro x hx
  obtain ⟨k, hk, e⟩ := List.getElem_of_mem hx
  have := h k hk
  rw [List.getElem?_eq_getElem hk, e] at this
  simpa using this
 rw [indexOf, this]
theorem indexOf_some {y : Int} {xs : List Int} {k : Nat} (h : ∀ j, j < k → xs[j]? ≠ some y) (hk : xs[k]? = some y) : indexOf y xs = k := by
 have : xs.findIdx? (· == y) = some k := by
  rw [List.findIdx?_eq_some_iff_getElem]
  obtain ⟨hlt, e⟩ := List.getElem?_eq_some_iff.1 hk
  refine ⟨hlt, by simp [e], fun j hj => ?_⟩
  have := h j hj
  rw [List.getElem?_eq_getElem (by omega)] at this
  simpa using this
 rw [indexOf, this]
theorem index_any (v : Value) (n : Nat) (xs : List Int) (y : Int) (w : World) (h : Sl w w.heap.size 1 v n (xs.map (Value.int .i64))) :
  Calls Tryz.prog 86 #[v, .int .i64 y] w fun e w' => e = .returned (.int .i64 (indexOf y xs)) ∧ w = w' := by
 obtain ⟨hl, A, c, rfl, h1, h2, h3⟩ := h
 simp only [List.length_map, Nat.mul_one] at hl
 have HL := Lib.hid hl
 have H3 := Lib.hid h3
 unfold maxLen at h2
 clear hl h3
 go_enter Tryz.func86, Tryz.ntmps86
 go_wp2
 go_loop [8] (fun i => ∃ k : Nat, k ≤ n ∧ i = .int .i64 k ∧ Hid (∀ j, j < k → xs[j]? ≠ some y)) (fun i => n - (intOf i).toNat)
 case atStart => exact ⟨0, Nat.zero_le _, rfl, Lib.hid fun j hj => absurd hj (by omega)⟩
 case round =>
  obtain ⟨k, hk, rfl, hno⟩ := hrel
  by_cases hlt : k < n
  ·obtain ⟨b, o, rfl, hb, hc⟩ := H3.out (by omega)
   have hx : xs[k]? = some (xs[k]'(by have := HL.out; omega)) := List.getElem?_eq_getElem _
   generalize xs[k]'(by have := HL.out; omega) = x at hx
   have hcell : w.cell? ⟨b, o + k, none⟩ = some (.int .i64 x) := hc k _ (by rw [List.getElem?_map, hx]; rfl)
   have HX := Lib.hid hx
   clear hx hc
   by_cases he : y = x
   ·have he' : (y == x) = true := by simpa using he
    have HE := Lib.hid he
    clear he
    go_wp2
    go_ret
    exact ⟨by rw [indexOf_some hno.out (HX.out.trans (by rw [HE.out]))]; rfl, rfl⟩
   ·have he' : (y == x) = false := by simpa using he
    have HE := Lib.hid he
    clear he
    go_wp2
    go_round
    case rel => exact ⟨k + 1, by omega, by go_num, Lib.hid fun j hj => by
     by_cases hjk : j < k
     ·exact hno.out j hjk
     ·obtain rfl : j = k := by omega
      rw [HX.out]; intro e; exact HE.out (by simpa using e.symm)⟩
    case measure => simp [intOf]; omega
  ·go_wp2
   go_ret
   exact ⟨by rw [indexOf_none (fun j hj => hno.out j (by have := HL.out; omega))]; rfl, rfl⟩
theorem indexOf_neg {y : Int} {xs : List Int} : decide (0 ≤ indexOf y xs) = decide (y ∈ xs) := by
 rw [decide_eq_decide]
 unfold indexOf
 cases e : xs.findIdx? (· == y) with
 | none =>
  rw [List.findIdx?_eq_none_iff] at e
  refine ⟨fun h => absurd h (by decide), fun h => ?_⟩
  have := e y h
  simp at this
 | some k =>
  refine ⟨fun _ => ?_, fun _ => Int.natCast_nonneg _⟩
  rw [List.findIdx?_eq_some_iff_getElem] at e
  obtain ⟨hk, e, _⟩ := e
  have : xs[k] = y := by simpa using e
  rw [← this]; exact List.getElem_mem _
theorem contains_any (v : Value) (n : Nat) (xs : List Int) (y : Int) (w : World) (h : Sl w w.heap.size 1 v n (xs.map (Value.int .i64))) :
  Calls Tryz.prog 53 #[v, .int .i64 y] w fun e w' => e = .returned (.bool (decide (y ∈ xs))) ∧ w = w' := by
 have H := Lib.hid h
 clear h
 rw [← indexOf_neg]
 generalize hi : indexOf y xs = i
 have HI := Lib.hid hi
 clear hi
 go_enter Tryz.func53, Tryz.ntmps53
 go_wp2_with fail
 refine (index_any _ _ _ _ _ H.out).mono ?_; rintro e w' ⟨rfl, rfl⟩
 rw [HI.out]
 go_wp2
 go_ret
 exact ⟨rfl, rfl⟩
end Go.Proofs.YtcegjehoejgofaaGreat
namespace Go.Proofs.YtcegjehoejgofaaGreat
open Go.ChangeShapes Go.WideShapes Go.ChangeAt Go.RowKit Go.Joins
theorem turnS_front (D : DidF) (was : List Nat) (M : Mc) (ev es : List Ev) (k : Nat) : turnS D was (M, ev ++ es) k = ((turnS D was (M, es) k).1, ev ++ (turnS D was (M, es) k).2) := by
 unfold turnS
 simp only
 split
 ·rfl
 ·cases opAt M k with
  | none => rfl
  | some d =>
   simp only
   split
   ·simp [List.append_assoc]
   ·split <;> rfl
theorem backS_len (D : DidF) (S : Mc × List Ev) (k : Nat) : (backS D S k).2.length ≤ S.2.length + 1 := by
 unfold backS
 cases opAt S.1 k with
 | none => simp
 | some d => simp
theorem turnS_len (D : DidF) (was : List Nat) (S : Mc × List Ev) (k : Nat) : (turnS D was S k).2.length ≤ S.2.length + 1 := by
 unfold turnS
 split
 ·omega
 ·cases opAt S.1 k with
  | none => simp
  | some d =>
   simp only
   split
   ·simp
   ·split <;> simp
theorem turnS_not {D : DidF} {was : List Nat} {S : Mc × List Ev} {k : Nat} (h : k ∉ was) : turnS D was S k = turnS D [] S k := by
 unfold turnS
 have : (k ∈ was ∨ filB S.1.ring k = true) = (k ∈ [] ∨ filB S.1.ring k = true) := by simp [h]
 simp only [this]
theorem turnS_was {D : DidF} {was : List Nat} {S : Mc × List Ev} {k : Nat} (h : k ∈ was) : turnS D was S k = S := by
 unfold turnS
 rw [if_pos (.inl h)]
theorem back_sorted {M : Mc} (h : McOk M) {ts : List Int} (hp : ts.Perm (backL M.n M.ring)) (hu : UpI ts) : ts = (backN M).map fun (k : Nat) => (k : Int) := by
 obtain ⟨_, _, _, rk⟩ := ringE_zero.1 h.rng
 have nd : (backL M.n M.ring).Nodup := by
  unfold backL List.Nodup
  rw [List.pairwise_map]
  refine List.Pairwise.imp_of_mem (fun {x y} hx hy k => ?_) (rk.uni.filter _)
  have fx := (List.mem_filter.1 hx).2
  have fy := (List.mem_filter.1 hy).2
  unfold retS at fx fy
  simp at fx fy
  exact k fx.1 fy.1
 have up : UpI ((backN M).map fun (k : Nat) => (k : Int)) := by
  unfold UpI
  rw [List.pairwise_map]
  unfold backN
  exact (List.pairwise_lt_range.filter _).imp (fun h => by omega)
 refine up_unique hu up (hp.trans ?_)
 have n2 : ((backN M).map fun (k : Nat) => (k : Int)).Nodup := by
  unfold UpI at up
  have nb : (backN M).Nodup := by unfold backN; exact (List.nodup_range).filter _
  unfold List.Nodup at nb ⊢
  rw [List.pairwise_map]
  exact nb.imp (fun h => by omega)
 refine (List.perm_ext_iff_of_nodup nd n2).2 fun a => ?_
 constructor
 ·intro ha
  obtain ⟨x, hx, _, e⟩ := mem_backL.1 ha
  have := (nodB_iff.1 (rk.each x hx).2.1)
  refine List.mem_map.2 ⟨a.toNat, ?_, by omega⟩
  rw [mem_backN h]
  rw [show ((a.toNat : Nat) : Int) = a by omega]
  exact ha
 ·intro ha
  obtain ⟨k, hk, rfl⟩ := List.mem_map.1 ha
  exact (mem_backN h).1 hk
noncomputable def backP (M : Mc) (j : Nat) : Mc × List Ev := ((backN M).take j).foldl (backS didF) (advM M, [])
noncomputable def turnP (M : Mc) (j : Nat) : Mc × List Ev := (List.range j).foldl (turnS didF (backN M)) (backP M (backN M).length)
theorem cyc_start {M : Mc} (h : McOk M) (hm : M.mem.length = 64) : Cyc (advM M) (backN M) [] (advM M) [] :=
 ⟨adv_ok h, hm, ⟨rfl, rfl, rfl, rfl, rfl, rfl⟩, rfl, fun k => by simp [evN], by simp, by simp [evN], rfl, fun i x' hx' => ⟨x', hx', .inl rfl⟩, by simp, by simp⟩
theorem backN_nodup (M : Mc) : (backN M).Nodup := by
 unfold backN
 exact (List.nodup_range).filter _
theorem backN_few {M : Mc} (h : McOk M) : (backN M).length ≤ 8 := by
 unfold backN
 have := List.length_filter_le (fun (k : Nat) => decide ((k : Int) ∈ backL M.n M.ring)) (List.range M.n.toNat)
 rw [List.length_range] at this
 have := h.nodes
 omega
theorem fold_len {α : Type} {f : Mc × List Ev → α → Mc × List Ev} (hf : ∀ S k, (f S k).2.length ≤ S.2.length + 1) : ∀ (l : List α) (S : Mc × List Ev), (l.foldl f S).2.length ≤ S.2.length + l.length
 | [], S => by simp
 | x :: r, S => by
  have h1 := fold_len hf r (f S x)
  have h2 := hf S x
  simp only [List.foldl_cons, List.length_cons]
  omega
theorem back_at {M : Mc} (h : McOk M) (hm : M.mem.length = 64) (j : Nat) : Cyc (advM M) (backN M) ((backN M).take j) (backP M j).1 (backP M j).2 ∧ (backP M j).2.length ≤ j := by
 have b := back_fold didF_ok ((backN M).take j) [] (advM M) [] (cyc_start h hm) rfl ((List.take_sublist _ _).nodup (backN_nodup M)) (fun k hk => ⟨by simp, back_gone h (List.mem_of_mem_take hk)⟩)
 rw [List.nil_append] at b
 refine ⟨b.1, ?_⟩
 have := fold_len (backS_len didF) ((backN M).take j) (advM M, [])
 rw [List.length_take] at this
 simp only [List.length_nil] at this
 unfold backP
 omega
theorem back_next {M : Mc} {j k : Nat} (hk : (backN M)[j]? = some k) : backP M (j + 1) = backS didF (backP M j) k := by
 unfold backP
 rw [List.take_add_one, hk, List.foldl_append]
 rfl
theorem back_op {M : Mc} (h : McOk M) (hm : M.mem.length = 64) {j k : Nat} (hk : (backN M)[j]? = some k) : ∃ d, opAt (backP M j).1 k = some d ∧ backP M (j + 1) = (perf didF (backP M j).1 k d, (backP M j).2 ++ [perfE (backP M j).1 true d]) := by
 have hb := List.mem_of_getElem? hk
 have hn : k ∉ (backN M).take j := by
  intro hm
  obtain ⟨i, hi, e⟩ := List.getElem_of_mem hm
  rw [List.length_take] at hi
  rw [List.getElem_take] at e
  obtain ⟨hj, e2⟩ := List.getElem?_eq_some_iff.1 hk
  exact List.pairwise_iff_getElem.1 (backN_nodup M) i j (by omega) hj (by omega) (e.trans e2.symm)
 obtain ⟨x, hx, hr, hd⟩ := mem_backL.1 ((mem_backN h).1 hb)
 have hf : filB M.ring k = true := by
  rw [filB_iff]
  have := hr
  unfold retS at this
  rw [Bool.and_eq_true] at this
  exact ⟨x, hx, this.1, hd⟩
 have hkn : k < M.at_.length := by
  unfold backN at hb
  have := List.mem_range.1 (List.mem_filter.1 hb).1
  have := h.len
  omega
 obtain ⟨y, l, hy, hl, _⟩ := h.there hkn
 have hlt := h.run k y l hy hl hf
 have h0 := (h.ats k y l hy hl).1
 have o1 : ∃ d, opAt (advM M) k = some d := by
  unfold opAt
  show ∃ d, ((M.pr[k]?).bind fun l => (M.at_[k]?).bind fun x => l[x.toNat]?) = some d
  rw [hl, hy]
  exact ⟨_, List.getElem?_eq_getElem (by omega)⟩
 obtain ⟨d, o1⟩ := o1
 have o2 := ((back_at h hm j).1.op hn).trans o1
 refine ⟨d, o2, ?_⟩
 rw [back_next hk]
 unfold backS
 rw [o2]
theorem turn_at {M : Mc} (h : McOk M) (hm : M.mem.length = 64) (hh : M.had ≤ 999991) (j : Nat) (hj : j ≤ 8) : Cyc (advM M) (backN M) (backN M ++ List.range j) (turnP M j).1 (turnP M j).2 ∧ (turnP M j).2.length ≤ 8 + j := by
 have b := back_at h hm (backN M).length
 rw [List.take_length] at b
 refine ⟨turn_fold didF_ok (show (advM M).had ≤ 999991 from hh) j _ _ hj b.1, ?_⟩
 have := fold_len (turnS_len didF (backN M)) (List.range j) (backP M (backN M).length)
 rw [List.length_range] at this
 have := b.2
 have := backN_few h
 unfold turnP
 omega
theorem turn_next (M : Mc) (j : Nat) : turnP M (j + 1) = turnS didF (backN M) (turnP M j) j := by
 unfold turnP
 rw [List.range_succ, List.foldl_append]
 rfl
theorem turn_all (M : Mc) : turnP M M.n.toNat = cycM didF M := by
 unfold turnP backP cycM
 rw [List.take_length]
def Kept (B ga : Nat) (w w' : World) : Prop := Below B w w' ∧ Frame ga w w'
theorem Kept.trans {B ga : Nat} {w1 w2 w3 : World} (h : Kept B ga w1 w2) (k : Kept B ga w2 w3) : Kept B ga w1 w3 := ⟨h.1.trans k.1, h.2.trans k.2⟩
theorem Kept.call {B ga : Nat} {w w' : World} (hb : Below w.heap.size w w') (hB : B ≤ w.heap.size) : Kept B ga w w' := ⟨hb.mono hB, Frame.call hb⟩
set_option maxRecDepth 10000 in
set_option maxHeartbeats 8000000 in
theorem cycle_full (B g ga : Nat) (M : Mc) (ev : List Ev) (w : World) (h : RunS w B g ga M ev) (hh : 999991 < M.had) :
  Calls Tryz.prog 23 #[.pointer (some ⟨g, 0, none⟩)] w fun e w' => (e = .returned (.int .i64 7) ∧ RunS w' B g ga M ev) ∧ Kept B ga w w' := by
 have H := Lib.hid h
 obtain ⟨A0, c0, A1, c1, A2, c2, A3, c3, A4, c4, A5, c5, bx, _⟩ := h.read
 have c73 := (run_cells bx h.m64).2.2.2.2.2.1
 clear h
 go_enter Tryz.func23, Tryz.ntmps23
 go_wp2_with fail
 go_ret
 exact ⟨⟨rfl, H.out⟩, Below.refl _ _, Frame.refl _ _⟩
set_option maxRecDepth 10000 in
set_option maxHeartbeats 8000000 in
theorem cycle_ok (B g ga : Nat) (M : Mc) (ev : List Ev) (w : World) (h : RunS w B g ga M ev) (ok : McOk M) (hh : M.had ≤ 999991) (few : ev.length ≤ 400) :
  Calls Tryz.prog 23 #[.pointer (some ⟨g, 0, none⟩)] w fun e w' => (e = .returned (.int .i64 0) ∧ RunS w' B g ga (cycM didF M).1 (ev ++ (cycM didF M).2)) ∧ Kept B ga w w' := by
 have m64 := h.m64
 have H := Lib.hid h
 obtain ⟨A0, c0, A1, c1, A2, c2, A3, c3, A4, c4, A5, c5, bx, _, _, rs, _⟩ := h.read
 have RS := Lib.hid fun W (hb : Below w.heap.size w W) => (ringStep_ok M.n M.s M.y M.b _ M.ring W (rs.call hb) ok.rng).mono (fun e w' ⟨⟨v', bv, ts, q1, q2, q3, q4, q5⟩, q6⟩ => show (∃ A9 c9 bv, e = Ending.returned (.tuple #[.slice A9 M.ring.length c9, bv, .int .i64 0]) ∧ FrS w' W.heap.size w'.heap.size (.slice A9 M.ring.length c9) (M.ring.map (advS M.n)) ∧ w'.ownsRow W.heap.size 3 1 bv (backN M).length (((backN M).map fun (k : Nat) => (k : Int)).map (Value.int .i64))) ∧ Below W.heap.size W w' from ⟨by
  obtain ⟨A9, c9, rfl⟩ := q2.shape
  rw [List.length_map] at q1 q2
  refine ⟨A9, c9, bv, q1, q2, ?_⟩
  have := back_sorted ok q3 q4
  subst this
  rw [List.length_map] at q5
  exact q5, q6⟩)
 have nn := ok.nodes
 have OK := Lib.hid ok
 have b8 := backN_few ok
 have c73 := (run_cells bx m64).2.2.2.2.2.1
 obtain ⟨⟨n0, _⟩, _⟩ := run_cells bx m64
 clear h rs n0
 have low := Below.refl w.heap.size w
 go_enter Tryz.func23, Tryz.ntmps23
 go_wp2_with fail
 refine wp_region_noPanic ?_
 refine wp_region_held_drew (S := fun w' => Box w' g 127 (runA M.n M.s M.y M.b (.slice A0 M.css.length c0) M.mem (.slice A1 M.ring.length c1) (.slice A2 M.pr.length c2) (.slice A3 M.at_.length c3) (.slice A4 M.wts.length c4) M.had (.slice A5 ev.length c5))) (by kernel_rfl) bx.drew (fun hHeld => ?_)
 replace low := low.drew
 clear bx c73
 generalize w.drew = wN at *
 refine takeA 0 ?_ rfl ?_ ?_; rotate_left
 ·(intro w hSw; go_simp; try (with_reducible rfl))
 try simp only [Act.put, List.setIfInBounds_toArray, List.set_cons_zero, List.set_cons_succ]
 refine takeA 1 ?_ rfl ?_ ?_; rotate_left
 ·(intro w hSw; go_simp; try (with_reducible rfl))
 try simp only [Act.put, List.setIfInBounds_toArray, List.set_cons_zero, List.set_cons_succ]
 refine takeA 2 ?_ rfl ?_ ?_; rotate_left
 ·(intro w hSw; go_simp; try (with_reducible rfl))
 try simp only [Act.put, List.setIfInBounds_toArray, List.set_cons_zero, List.set_cons_succ]
 refine takeFirst (i := 3) (v := .agg (#[.int .i64 M.n, .int .i64 M.s, .int .i64 M.y, .int .i64 M.b])) rfl (by kernel_rfl) (by kernel_rfl) (by kernel_rfl) (by rfl) (fun _ _ _ h => h) (fun _ hSw => exec_loadW tyCfg4 rfl (run_cfg hSw) (rfl)) (by assumption) ?_
 try simp only [Act.put]
 try simp only [List.setIfInBounds_toArray, List.set_cons_zero, List.set_cons_succ]
 refine takeA 4 ?_ rfl ?_ ?_; rotate_left
 ·(intro w hSw; go_simp; try (with_reducible rfl))
 try simp only [Act.put, List.setIfInBounds_toArray, List.set_cons_zero, List.set_cons_succ]
 refine takeA 5 ?_ rfl ?_ ?_; rotate_left
 ·(intro w hSw; go_simp; try (with_reducible rfl))
 try simp only [Act.put, List.setIfInBounds_toArray, List.set_cons_zero, List.set_cons_succ]
 refine takeA 6 ?_ rfl ?_ ?_; rotate_left
 ·(intro w hSw; go_simp; try (with_reducible rfl))
 try simp only [Act.put, List.setIfInBounds_toArray, List.set_cons_zero, List.set_cons_succ]
 refine takeFirst (i := 7) (v := .slice A1 M.ring.length c1) rfl (by kernel_rfl) (by kernel_rfl) (by kernel_rfl) (by rfl) (fun _ _ _ h => h) (fun w' hSw => by have c9 := (run_cells hSw m64).2.1; go_simp) (by assumption) ?_
 try simp only [Act.put]
 try simp only [List.setIfInBounds_toArray, List.set_cons_zero, List.set_cons_succ]
 refine stepNext (i := 8) (by kernel_rfl) rfl (by rfl) (fun K hK => ?_)
 go_simp
 (with_reducible refine (RS.out _ low).mono ?_); rintro e wy ⟨⟨A9, c9, bv, rfl, fr, rb⟩, hbz⟩
 have hNow := hHeld.call hbz
 refine hK.out _ _ hNow ?_
 clear hK K
 try simp only [Act.put]
 try simp only [List.setIfInBounds_toArray, List.set_cons_zero, List.set_cons_succ]
 obtain ⟨Ab, cb, rfl⟩ := own_shape rb
 refine takeA 9 ?_ rfl ?_ ?_; rotate_left
 ·(intro w hSw; go_simp; try (with_reducible rfl))
 try simp only [Act.put, List.setIfInBounds_toArray, List.set_cons_zero, List.set_cons_succ]
 refine takeA 10 ?_ rfl ?_ ?_; rotate_left
 ·(intro w hSw; go_simp; try (with_reducible rfl))
 try simp only [Act.put, List.setIfInBounds_toArray, List.set_cons_zero, List.set_cons_succ]
 refine takeA 11 ?_ rfl ?_ ?_; rotate_left
 ·(intro w hSw; go_simp; try (with_reducible rfl))
 try simp only [Act.put, List.setIfInBounds_toArray, List.set_cons_zero, List.set_cons_succ]
 refine takeA 12 ?_ rfl ?_ ?_; rotate_left
 ·(intro w hSw; go_simp; try (with_reducible rfl))
 try simp only [Act.put, List.setIfInBounds_toArray, List.set_cons_zero, List.set_cons_succ]
 refine takeA 13 ?_ rfl ?_ ?_; rotate_left
 ·(intro w hSw; go_simp; try (with_reducible rfl))
 try simp only [Act.put, List.setIfInBounds_toArray, List.set_cons_zero, List.set_cons_succ]
 refine takeA 14 ?_ rfl ?_ ?_; rotate_left
 ·(intro w hSw; go_simp; try (with_reducible rfl))
 try simp only [Act.put, List.setIfInBounds_toArray, List.set_cons_zero, List.set_cons_succ]
 refine takeA 15 ?_ rfl ?_ ?_; rotate_left
 ·(intro w hSw; go_simp; try (with_reducible rfl))
 try simp only [Act.put, List.setIfInBounds_toArray, List.set_cons_zero, List.set_cons_succ]
 refine wpAnyH_done (by kernel_rfl) ?_ _
 refine NoPanic.normal ?_
 have lz := low.size
 replace low := gCall low hbz
 have gl := H.out.lt
 have gB := H.out.gB
 have FR := Lib.hid (fr.more (B' := B) (C' := wy.heap.size) (by omega) (Nat.le_refl _))
 have H1 := Lib.hid (H.out.call low)
 have c69 := (run_cells hNow m64).2.1
 have f69 := hNow.frozen 69
 have st : Stored wy g (wy.setCell ⟨g, 69, none⟩ (.slice A9 M.ring.length c9)) := Stored.cell1 wy ⟨g, 69, none⟩ _
 obtain ⟨H2, FA⟩ := H1.out.setRing FR.out
 have RB := Lib.hid (row_kept rb st hNow (by decide))
 have H2' := Lib.hid (show RunS _ B g ga (backP M 0).1 (ev ++ (backP M 0).2) by rw [show (backP M 0) = (advM M, []) from rfl, List.append_nil]; exact H2)
 have low2 := Lib.hid (show Kept B ga w _ from ⟨st.low (low.mono (B' := B) (by omega)) gB, (Frame.call low).trans FA⟩)
 have gb : ga < wN.heap.size := by omega
 clear hHeld hNow hbz fr rb st H2 FA FR H1 low RS
 go_wp2_with fail
 clear c69 f69
 generalize wy.setCell ⟨g, 69, none⟩ (.slice A9 M.ring.length c9) = w3 at *
 go_loopw [42] (fun i wr => ∃ j : Nat, j ≤ (backN M).length ∧ i = .int .i64 j ∧ Hid (RunS wr B g ga (backP M j).1 (ev ++ (backP M j).2)) ∧ Hid (wr.ownsRow wN.heap.size 3 1 (.slice Ab (backN M).length cb) (backN M).length (((backN M).map fun (k : Nat) => (k : Int)).map (Value.int .i64))) ∧ Hid (Kept B ga w wr)) (fun i _ => (backN M).length - (intOf i).toNat)
 case atStart => exact ⟨0, Nat.zero_le _, rfl, H2', RB, low2⟩
 case round =>
  clear H2' RB low2
  obtain ⟨j, hj, rfl, R, RB, low⟩ := hrel
  by_cases hlt : j < (backN M).length
  ·have hx : (backN M)[j]? = some (backN M)[j] := List.getElem?_eq_getElem _
   generalize (backN M)[j] = k at hx
   obtain ⟨d, hop, hnx⟩ := back_op OK.out m64 hx
   have cyc := (back_at OK.out m64 j)
   have PF := Lib.hid (perform_is B g ga _ _ k d true wr R.out cyc.1.ok hop (by rw [List.length_append]; have := cyc.2; omega))
   have sl := Sl.ofOwn RB.out
   obtain ⟨b, o, rfl, cx, j1⟩ : ∃ b o, Ab = some ⟨b, o, none⟩ ∧ wr.cell? ⟨b, o + j, none⟩ = some (.int .i64 k) ∧ (j : Int) < (backN M).length := by
    obtain ⟨_, A', c', e, _, _, h3⟩ := sl
    injection e with e1 _ e3
    subst e1 e3
    obtain ⟨b, o, rfl, hb, hc⟩ := h3 (by omega)
    refine ⟨b, o, rfl, ?_, by omega⟩
    have := hc j (.int .i64 k) (by rw [List.getElem?_map, List.getElem?_map, hx]; rfl)
    simpa using this
   have j0 : (0 : Int) ≤ j := by omega
   have HN := Lib.hid hnx
   clear hx hop hnx cyc sl
   go_wp2_with fail
   (with_reducible refine PF.out.mono ?_); rintro e w4 ⟨⟨rfl, rs4, fr4⟩, hb4⟩
   have RB4 := Lib.hid (fr4.row RB.out (by decide) (by decide) gb)
   have R4 := Lib.hid (show RunS w4 B g ga (backP M (j + 1)).1 (ev ++ (backP M (j + 1)).2) by
    rw [HN.out]
    rw [List.append_assoc] at rs4
    exact rs4)
   have low4 := Lib.hid (low.out.trans ⟨hb4, fr4⟩)
   clear rs4 fr4 hb4 cx PF RB R low HN
   go_wp2_with fail
   go_roundw
   case rel => exact ⟨j + 1, by omega, by go_num, R4, RB4, low4⟩
   case measure => simp [intOf]; omega
  ·obtain rfl : j = (backN M).length := by omega
   clear hj hlt
   have R0 := Lib.hid (show RunS wr B g ga (turnP M 0).1 (ev ++ (turnP M 0).2) from R.out)
   obtain ⟨_, _, _, _, _, _, _, _, _, _, _, _, bq, _⟩ := R.out.read
   have mq := R.out.m64
   have nq : (backP M (backN M).length).1.n = M.n := (back_at OK.out m64 (backN M).length).1.same.1
   have c00 := (run_cells bq mq).1.1
   rw [nq] at c00
   clear R bq mq nq
   go_wp2_with fail
   clear c00
   go_loopw [58] (fun i wr => ∃ j : Nat, (j : Int) ≤ M.n ∧ i = .int .i64 j ∧ Hid (RunS wr B g ga (turnP M j).1 (ev ++ (turnP M j).2)) ∧ Hid (wr.ownsRow wN.heap.size 3 1 (.slice Ab (backN M).length cb) (backN M).length (((backN M).map fun (k : Nat) => (k : Int)).map (Value.int .i64))) ∧ Hid (Kept B ga w wr)) (fun i _ => M.n.toNat - (intOf i).toNat)
   case atStart => exact ⟨0, by omega, rfl, R0, RB, low⟩
   case round =>
    clear R0 RB low
    obtain ⟨j, hj, rfl, R, RB, low⟩ := hrel
    by_cases hlt : (j : Int) < M.n
    ·have j0 : (0 : Int) ≤ j := by omega
     have CON := Lib.hid (contains_any (.slice Ab (backN M).length cb) (backN M).length ((backN M).map fun (k : Nat) => (k : Int)) (j : Int) wr (Sl.ofOwn RB.out))
     have MI := Lib.hid (show decide ((j : Int) ∈ (backN M).map fun (k : Nat) => (k : Int)) = decide (j ∈ backN M) by
      rw [decide_eq_decide, List.mem_map]
      constructor
      ·rintro ⟨k, hk, e⟩
       rw [show j = k by omega]; exact hk
      ·exact fun h => ⟨j, h, rfl⟩)
     rw [MI.out] at CON
     go_wp2_with fail
     (with_reducible refine CON.out.mono ?_); rintro e w4 ⟨rfl, rfl⟩
     by_cases hb : j ∈ backN M
     ·rw [decide_eq_true hb]
      have R4 := Lib.hid (show RunS wr B g ga (turnP M (j + 1)).1 (ev ++ (turnP M (j + 1)).2) by rw [turn_next, turnS_was hb]; exact R.out)
      clear CON MI R hb
      go_wp2_with fail
      go_roundw
      case rel => exact ⟨j + 1, by omega, by go_num, R4, RB, low⟩
      case measure => simp [intOf]; omega
     ·rw [decide_eq_false hb]
      have cyc := turn_at OK.out m64 hh j (by omega)
      have TI := Lib.hid (turn_is B g ga _ _ j wr R.out cyc.1.ok (by rw [cyc.1.same.1]; exact hlt) (by rw [List.length_append]; have := cyc.2; omega))
      have HN := Lib.hid (show turnS didF [] ((turnP M j).1, ev ++ (turnP M j).2) j = ((turnP M (j + 1)).1, ev ++ (turnP M (j + 1)).2) by rw [turnS_front, turn_next, turnS_not hb])
      clear CON MI cyc R hb
      go_wp2_with fail
      (with_reducible refine TI.out.mono ?_); rintro e w5 ⟨⟨rfl, rs4, fr4⟩, hb4⟩
      rw [HN.out] at rs4
      have RB4 := Lib.hid (fr4.row RB.out (by decide) (by decide) gb)
      have R4 := Lib.hid rs4
      have low4 := Lib.hid (low.out.trans ⟨hb4, fr4⟩)
      clear rs4 fr4 hb4 TI RB low HN
      go_wp2_with fail
      go_roundw
      case rel => exact ⟨j + 1, by omega, by go_num, R4, RB4, low4⟩
      case measure => simp [intOf]; omega
    ·have e : j = M.n.toNat := by omega
     have R4 := Lib.hid (show RunS wr B g ga (cycM didF M).1 (ev ++ (cycM didF M).2) by rw [← turn_all, ← e]; exact R.out)
     clear R e
     go_wp2_with fail
     go_ret
     exact ⟨⟨rfl, R4.out⟩, low.out⟩
end Go.Proofs.YtcegjehoejgofaaGreat
namespace Go.Proofs.YtcegjehoejgofaaGreat
open Go.ChangeShapes Go.WideShapes Go.ChangeAt Go.RowKit Go.Joins
theorem sum_range (f : Nat → Int) (c : Int) : ∀ N : Nat, (∀ k, k < N → 0 ≤ f k ∧ f k ≤ c) → 0 ≤ ((List.range N).map f).sum ∧ ((List.range N).map f).sum ≤ N * c
 | 0, _ => by simp
 | N + 1, h => by
  have ih := sum_range f c N (fun k hk => h k (by omega))
  have h1 := h N (by omega)
  rw [List.range_succ, List.map_append, List.sum_append]
  simp only [List.map_cons, List.map_nil, List.sum_cons, List.sum_nil]
  have : ((N + 1 : Nat) : Int) * c = N * c + c := by push_cast; rw [Int.add_mul, Int.one_mul]
  omega
theorem left_range {M : Mc} (h : McOk M) : 0 ≤ leftM M ∧ leftM M ≤ 160 := by
 have hn := h.nodes
 have hl := h.len
 obtain ⟨_, _, pz⟩ := progsE_zero h.prg
 have := sum_range (fun k => ((M.pr.getD k []).length : Int) - M.at_.getD k 0) 20 M.at_.length (fun k hk => by
  obtain ⟨x, l, hx, hl', gx, gl, h0, h1⟩ := h.there hk
  have := (listE_zero.1 pz k l hl').1
  simp only [gx, gl]
  omega)
 unfold leftM
 omega
end Go.Proofs.YtcegjehoejgofaaGreat
namespace Go.Proofs.YtcegjehoejgofaaGreat
open Go.ChangeShapes Go.WideShapes Go.ChangeAt Go.RowKit Go.Joins
structure Way2 (M : Mc) (n j : Nat) (M' : Mc) (ev : List Ev) : Prop where
 ok : McOk M'
 err : runF didF n M = runF didF (n - j) M'
 res : runC didF n M = ((runC didF (n - j) M').1, ev ++ (runC didF (n - j) M').2)
 left : (ev.length : Int) + leftM M' = leftM M
set_option maxRecDepth 10000 in
set_option maxHeartbeats 8000000 in
theorem cycles_is (B g ga : Nat) (M : Mc) (n : Nat) (w : World) (h : RunS w B g ga M []) (ok : McOk M) (hn : n ≤ 4000) :
  Calls Tryz.prog 63 #[.pointer (some ⟨g, 0, none⟩), .int .i64 n] w fun e w' => (e = .returned (.int .i64 (runF didF n M)) ∧ (runF didF n M = 0 → RunS w' B g ga (runC didF n M).1 (runC didF n M).2)) ∧ Kept B ga w w' := by
 have l160 := Lib.hid (left_range ok)
 have W0 := Lib.hid (show Way2 M n 0 M [] from ⟨ok, rfl, rfl, by simp⟩)
 have H0 := Lib.hid h
 clear h ok
 generalize hF : runF didF n M = F
 have HF := Lib.hid hF
 clear hF
 go_enter Tryz.func63, Tryz.ntmps63
 go_wp2_with fail
 go_loopw [7] (fun i wr => ∃ (j : Nat) (M' : Mc) (ev : List Ev), j ≤ n ∧ i = .int .i64 j ∧ Hid (Way2 M n j M' ev) ∧ Hid (RunS wr B g ga M' ev) ∧ Hid (Kept B ga w wr)) (fun i _ => n - (intOf i).toNat)
 case atStart => exact ⟨0, M, [], Nat.zero_le _, rfl, W0, H0, Lib.hid ⟨Below.refl _ _, Frame.refl _ _⟩⟩
 case round =>
  clear W0 H0
  obtain ⟨j, M', ev, hj, rfl, W, R, low⟩ := hrel
  by_cases hlt : j < n
  ·obtain ⟨c, hc⟩ : ∃ c, n - j = c + 1 := ⟨n - j - 1, by omega⟩
   have j0 : (0 : Int) ≤ j := by omega
   have j1 : (j : Int) < n := by omega
   have m64 := R.out.m64
   obtain ⟨A0, c0, A1, c1, A2, c2, A3, c3, A4, c4, A5, c5, bx, rd, _⟩ := R.out.read
   have sz : (mcA M'.n M'.s M'.y M'.b (.slice A0 M'.css.length c0) M'.mem (.slice A1 M'.ring.length c1) (.slice A2 M'.pr.length c2) (.slice A3 M'.at_.length c3) (.slice A4 M'.wts.length c4) M'.had).size = (mcA 0 0 0 0 (.slice none 0 0) zeroL (.slice none 0 0) (.slice none 0 0) (.slice none 0 0) (.slice none 0 0) 0).size := by rw [mcA_size m64, mcA_size zeroL_length]
   have rr := run_range bx
   have HE := Lib.hid (hasEnded_is _ M' wr rd W.out.ok.prs)
   clear bx rd
   go_wp2_with ((with_reducible refine wp_loadW (tyMach) (rr) (sz) ?_ ?_ ?_); rfl; rfl)
   (with_reducible refine HE.out.mono ?_); rintro e w1 ⟨rfl, hb⟩
   have R1 := Lib.hid (R.out.call hb)
   have low1 := Lib.hid (low.out.trans (Kept.call hb (by have := R.out.lt; have := R.out.gB; omega)))
   clear hb rr sz HE R low
   cases he : endB M' with
   | true =>
    have e0 : F = 0 := by
     rw [← HF.out, W.out.err]
     exact (run_ended he _).2
    have RR := Lib.hid (show RunS w1 B g ga (runC didF n M).1 (runC didF n M).2 by
     rw [W.out.res, (run_ended he _).1, List.append_nil]
     exact R1.out)
    subst e0
    clear R1 W he
    go_wp2_with fail
    go_ret
    exact ⟨⟨rfl, by first | exact RR.out | exact fun _ => RR.out⟩, low1.out⟩
   | false =>
    have few : ev.length ≤ 400 := by
     have := W.out.left
     have := l160.out
     have := left_range W.out.ok
     omega
    by_cases hf : 999991 < M'.had
    ·have e7 : F = 7 := by
      rw [← HF.out, W.out.err, hc, runF, if_neg (by rw [he]; simp), if_pos hf]
     have CF := Lib.hid (cycle_full B g ga M' ev w1 R1.out hf)
     subst e7
     clear R1 W he few hf
     go_wp2_with fail
     (with_reducible refine CF.out.mono ?_); rintro e w2 ⟨⟨rfl, _⟩, hb⟩
     have low2 := Lib.hid (low1.out.trans hb)
     clear hb CF
     go_wp2_with fail
     go_ret
     exact ⟨⟨rfl, fun h => by cases h⟩, low2.out⟩
    ·have CK := Lib.hid (cycle_ok B g ga M' ev w1 R1.out W.out.ok (by omega) few)
     have mid := cyc_mid didF_ok W.out.ok m64 (by omega)
     have lf := cyc_left didF_ok W.out.ok m64 (by omega)
     have W2 := Lib.hid (show Way2 M n (j + 1) (cycM didF M').1 (ev ++ (cycM didF M').2) from ⟨mid.ok, by
      rw [W.out.err, hc, show n - (j + 1) = c by omega, runF, if_neg (by rw [he]; simp), if_neg hf], by
      rw [W.out.res, hc, show n - (j + 1) = c by omega, runC, if_neg (by rw [he]; simp)]
      simp only [List.append_assoc], by
      have := W.out.left
      rw [List.length_append]
      push_cast
      omega⟩)
     clear R1 W he few hf mid lf
     go_wp2_with fail
     (with_reducible refine CK.out.mono ?_); rintro e w2 ⟨⟨rfl, rs⟩, hb⟩
     have R2 := Lib.hid rs
     have low2 := Lib.hid (low1.out.trans hb)
     clear hb CK rs
     go_wp2_with fail
     go_roundw
     case rel => exact ⟨j + 1, _, _, by omega, by go_num, W2, R2, low2⟩
     case measure => simp [intOf]; omega
  ·obtain rfl : j = n := by omega
   have e0 : F = 0 := by
    rw [← HF.out, W.out.err, Nat.sub_self]
    rfl
   have RR := Lib.hid (show RunS wr B g ga (runC didF j M).1 (runC didF j M).2 by
    rw [W.out.res, Nat.sub_self]
    show RunS wr B g ga M' (ev ++ [])
    rw [List.append_nil]
    exact R.out)
   subst e0
   clear R W
   go_wp2_with fail
   go_ret
   exact ⟨⟨rfl, by first | exact RR.out | exact fun _ => RR.out⟩, low.out⟩
end Go.Proofs.YtcegjehoejgofaaGreat
namespace Go.Proofs.YtcegjehoejgofaaGreat
open Go.ChangeShapes Go.WideShapes Go.ChangeAt Go.RowKit Go.Joins
theorem fill_mid {place : Nat → Option (Nat × Nat)} {a b c : List Value} {i off : Nat} {v : Value} {rest : List (Nat × Value)} (hp : place i = some (off, b.length)) (ha : a.length = off) (hv : v.cells.size = b.length) :
  Instr.fill place (a ++ (b ++ c)).toArray ((i, v) :: rest) = Instr.fill place (a ++ (v.cells.toList ++ c)).toArray rest := by
 rw [Instr.fill]
 simp only [hp]
 rw [if_neg (by simp [hv, ha])]
 congr 1
 refine Array.ext_getElem? fun j => ?_
 rw [← Array.foldl_toList, Array.toList_zipIdx]
 refine (foldl_set v.cells.toList 0 off _ j (by simp [hv, ha])).trans ?_
 have hl : v.cells.toList.length = b.length := by rw [Array.length_toList, hv]
 rw [List.getElem?_toArray, List.getElem?_toArray]
 generalize v.cells.toList = l at hl ⊢
 by_cases h : off + 0 ≤ j ∧ j < off + 0 + l.length
 ·rw [if_pos h, List.getElem?_append_right (by omega), List.getElem?_append_left (by omega)]
  congr 1
  omega
 ·rw [if_neg h]
  by_cases h2 : j < off
  ·rw [List.getElem?_append_left (by omega), List.getElem?_append_left (by omega)]
  ·rw [List.getElem?_append_right (by omega), List.getElem?_append_right (by omega), List.getElem?_append_right (by omega), List.getElem?_append_right (by omega), hl]
theorem fill_end {place : Nat → Option (Nat × Nat)} {cs : Array Value} : Instr.fill place cs [] = some cs := rfl
theorem built_run (parts : List (Nat × Value)) : Tryz.prog.built 127 parts = Instr.fill (#[(0, 74), (74, 1)][·]?) (runA 0 0 0 0 (.slice none 0 0) zeroL (.slice none 0 0) (.slice none 0 0) (.slice none 0 0) (.slice none 0 0) 0 (.slice none 0 0)) parts := by kernel_rfl
theorem build_run {n s y b h : Int} {u rv pv av tv : Value} {m : List Int} (hm : m.length = 64) (w : World) :
  (Instr.build 127 #[(0, .agg (mcA n s y b u m rv pv av tv h))]).run Tryz.prog w = .ok (.agg (runA n s y b u m rv pv av tv h (.slice none 0 0))) w := by
 refine run_build w _ _ _ ?_
 rw [built_run]
 have e : runA 0 0 0 0 (.slice none 0 0) zeroL (.slice none 0 0) (.slice none 0 0) (.slice none 0 0) (.slice none 0 0) 0 (.slice none 0 0) = (([] : List Value) ++ (mcL 0 0 0 0 (.slice none 0 0) zeroL (.slice none 0 0) (.slice none 0 0) (.slice none 0 0) (.slice none 0 0) 0 ++ ([.slice none 0 0] : List Value))).toArray := by unfold runA; rw [runL_mach]; rfl
 rw [e]
 refine (fill_mid (by rw [mcL_length zeroL_length]; rfl) rfl (by show (mcA n s y b u m rv pv av tv h).size = _; rw [mcA_size hm, mcL_length zeroL_length])).trans ?_
 rw [fill_end]
 congr 1
 unfold runA
 rw [runL_mach]
 rfl
theorem built_mach (parts : List (Nat × Value)) : Tryz.prog.built 37 parts = Instr.fill (#[(0, 4), (4, 65), (69, 1), (70, 1), (71, 1), (72, 1), (73, 1)][·]?) (mcA 0 0 0 0 (.slice none 0 0) zeroL (.slice none 0 0) (.slice none 0 0) (.slice none 0 0) (.slice none 0 0) 0) parts := by kernel_rfl
theorem build_mach {n s y b : Int} {u : Value} {A1 A2 A3 A4 : Option Addr} {n1 n2 n3 n4 c1 c2 c3 c4 : Nat} {m : List Int} (hm : m.length = 64) (w : World) :
  (Instr.build 37 #[(0, cfg n s y b), (1, .agg (wldA u m)), (2, .slice A1 n1 c1), (3, .slice A2 n2 c2), (4, .slice A3 n3 c3), (5, .slice A4 n4 c4)]).run Tryz.prog w =
   .ok (.agg (mcA n s y b u m (.slice A1 n1 c1) (.slice A2 n2 c2) (.slice A3 n3 c3) (.slice A4 n4 c4) 0)) w := by
 refine run_build w _ _ _ ?_
 rw [built_mach]
 have e : mcA 0 0 0 0 (.slice none 0 0) zeroL (.slice none 0 0) (.slice none 0 0) (.slice none 0 0) (.slice none 0 0) 0 = (([] : List Value) ++ (([.int .i64 0, .int .i64 0, .int .i64 0, .int .i64 0] : List Value) ++ ((wldA (.slice none 0 0) zeroL).toList ++ ([.slice none 0 0, .slice none 0 0, .slice none 0 0, .slice none 0 0, .int .i64 0] : List Value)))).toArray := by
  unfold mcA mcL wldA
  simp
 have sw : ∀ (u : Value) {m : List Int}, m.length = 64 → (wldA u m).toList.length = 65 := fun u m h => by simp [wldA, h]
 rw [e]
 refine (fill_mid (a := []) (b := [.int .i64 0, .int .i64 0, .int .i64 0, .int .i64 0]) (c := (wldA (.slice none 0 0) zeroL).toList ++ [.slice none 0 0, .slice none 0 0, .slice none 0 0, .slice none 0 0, .int .i64 0]) (off := 0) (v := cfg n s y b) ?_ ?_ ?_).trans ?_
 ·rfl
 ·rfl
 ·rfl
 refine (fill_mid (a := [.int .i64 n, .int .i64 s, .int .i64 y, .int .i64 b]) (b := (wldA (.slice none 0 0) zeroL).toList) (c := [.slice none 0 0, .slice none 0 0, .slice none 0 0, .slice none 0 0, .int .i64 0]) (off := 4) (v := .agg (wldA u m)) ?_ ?_ ?_).trans ?_
 ·rw [sw _ zeroL_length]; rfl
 ·rfl
 ·show (wldA u m).size = _; rw [sw _ zeroL_length]; simp [wldA, hm]
 have asc (x : List Value) : ([.int .i64 n, .int .i64 s, .int .i64 y, .int .i64 b] : List Value) ++ ((Value.agg (wldA u m)).cells.toList ++ x) = (([.int .i64 n, .int .i64 s, .int .i64 y, .int .i64 b] : List Value) ++ (wldA u m).toList) ++ x := by rw [List.append_assoc]; rfl
 rw [asc]
 have hl : ((([.int .i64 n, .int .i64 s, .int .i64 y, .int .i64 b] : List Value) ++ (wldA u m).toList)).length = 69 := by rw [List.length_append, sw _ hm]; rfl
 have hx : mcA n s y b u m (.slice A1 n1 c1) (.slice A2 n2 c2) (.slice A3 n3 c3) (.slice A4 n4 c4) 0 = ((([.int .i64 n, .int .i64 s, .int .i64 y, .int .i64 b] : List Value) ++ (wldA u m).toList) ++ ([.slice A1 n1 c1, .slice A2 n2 c2, .slice A3 n3 c3, .slice A4 n4 c4, .int .i64 0] : List Value)).toArray := by
  unfold mcA mcL wldA
  simp
 rw [hx]
 generalize (([.int .i64 n, .int .i64 s, .int .i64 y, .int .i64 b] : List Value) ++ (wldA u m).toList) = H at hl ⊢
 refine (fill_mid (a := H) (b := [.slice none 0 0]) (c := [.slice none 0 0, .slice none 0 0, .slice none 0 0, .int .i64 0]) (off := 69) (v := .slice A1 n1 c1) ?_ ?_ ?_).trans ?_
 ·rfl
 ·exact hl
 ·rfl
 have s1 (x : Value) (r : List Value) : H ++ (x.cells.toList ++ r) = (H ++ x.cells.toList) ++ r := by rw [List.append_assoc]
 rw [s1]
 refine (fill_mid (a := H ++ [.slice A1 n1 c1]) (b := [.slice none 0 0]) (c := [.slice none 0 0, .slice none 0 0, .int .i64 0]) (off := 70) (v := .slice A2 n2 c2) ?_ ?_ ?_).trans ?_
 ·rfl
 ·simp [hl]
 ·rfl
 rw [← List.append_assoc]
 refine (fill_mid (a := H ++ [.slice A1 n1 c1] ++ [.slice A2 n2 c2]) (b := [.slice none 0 0]) (c := [.slice none 0 0, .int .i64 0]) (off := 71) (v := .slice A3 n3 c3) ?_ ?_ ?_).trans ?_
 ·rfl
 ·simp [hl]
 ·rfl
 rw [← List.append_assoc]
 refine (fill_mid (a := H ++ [.slice A1 n1 c1] ++ [.slice A2 n2 c2] ++ [.slice A3 n3 c3]) (b := [.slice none 0 0]) (c := [.int .i64 0]) (off := 72) (v := .slice A4 n4 c4) ?_ ?_ ?_).trans ?_
 ·rfl
 ·simp [hl]
 ·rfl
 rw [fill_end]
 congr 2
 simp [Value.cells]
end Go.Proofs.YtcegjehoejgofaaGreat
namespace Go.Proofs.YtcegjehoejgofaaGreat
open Go.ChangeShapes Go.WideShapes Go.ChangeAt Go.RowKit Go.Joins
def ckE (M : Mc) : Int := if (M.at_.length : Int) ≠ M.n then 3 else if atsB M.pr M.at_ = false then 4 else 0
set_option maxRecDepth 10000 in
set_option maxHeartbeats 8000000 in
theorem checkAt_any (v : Value) (M : Mc) (w : World) (h : MRead w v M) (hp : (M.pr.length : Int) = M.n) :
  Calls Tryz.prog 46 #[v] w fun e w' => e = .returned (.int .i64 (ckE M)) ∧ Below w.heap.size w w' := by
 have m64 := h.m64
 obtain ⟨A0, c0, A1, c1, A2, c2, A3, c3, A4, c4, rfl, k0, k1, k2, k3, k4⟩ := h.shape
 obtain ⟨_, A', c', e', a1, a2, _⟩ := id k3
 injection e' with e1 _ e3
 subst e1 e3
 unfold maxLen at a2
 have PS := Lib.hid k2
 have AT := Lib.hid k3
 generalize hE : ckE M = E
 have HE := Lib.hid hE
 clear h k0 k1 k2 k3 k4 hE
 have CELLS := Lib.hid (fun (W : World) (g : Nat) (hb : Box W g 37 (mcA M.n M.s M.y M.b (.slice A0 M.css.length c0) M.mem (.slice A1 M.ring.length c1) (.slice A2 M.pr.length c2) (.slice A3 M.at_.length c3) (.slice A4 M.wts.length c4) M.had)) => mach_cells hb m64)
 generalize mcA M.n M.s M.y M.b (.slice A0 M.css.length c0) M.mem (.slice A1 M.ring.length c1) (.slice A2 M.pr.length c2) (.slice A3 M.at_.length c3) (.slice A4 M.wts.length c4) M.had = XA at *
 have low := Below.refl w.heap.size w
 have xb := boxNext low 37 XA
 replace low := gAlloc low (.cells XA 37)
 try simp only [World.size_alloc] at xb
 obtain ⟨⟨x0, x1, x2, x3⟩, x69, x70, x71, x72, x73⟩ := CELLS.out _ _ xb
 go_enter Tryz.func46, Tryz.ntmps46
 by_cases h4 : (M.at_.length : Int) ≠ M.n
 ·have e := HE.out
  unfold ckE at e
  rw [if_pos h4] at e
  subst e
  have h4' : ((M.at_.length : Int) != M.n) = true := by simpa using h4
  clear HE h4
  go_wp2_with fail
  go_ret
  exact ⟨rfl, low⟩
 have g4 : ((M.at_.length : Int) != M.n) = false := by simpa using h4
 have g5 : M.pr.length = M.at_.length := by
  have : (M.at_.length : Int) = M.n := by simpa using h4
  omega
 have HE2 := Lib.hid (show E = if atsB M.pr M.at_ = false then 4 else 0 by
  have e := HE.out
  unfold ckE at e
  rw [if_neg h4] at e
  exact e.symm)
 clear HE h4 hp
 go_wp2_with fail
 clear x0 x1 x2 x3 x69 x70 x71 x72 x73
 go_loopw [15] (fun i wr => ∃ j : Nat, j ≤ M.at_.length ∧ i = .int .i64 j ∧ Hid (∀ k, k < j → 0 ≤ M.at_.getD k 0 ∧ M.at_.getD k 0 ≤ ((M.pr.getD k []).length : Int)) ∧ Box wr w.heap.size 37 XA ∧ Below w.heap.size w wr) (fun i _ => M.at_.length - (intOf i).toNat)
 case atStart => exact ⟨0, Nat.zero_le _, rfl, Lib.hid (fun k hk => by omega), xb, low⟩
 case round =>
  clear xb low
  obtain ⟨j, hj, rfl, hok, xb, low⟩ := hrel
  by_cases hlt : j < M.at_.length
  ·have hx : M.at_[j]? = some M.at_[j] := List.getElem?_eq_getElem _
   have hy : M.pr[j]? = some (M.pr[j]'(by omega)) := List.getElem?_eq_getElem _
   generalize M.at_[j] = x at hx
   generalize M.pr[j]'(by omega) = l at hy
   have gx : M.at_.getD j 0 = x := by simp [List.getD, hx]
   have gy : M.pr.getD j [] = l := by simp [List.getD, hy]
   have BAD := Lib.hid (show ¬ (0 ≤ x ∧ x ≤ (l.length : Int)) → E = 4 from fun h => by
    rw [HE2.out, if_pos ?_]
    unfold atsB
    rw [List.all_eq_false]
    exact ⟨j, by simpa using hlt, by rw [gx, gy]; simpa using h⟩)
   have NX := Lib.hid (show 0 ≤ x ∧ x ≤ (l.length : Int) → ∀ k, k < j + 1 → 0 ≤ M.at_.getD k 0 ∧ M.at_.getD k 0 ≤ ((M.pr.getD k []).length : Int) from fun h k hk => by
    by_cases e : k = j
    ·rw [e, gx, gy]; exact h
    ·exact hok.out k (by omega))
   obtain ⟨⟨x0, x1, x2, x3⟩, x69, x70, x71, x72, x73⟩ := CELLS.out _ _ xb
   obtain ⟨b, o, rfl, cx, j1⟩ := int_there AT.out low hx
   obtain ⟨b2, o2, A', c', rfl, cy, j2⟩ := prog_there PS.out low hy
   have j0 : (0 : Int) ≤ j := by omega
   clear hx hy gx gy hok
   by_cases h0 : x < 0
   ·have e4 := BAD.out (by omega)
    subst e4
    go_wp2_with fail
    go_ret
    exact ⟨rfl, low⟩
   ·by_cases h9 : (l.length : Int) < x
    ·have e4 := BAD.out (by omega)
     subst e4
     go_wp2_with fail
     go_ret
     exact ⟨rfl, low⟩
    ·have N2 := Lib.hid (NX.out (by omega))
     clear BAD NX
     go_wp2_with fail
     go_roundw
     case rel => exact ⟨j + 1, by omega, by go_num, N2, xb, low⟩
     case measure => simp [intOf]; omega
  ·obtain rfl : j = M.at_.length := by omega
   have e1 : E = 0 := by
    rw [HE2.out, if_neg ?_]
    rw [Bool.not_eq_false]
    unfold atsB
    rw [List.all_eq_true]
    intro k hk
    have := hok.out k (by simpa using hk)
    simpa using this
   subst e1
   go_wp2_with fail
   go_ret
   exact ⟨rfl, low⟩
set_option maxRecDepth 10000 in
set_option maxHeartbeats 8000000 in
theorem machCheck_any : MCheckIs := by
 intro v M w h
 have m64 := h.m64
 have HR := Lib.hid h
 obtain ⟨A0, c0, A1, c1, A2, c2, A3, c3, A4, c4, hv, k0, k1, k2, k3, k4⟩ := h.shape
 have AC := Lib.hid fun W hW => agreeCheck_any M.n M.s M.y M.b _ M.mem M.css W (k0.call hW) m64
 have RC := Lib.hid fun W hW => ringCheck_any M.n M.s M.y M.b _ M.ring W (k1.call hW)
 have PC := Lib.hid fun W hW => progCheck_any M.n M.s M.y M.b _ M.pr W (k2.call hW)
 have WC := Lib.hid fun W hW => areWaits_any _ M.wts W (Sl.call k4 hW)
 have K1 := Lib.hid k1
 subst hv
 have sz : (mcA M.n M.s M.y M.b (.slice A0 M.css.length c0) M.mem (.slice A1 M.ring.length c1) (.slice A2 M.pr.length c2) (.slice A3 M.at_.length c3) (.slice A4 M.wts.length c4) M.had).size = (mcA 0 0 0 0 (.slice none 0 0) zeroL (.slice none 0 0) (.slice none 0 0) (.slice none 0 0) (.slice none 0 0) 0).size := by rw [mcA_size m64, mcA_size zeroL_length]
 have CELLS := Lib.hid (fun (W : World) (g : Nat) (hb : Box W g 37 (mcA M.n M.s M.y M.b (.slice A0 M.css.length c0) M.mem (.slice A1 M.ring.length c1) (.slice A2 M.pr.length c2) (.slice A3 M.at_.length c3) (.slice A4 M.wts.length c4) M.had)) => mach_cells hb m64)
 have WLD := Lib.hid (fun (W : World) (g : Nat) (hb : Box W g 37 (mcA M.n M.s M.y M.b (.slice A0 M.css.length c0) M.mem (.slice A1 M.ring.length c1) (.slice A2 M.pr.length c2) (.slice A3 M.at_.length c3) (.slice A4 M.wts.length c4) M.had)) => mach_wld hb)
 generalize mcA M.n M.s M.y M.b (.slice A0 M.css.length c0) M.mem (.slice A1 M.ring.length c1) (.slice A2 M.pr.length c2) (.slice A3 M.at_.length c3) (.slice A4 M.wts.length c4) M.had = XA at *
 generalize hE : mcE M = E
 have HE := Lib.hid hE
 clear h k0 k1 k2 k3 k4 hE
 have low := Below.refl w.heap.size w
 have xb := boxNext low 37 XA
 replace low := gAlloc low (.cells XA 37)
 try simp only [World.size_alloc] at xb
 have xw := WLD.out _ _ xb
 obtain ⟨⟨x0, x1, x2, x3⟩, x69, x70, x71, x72, x73⟩ := CELLS.out _ _ xb
 go_enter Tryz.func21, Tryz.ntmps21
 go_wp2_with (first | ((with_reducible refine wp_loadW (tyWorld) (xw) (wld_size m64) ?_ ?_ ?_); rfl; rfl))
 (with_reducible refine (AC.out _ low).mono ?_); rintro e w1 ⟨rfl, hb⟩
 replace xb := xb.call hb
 replace low := gCall low hb
 clear hb x0 x1 x2 x3 x69 x70 x71 x72 x73 xw AC
 by_cases h1 : cohE M.n M.s M.y M.b M.css M.mem ≠ 0
 ·have e := HE.out
  unfold mcE at e
  rw [if_pos h1] at e
  rw [e] at h1 ⊢
  have h1' : (E != 0) = true := by simpa using h1
  clear e HE h1
  go_wp2_with fail
  go_ret
  exact ⟨rfl, low⟩
 have g1 : cohE M.n M.s M.y M.b M.css M.mem = 0 := by simpa using h1
 rw [g1]
 obtain ⟨⟨x0, x1, x2, x3⟩, x69, x70, x71, x72, x73⟩ := CELLS.out _ _ xb
 go_wp2_with fail
 (with_reducible refine (RC.out _ low).mono ?_); rintro e w2 ⟨rfl, hb⟩
 replace xb := xb.call hb
 replace low := gCall low hb
 clear hb x0 x1 x2 x3 x69 x70 x71 x72 x73 RC
 by_cases h2 : ringE M.n M.s M.y M.b M.ring ≠ 0
 ·have e := HE.out
  unfold mcE at e
  rw [if_neg h1, if_pos h2] at e
  rw [e] at h2 ⊢
  have h2' : (E != 0) = true := by simpa using h2
  clear e HE h2
  go_wp2_with fail
  go_ret
  exact ⟨rfl, low⟩
 have g2 : ringE M.n M.s M.y M.b M.ring = 0 := by simpa using h2
 rw [g2]
 obtain ⟨⟨x0, x1, x2, x3⟩, x69, x70, x71, x72, x73⟩ := CELLS.out _ _ xb
 go_wp2_with fail
 (with_reducible refine (PC.out _ low).mono ?_); rintro e w3 ⟨rfl, hb⟩
 replace xb := xb.call hb
 replace low := gCall low hb
 clear hb x0 x1 x2 x3 x69 x70 x71 x72 x73 PC
 by_cases h3 : progsE M.n M.s M.y M.b M.pr ≠ 0
 ·have e := HE.out
  unfold mcE at e
  rw [if_neg h1, if_neg h2, if_pos h3] at e
  rw [e] at h3 ⊢
  have h3' : (E != 0) = true := by simpa using h3
  clear e HE h3
  go_wp2_with fail
  go_ret
  exact ⟨rfl, low⟩
 have g3 : progsE M.n M.s M.y M.b M.pr = 0 := by simpa using h3
 rw [g3]
 obtain ⟨_, pl, _⟩ := progsE_zero g3
 have CA := Lib.hid fun W hW => checkAt_any (.agg XA) M W hW (by omega)
 have HE2 := Lib.hid (show E = if ckE M ≠ 0 then ckE M else if waitsB M.wts = false ∨ M.had < 0 ∨ 1000000 < M.had then 4 else if stuckB M = true then 3 else 0 by
  have e := HE.out
  unfold mcE at e
  rw [if_neg h1, if_neg h2, if_neg h3] at e
  rw [← e]
  unfold ckE
  by_cases q1 : (M.at_.length : Int) ≠ M.n
  ·rw [if_pos q1, if_pos q1]; rfl
  ·rw [if_neg q1, if_neg q1]
   by_cases q2 : atsB M.pr M.at_ = false
   ·rw [if_pos q2, if_pos q2]; rfl
   ·rw [if_neg q2, if_neg q2]; rfl)
 have CK0 := Lib.hid (show ckE M = 0 → M.pr.length = M.at_.length from fun h => by
  unfold ckE at h
  by_cases q1 : (M.at_.length : Int) ≠ M.n
  ·rw [if_pos q1] at h; cases h
  ·omega)
 have RN := Lib.hid (show ckE M = 0 → ∀ x ∈ M.ring, 0 ≤ x.nd ∧ x.nd < (M.at_.length : Int) from fun h x hx => by
  have := (slotsE_slots (ringE_ok g2).2.2.2 x hx).2.1
  rw [nodB_iff] at this
  unfold ckE at h
  by_cases q1 : (M.at_.length : Int) ≠ M.n
  ·rw [if_pos q1] at h; cases h
  ·omega)
 generalize ckE M = K at *
 clear HE h1 h2 h3 g1 g2 g3 pl
 have rx := xb.range
 go_wp2_with ((with_reducible refine wp_loadW (tyMach) (rx) (sz) ?_ ?_ ?_); rfl; rfl)
 (with_reducible refine (CA.out _ (HR.out.call low)).mono ?_); rintro e w4 ⟨rfl, hb⟩
 replace xb := xb.call hb
 replace low := gCall low hb
 clear hb rx CA
 by_cases h4 : K ≠ 0
 ·have e := HE2.out
  rw [if_pos h4] at e
  subst e
  have h4' : (E != 0) = true := by simpa using h4
  clear HE2 h4
  go_wp2_with fail
  go_ret
  exact ⟨rfl, low⟩
 have g4 : K = 0 := by simpa using h4
 subst g4
 have HE3 := Lib.hid (show E = if waitsB M.wts = false ∨ M.had < 0 ∨ 1000000 < M.had then 4 else if stuckB M = true then 3 else 0 by rw [HE2.out, if_neg h4])
 clear HE2 h4
 obtain ⟨⟨x0, x1, x2, x3⟩, x69, x70, x71, x72, x73⟩ := CELLS.out _ _ xb
 go_wp2_with fail
 (with_reducible refine (WC.out _ low).mono ?_); rintro e w5 ⟨rfl, hb⟩
 replace xb := xb.call hb
 replace low := gCall low hb
 clear hb x0 x1 x2 x3 x69 x70 x71 x72 x73 WC
 obtain ⟨⟨x0, x1, x2, x3⟩, x69, x70, x71, x72, x73⟩ := CELLS.out _ _ xb
 by_cases h5 : waitsB M.wts = false ∨ M.had < 0 ∨ 1000000 < M.had
 ·have e := HE3.out
  rw [if_pos h5] at e
  subst e
  clear HE3
  by_cases q : waitsB M.wts = false
  ·rw [q]
   clear h5
   go_wp2_with fail
   go_ret
   exact ⟨rfl, low⟩
  ·have q' : waitsB M.wts = true := by simpa using q
   rw [q']
   by_cases q2 : M.had < 0
   ·clear h5
    go_wp2_with fail
    go_ret
    exact ⟨rfl, low⟩
   ·have q3 : 1000000 < M.had := by rcases h5 with h | h | h <;> first | exact absurd h q | omega
    clear h5
    go_wp2_with fail
    go_ret
    exact ⟨rfl, low⟩
 have q1 : waitsB M.wts = true := by
  cases e : waitsB M.wts
  ·exact absurd (.inl e) h5
  ·rfl
 have q2 : ¬ M.had < 0 := fun h => h5 (.inr (.inl h))
 have q3 : ¬ 1000000 < M.had := fun h => h5 (.inr (.inr h))
 have HE4 := Lib.hid (show E = if stuckB M = true then 3 else 0 by rw [HE3.out, if_neg h5])
 clear HE3 h5
 rw [q1]
 have SB := stuck_any (RN.out (by simp))
 have CON := Lib.hid (fun (W : World) (low : Below w.heap.size w W) (hc : Box W w.heap.size 37 XA) => containsSlotIn 48 (fun _ _ => by kernel_rfl) w.heap.size (finS M) _ M.ring W (K1.out.call low)
  (fun x W' hx hb => stuck1_any (.agg XA) M x w.heap.size W' ((HR.out.call low).call hb) ⟨XA, rfl, hc.call hb⟩ (RN.out (by simp) x hx) (CK0.out (by simp))))
 rw [SB] at CON
 generalize stuckB M = T at *
 clear SB
 go_wp2_with fail
 (with_reducible refine (CON.out _ low xb).mono ?_); rintro e w6 ⟨rfl, hb⟩
 replace low := gCall low hb
 clear hb x0 x1 x2 x3 x69 x70 x71 x72 x73 CON
 cases T
 ·have e := HE4.out
  rw [if_neg (by simp)] at e
  subst e
  go_wp2_with fail
  go_ret
  exact ⟨rfl, low⟩
 ·have e := HE4.out
  rw [if_pos rfl] at e
  subst e
  go_wp2_with fail
  go_ret
  exact ⟨rfl, low⟩
end Go.Proofs.YtcegjehoejgofaaGreat
