/-
Proved: a machine from the beginning on, behind some cycles: what 'begun' of the statements' package gives; what is known of such a machine. Conditions: what New and Run of package machine give (handed in).
-/
import Derived.Test.YtcegjehoejgofaaGreatMachGives
import Derived.Test.YtcegjehoejgofaaGreatJoined7
import Derived.Test.YtcegjehoejgofaaGreatMachLegal
import Derived.Test.YtcegjehoejgofaaGreatJoined8
import Derived.Test.YtcegjehoejgofaaGreatTally
import Derived.Test.YtcegjehoejgofaaGreatPathFacts
namespace Go.Proofs.YtcegjehoejgofaaGreat
open Go.ChangeShapes Go.WideShapes Go.ChangeAt Go.RowKit Go.Joins
def Begun (n s y b k : Int) (p : List (List Dd)) (wts : List Int) (X : Mc × List Ev) : Prop :=
 ∃ css c, newE n s y b k p wts = 0 ∧ cohE n s y b css zeroL = 0 ∧ flatW css zeroL = zeroL ∧ runE' (newMc n s y b css k.toNat p wts) c = 0 ∧ X = runs (newMc n s y b css k.toNat p wts) c
structure BegunOk (n s y b : Int) (p : List (List Dd)) (X : Mc × List Ev) : Prop where
 cfg : cfgB n s y b = true
 coh : cohE X.1.n X.1.s X.1.y X.1.b X.1.css X.1.mem = 0
 m64 : X.1.mem.length = 64
 few : X.2.length ≤ 160
 flat : flatW X.1.css X.1.mem = memE zeroL X.2
 fine : memF X.2 = 0
 legal : legB zeroL (evTd X.2) = true
 told : toldE 200 (evTd X.2) = 0
 keeps : keepB p (evTd X.2) = true
 keepsE : keepE p (evTd X.2) = 0
 node : ∀ x ∈ X.2, deedE x.d = 0 ∧ 0 ≤ x.d.nd ∧ x.d.nd < n
theorem Begun.ok {n s y b k : Int} {p : List (List Dd)} {wts : List Int} {X : Mc × List Ev} (h : Begun n s y b k p wts X) : BegunOk n s y b p X := by
 obtain ⟨css, c, h1, h2, h3, h4, rfl⟩ := h
 show BegunOk n s y b p (runC didF c.toNat (newMc n s y b css k.toNat p wts))
 have ok := (newMc_ok h1 h2).1
 have m0 : (newMc n s y b css k.toNat p wts).mem.length = 64 := zeroL_length
 have hE := mcE_zero.2 ok
 unfold runE' at h4
 rw [if_neg (by rw [hE]; simp)] at h4
 split at h4
 ·cases h4
 ·have r := run_ok didF_ok c.toNat _ ok m0 h4
  have inv := run_inv didF_ok c.toNat _ ok m0 h4
  have few := run_events didF_ok ok m0 h4
  have a0 : ∀ k', (newMc n s y b css k.toNat p wts).at_.getD k' 0 = 0 := fun k' => by
   simp [newMc, List.getD, List.getElem?_replicate]
   split <;> rfl
  have hl := inv.legal
  have hf := inv.flat
  have e0 : flatW (newMc n s y b css k.toNat p wts).css (newMc n s y b css k.toNat p wts).mem = zeroL := h3
  rw [e0] at hl hf
  have te := inv.errs (by omega)
  have mf : memF (runC didF c.toNat (newMc n s y b css k.toNat p wts)).2 = 0 := by
   unfold memF
   rw [if_neg (by omega)]
   exact inv.good
  obtain ⟨p1, p2, _⟩ := progsE_zero ok.prg
  refine ⟨p1, r.1.coh, r.2, few, ?_, mf, hl, te, inv.keeps a0, ?_, fun x hx => ?_⟩
  ·show flatW _ _ = memE zeroL _
   unfold memE
   rw [if_pos mf]
   exact hf
  ·unfold keepE
   rw [te, if_neg (by simp), if_neg]
   have := cfgB_iff.1 p1
   have p2' : (p.length : Int) = n := p2
   have p1' := cfgB_iff.1 (show cfgB n s y b = true from p1)
   omega
  ·have hd : x.d ∈ evD (runC didF c.toNat (newMc n s y b css k.toNat p wts)).2 := List.mem_map.2 ⟨x, hx, rfl⟩
   exact ⟨runE_zero.1 inv.good _ hd, inv.node _ hd⟩
theorem BegunOk.explained {n s y b : Int} {p : List (List Dd)} {X : Mc × List Ev} (h : BegunOk n s y b p X) (h12 : X.2.length ≤ 12) :
  tallyE n s y b X.2 = 0 ∧ explE (logsL n X.2) = 0 ∧ (explR zeroL (logsL n X.2)).isSome = true ∧ ∀ l ∈ logsL n X.2, l.length ≤ 140737488355328 := by
 have hn := cfgB_iff.1 h.cfg
 obtain ⟨N, rfl⟩ : ∃ N : Nat, n = N := ⟨n.toNat, by omega⟩
 have e : logsL (N : Int) X.2 = mineT N (evTd X.2) := rfl
 have nd : ∀ t ∈ evTd X.2, 0 ≤ t.d.nd ∧ t.d.nd < (N : Int) := fun t ht => by
  obtain ⟨x, hx, rfl⟩ := List.mem_map.1 ht
  exact (h.node x hx).2
 have tot := mineT_tot nd
 rw [evTd_length] at tot
 refine ⟨tallyE_zero.2 ⟨h.cfg, by omega, nodeE_zero.2 fun x hx => ⟨(h.node x hx).1, (h.node x hx).2.2⟩⟩, ?_, ?_, fun l hl => ?_⟩
 ·rw [e]
  unfold explE
  have hm : (mineT N (evTd X.2)).length = N := by simp [mineT]
  rw [if_neg (by omega), logsE_zero]
  intro l hl t ht
  obtain ⟨k, _, rfl⟩ := List.mem_map.1 hl
  obtain ⟨x, hx, rfl⟩ := List.mem_map.1 (List.mem_filter.1 ht).1
  exact (h.node x hx).1
 ·rw [e]
  exact order_found nd h.legal
 ·rw [e] at hl
  have := totL_in hl
  omega
theorem NewM.kept {w w' : World} {B g : Nat} {v : Value} {M : Mc} {cs : Array Value} (h : NewM w B v M) (st : Stored w g w') (zb : Box w g 37 cs) (hg : g < B) : NewM w' B v M := by
 obtain ⟨m64, A0, c0, A1, c1, A2, c2, A3, c3, A4, c4, ga, Bk, Ck, Bt, rfl, ⟨k, k1, k2, k3⟩, ⟨gr, r1, r2, r3⟩, p, ⟨a, a1⟩, ⟨t, t1, t2⟩⟩ := h
 exact ⟨m64, _, _, _, _, _, _, _, _, _, _, ga, _, _, _, rfl, ⟨k.out st (.inl (by omega)), k1, by rw [st.size]; exact k2, k3⟩, ⟨gr, r1, by rw [st.size]; exact r2, r3.stored st (by omega)⟩, p.kept st zb (by decide) (by decide), ⟨a.kept st (by omega), a1⟩, ⟨row_kept t st zb (by decide), t1, t2⟩⟩
theorem givesN {E : Int} {X : Mc × List Ev} {B : Nat} {e : Ending} {w' : World} (h : GivesN E X B e w') : ∃ XA Au nu cu, e = .returned (.tuple #[.agg XA, .slice Au nu cu, .int .i64 E]) ∧ XA.size = mc0A.size ∧ XA.all (·.oneCell') = true ∧
  (E = 0 → NewM w' B (.agg XA) X.1 ∧ w'.ownsRow B 51 6 (.slice Au nu cu) X.2.length (elE.C X.2) ∧ nu = X.2.length) := by
 obtain ⟨v, u, rfl, ⟨h0, rfl, rfl⟩ | ⟨rfl, rd, el⟩⟩ := h
 ·exact ⟨mc0A, none, 0, 0, rfl, rfl, mcA_one, fun h => absurd h h0⟩
 ·obtain ⟨XA, rfl, h1, h2⟩ := rd.shape
  obtain ⟨A, c, rfl⟩ := own_shape el
  exact ⟨XA, A, _, c, rfl, h1, h2, fun _ => ⟨rd, el, rfl⟩⟩
def BegunIs (n s y b k : Int) (p : List (List Dd)) (wts : List Int) (e : Ending) (w' : World) : Prop :=
 ∃ XA Au nu cu B, e = .returned (.tuple #[.agg XA, .slice Au nu cu, .bool B]) ∧ XA.size = mc0A.size ∧ XA.all (·.oneCell') = true ∧
  (B = true → ∃ X, Begun n s y b k p wts X ∧ MRead w' (.agg XA) X.1 ∧ elE.R w' (.slice Au nu cu) X.2 ∧ nu = X.2.length)
set_option maxRecDepth 10000 in
set_option maxHeartbeats 8000000 in
theorem begun_is (NI : MNewIs) (n s y b k c : Int) (pv tv : Value) (p : List (List Dd)) (wts : List Int) (w : World) (hp : Ps w pv p) (ht : Sl w w.heap.size 1 tv wts.length (wts.map (Value.int .i64))) :
  Calls Tryz.prog 12 #[cfg n s y b, .int .i64 k, pv, tv, .int .i64 c] w fun e w' => BegunIs n s y b k p wts e w' ∧ Below w.heap.size w w' := by
 have NN := Lib.hid fun w hp ht => NI n s y b k pv tv p wts w hp ht
 have RN := Lib.hid run_new
 have HP := Lib.hid hp
 have HT := Lib.hid ht
 clear hp ht NI
 have low := Below.refl w.heap.size w
 have cb := boxNext low 23 #[.int .i64 n, .int .i64 s, .int .i64 y, .int .i64 b]
 replace low := gAlloc low (.cells #[.int .i64 n, .int .i64 s, .int .i64 y, .int .i64 b] 23)
 try simp only [World.size_alloc] at cb
 have rb := boxNext low 37 mc0A
 replace low := gAlloc low (.cells mc0A 37)
 replace cb := cb.alloc (.cells mc0A 37)
 try simp only [World.size_alloc] at rb
 have cb_0 := cb.at_ 0 rfl
 have cb_1 := cb.at_ 1 rfl
 have cb_2 := cb.at_ 2 rfl
 have cb_3 := cb.at_ 3 rfl
 go_enter Tryz.func12, Tryz.ntmps12
 go_wp2_with (first | (with_reducible refine wp_newW (tyMach) ?_))
 (with_reducible refine (NN.out _ (HP.out.call low) (Sl.call HT.out low)).mono ?_); rintro e w1 ⟨⟨v, rfl, hv⟩, hb⟩
 clear cb_0 cb_1 cb_2 cb_3
 replace rb := rb.call hb
 replace low := gCall low hb
 clear hb NN cb
 have hform : ∃ VA : Array Value, v = .agg VA ∧ VA.size = mc0A.size ∧ VA.all (·.oneCell') = true := by
  rcases hv with ⟨_, rfl⟩ | ⟨_, css, rd, _⟩
  ·exact ⟨mc0A, rfl, rfl, mcA_one⟩
  ·exact arr_read rd
 obtain ⟨VA, rfl, sv, ov⟩ := hform
 have HV := Lib.hid hv
 clear hv
 have lr1 := rb.lt
 have vb := Box.new w1 37 VA
 replace rb := rb.alloc (.cells VA 37)
 replace low := gAlloc low (.cells VA 37)
 by_cases hE : newE n s y b k p wts = 0
 ·rcases HV.out with ⟨h, _⟩ | ⟨_, css, rd, coh, fl⟩
  ·exact absurd hE h
  have BG := Lib.hid (And.intro hE (And.intro coh fl))
  have RD := Lib.hid (rd.call (gAlloc (Below.refl w1.heap.size w1) (.cells VA 37)))
  rw [hE]
  clear HV rd coh fl hE
  go_wp2_with (first | ((with_reducible apply wpList_max); rfl; rfl) | ((with_reducible apply wpList_min); rfl; rfl) | (with_reducible refine wp_newW (tyMach) ?_) | ((with_reducible refine wp_freshW (tyMach) (rfl) (sv) (ov) ?_ ?_ ?_); rfl; rfl) | ((with_reducible refine wp_loadW (tyMach) (vb.range) (sv) ?_ ?_ ?_); rfl; rfl))
  generalize minI (maxI c 0) 60 = q at *
  generalize maxI c 0 = c1 at *
  (with_reducible refine (RN.out _ _ _ q RD.out).mono ?_); rintro e w2 ⟨gv, hb⟩
  obtain ⟨XA, Au, nu, cu, rfl, sx, ox, gn⟩ := givesN gv
  have X0 := Lib.hid (rfl : runs (newMc n s y b css k.toNat p wts) q = runs (newMc n s y b css k.toNat p wts) q)
  generalize hX : runs (newMc n s y b css k.toNat p wts) q = X at *
  generalize hER : runE' (newMc n s y b css k.toNat p wts) q = E at *
  have lw := rb.lt
  have HX := Lib.hid hX
  have HER := Lib.hid hER
  have GN := Lib.hid gn
  replace rb := rb.call hb
  replace vb := vb.call hb
  replace low := gCall low hb
  have lv := hb.size
  have lv2 : w1.heap.size < (w1.alloc (.cells VA 37)).heap.size := by simp
  generalize (w1.alloc (.cells VA 37)).heap.size = B at *
  clear hb gv hX hER gn X0 RD RN
  go_wp2_with (first | ((with_reducible refine wp_storeW (tyMach) (vb) (sv) (sx) (ox) ?_ ?_ ?_); rfl; rfl))
  intro w3 xb st3
  have GN3 := Lib.hid fun h => And.intro ((GN.out h).1.kept st3 vb lv2) (And.intro (row_kept (GN.out h).2.1 st3 vb (by decide)) (GN.out h).2.2)
  have rb3 := st3.box rb (by omega)
  have low3 := st3.low low (by omega)
  clear st3 rb low vb GN
  go_wp2_with (first | ((with_reducible refine wp_loadW (tyMach) (xb.range) (sx) ?_ ?_ ?_); rfl; rfl) | ((with_reducible refine wp_storeW (tyMach) (rb3) (rfl) (sx) (ox) ?_ ?_ ?_); rfl; rfl))
  intro w4 rb4 st4
  have GN4 := Lib.hid fun h => And.intro ((GN3.out h).1.kept st4 rb3 lw) (And.intro (row_kept (GN3.out h).2.1 st4 rb3 (by decide)) (GN3.out h).2.2)
  have low4 := st4.low low3 (by omega)
  clear st4 rb3 low3 xb GN3
  go_wp2_with fail
  refine bodyPost_ret (v := .tuple #[.agg XA, .slice Au nu cu, .bool (E == 0)]) (results_first3 tyMach Tryz.results12 rfl rfl rfl rb4 sx) rfl ⟨⟨_, _, _, _, _, rfl, sx, ox, fun hB => ?_⟩, low4⟩
  have hE0 : E = 0 := by simpa using hB
  obtain ⟨g1, g2, g3⟩ := GN4.out hE0
  exact ⟨X, ⟨css, q, BG.out.1, BG.out.2.1, BG.out.2.2, HER.out.trans hE0, HX.out.symm⟩, g1.read, by have := Sl.ofOwn g2; rw [g3] at this ⊢; exact this, g3⟩
 ·have hE' : (newE n s y b k p wts != 0) = true := by simpa using hE
  generalize newE n s y b k p wts = E at *
  clear HV hE
  go_wp2_with (first | (with_reducible refine wp_newW (tyMach) ?_) | ((with_reducible refine wp_freshW (tyMach) (rfl) (sv) (ov) ?_ ?_ ?_); rfl; rfl) | (with_reducible refine wp_zeroW (tyMach) ?_) | ((with_reducible refine wp_storeW (tyMach) (rb) (rfl) (rfl) (mcA_one) ?_ ?_ ?_); rfl; rfl))
  intro w3 rb3 st3
  have low3 := st3.low low (by omega)
  clear st3 rb low
  go_wp2_with fail
  exact bodyPost_ret (v := .tuple #[.agg mc0A, .slice none 0 0, .bool false]) (results_first3 tyMach Tryz.results12 rfl rfl rfl rb3 rfl) rfl ⟨⟨_, _, _, _, _, rfl, rfl, mcA_one, fun h => by cases h⟩, low3⟩
end Go.Proofs.YtcegjehoejgofaaGreat
