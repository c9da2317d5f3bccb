/-
Proved: the law 'MachineOnce' returns true for every argument, and changes nothing that was there. Conditions: what New and Step of package machine give (handed in).
-/
import Derived.Test.YtgdacpcifnpojaaGreatJoined8
import Derived.Test.YtgdacpcifnpojaaGreatJoined7
namespace Go.Proofs.YtgdacpcifnpojaaGreat.machineOnce
open Go.ChangeShapes Go.WideShapes Go.ChangeAt Go.RowKit Go.Joins

/-- The first k elements of a slice that is read. -/
theorem r_front {α : Type} {E : El α} {w : World} {A : Option Addr} {n c : Nat} {l : List α} (h : E.R w (.slice A n c) l) (k : Nat) (hk : k ≤ l.length) : E.R w (.slice A k c) (l.take k) := by
  obtain ⟨_, A', c', e, h1, h2, h3⟩ := h
  injection e with e1 e2 e3
  subst e1 e3
  have hn : (l.take k).length = k := by rw [List.length_take]; omega
  refine ⟨E.C_length _, A, c, by rw [hn], by omega, h2, fun h0 => ?_⟩
  rw [hn] at h0
  obtain ⟨b, o, rfl, hb, hc⟩ := h3 (by omega)
  refine ⟨b, o, rfl, hb, fun j u hu => hc j u ?_⟩
  have hj := (List.getElem?_eq_some_iff.1 hu).1
  conv => lhs; rw [← List.take_append_drop k l, E.C_append]
  rw [List.getElem?_append_left hj, hu]

/-- slices.ContainsFunc of events, with a test that reads one captured variable. -/
theorem indexEv (F : Nat) (eg : ∀ args w, (callFunc F args).run Tryz.prog w = .ok (.enter F args) w) (g : Nat) (p : Ev → Bool) (v : Value) (l : List Ev) (w : World) (h : elE.R w v l)
    (C : ∀ x W, Below w.heap.size w W → Calls Tryz.prog F #[.agg x.arr, .pointer (some ⟨g, 0, none⟩)] W fun e w' => e = .returned (.bool (p x)) ∧ Below W.heap.size W w') :
    Calls Tryz.prog 49 #[v, .func (.func F) #[] #[.pointer (some ⟨g, 0, none⟩)]] w fun e w' => (∃ r : Int, e = .returned (.int .i64 r) ∧ decide (0 ≤ r) = l.any p) ∧ Below w.heap.size w w' := by
  obtain ⟨_, A, c, rfl, h1, h2, h3⟩ := h
  have H3 := Lib.hid h3
  have CC := Lib.hid C
  unfold maxLen at h2
  clear h3 C
  have low := Below.refl w.heap.size w
  go_enter Tryz.func49, Tryz.ntmps49
  go_wp2_with fail
  go_loopw [8] (fun i wr => ∃ j : Nat, j ≤ l.length ∧ i = .int .i64 j ∧ Hid ((l.take j).any p = false) ∧ Below w.heap.size w wr) (fun i _ => l.length - (intOf i).toNat)
  case atStart => exact ⟨0, Nat.zero_le _, rfl, Lib.hid rfl, low⟩
  case round =>
    clear low
    obtain ⟨j, hj, rfl, hno, low⟩ := hrel
    by_cases hlt : j < l.length
    · obtain ⟨b, o, rfl, hb, hc⟩ := H3.out (by omega)
      have hx : l[j]? = some l[j] := List.getElem?_eq_getElem _
      have hmem := List.getElem_mem hlt
      generalize l[j] = x at hx hmem
      obtain ⟨c0, c1, c2, c3, c4, c5⟩ := evAt_of hc hb low hx
      have S := Lib.hid (CC.out x wr low)
      have NX := Lib.hid (show (l.take (j + 1)).any p = ((l.take j).any p || p x) by rw [List.take_add_one, hx]; simp)
      have AL := Lib.hid (show p x = true → l.any p = true from fun h => List.any_eq_true.2 ⟨x, hmem, h⟩)
      have j0 : (0 : Int) ≤ j := by omega
      have j1 : (j : Int) < l.length := by omega
      clear hx hc hmem
      obtain ⟨⟨dn, dk, da, dv⟩, tv, bv⟩ := x
      simp only at c0 c1 c2 c3 c4 c5 S
      generalize hp : p ⟨⟨dn, dk, da, dv⟩, tv, bv⟩ = B at S NX AL
      clear hp
      go_wp2_with fail
      (with_reducible refine S.out.mono ?_); rintro e w2 ⟨rfl, hb2⟩
      replace low := gCall low hb2
      clear hb2 c0 c1 c2 c3 c4 c5 S
      cases B
      · go_wp2_with fail
        go_roundw
        case rel => exact ⟨j + 1, by omega, by go_num, Lib.hid (by rw [NX.out, hno.out]; rfl), low⟩
        case measure => simp [intOf]; omega
      · have AT := Lib.hid (AL.out rfl)
        clear AL NX
        go_wp2_with fail
        go_ret
        exact ⟨⟨_, rfl, by rw [AT.out]; exact decide_eq_true (by omega)⟩, low⟩
    · obtain rfl : j = l.length := by omega
      have NA := Lib.hid (show l.any p = false by have := hno.out; rwa [List.take_length] at this)
      go_wp2_with fail
      go_ret
      exact ⟨⟨_, rfl, by rw [NA.out]; rfl⟩, low⟩
theorem containsEv (F : Nat) (eg : ∀ args w, (callFunc F args).run Tryz.prog w = .ok (.enter F args) w) (g : Nat) (p : Ev → Bool) (v : Value) (l : List Ev) (w : World) (h : elE.R w v l)
    (C : ∀ x W, Below w.heap.size w W → Calls Tryz.prog F #[.agg x.arr, .pointer (some ⟨g, 0, none⟩)] W fun e w' => e = .returned (.bool (p x)) ∧ Below W.heap.size W w') :
    Calls Tryz.prog 19 #[v, .func (.func F) #[] #[.pointer (some ⟨g, 0, none⟩)]] w fun e w' => e = .returned (.bool (l.any p)) ∧ Below w.heap.size w w' := by
  have I := Lib.hid (indexEv F eg g p v l w h C)
  obtain ⟨A, c, rfl⟩ := h.shape
  clear h C
  generalize l.any p = B at I ⊢
  have low := Below.refl w.heap.size w
  go_enter Tryz.func19, Tryz.ntmps19
  go_wp2_with fail
  (with_reducible refine (Calls.mono I.out ?_)); rintro e w2 ⟨⟨r, rfl, hr⟩, hb⟩
  replace low := gCall low hb
  clear hb
  go_wp2_with fail
  go_ret
  exact ⟨rfl, low⟩
theorem same_node (x a : Ev) (g : Nat) (w : World) (hb : Box w g 61 a.arr) :
    Calls Tryz.prog 20 #[.agg x.arr, .pointer (some ⟨g, 0, none⟩)] w fun e w' => e = .returned (.bool (a.d.nd == x.d.nd)) ∧ Below w.heap.size w w' := by
  obtain ⟨⟨dn, dk, da, dv⟩, tv, bv⟩ := x
  obtain ⟨⟨en, ek, ea, ev⟩, eu, ew⟩ := a
  simp only
  have hg := hb.lt
  have low := Below.refl w.heap.size w
  have xb := boxNext low 61 #[.int .i64 dn, .int .i64 dk, .int .i64 da, .int .u64 dv, .int .u64 tv, .bool bv]
  replace low := gAlloc low (.cells #[.int .i64 dn, .int .i64 dk, .int .i64 da, .int .u64 dv, .int .u64 tv, .bool bv] 61)
  replace hb := hb.alloc (.cells #[.int .i64 dn, .int .i64 dk, .int .i64 da, .int .u64 dv, .int .u64 tv, .bool bv] 61)
  try simp only [World.size_alloc] at xb
  generalize hq : (en == dn) = B
  go_enter Tryz.func20, Tryz.ntmps20
  have xb_0 := xb.at_ 0 rfl
  have hb_0 := hb.at_ 0 rfl
  go_wp2_with fail
  go_ret
  exact ⟨rfl, low⟩

/-- The nodes of the first j slots that are full. -/
theorem und_take {l : List Sw} {j : Nat} {x : Sw} (h : l[j]? = some x) : undL (l.take (j + 1)) = undL (l.take j) ++ if x.fu = true then [x.nd] else [] := by
  unfold undL
  rw [List.take_add_one, h, List.filter_append, List.map_append]
  cases e : x.fu <;> simp [e]
theorem und_new {n : Int} {l : List Sw} (ok : RingOk n l) {j : Nat} {x : Sw} (h : l[j]? = some x) (hf : x.fu = true) : x.nd ∉ undL (l.take j) := by
  have nd := ok.nodup
  have e : undL l = undL (l.take (j + 1)) ++ undL (l.drop (j + 1)) := by
    unfold undL
    rw [← List.map_append, ← List.filter_append, List.take_append_drop]
  rw [e, und_take h, if_pos hf] at nd
  have := (List.nodup_append.1 (List.nodup_append.1 nd).1).2.2
  intro hm
  exact this _ hm _ (by simp) rfl
theorem ev_new {es : List Ev} (hn : (evN es).Nodup) {j : Nat} {a : Ev} (h : es[j]? = some a) : ((es.take j).any fun x => a.d.nd == x.d.nd) = false := by
  have hj := (List.getElem?_eq_some_iff.1 h).1
  cases e : ((es.take j).any fun x => a.d.nd == x.d.nd) with
  | false => rfl
  | true =>
    exfalso
    obtain ⟨x, hx, e2⟩ := List.any_eq_true.1 e
    have e3 : evN es = evN (es.take j) ++ evN (es.drop j) := by
      unfold evN
      rw [← List.map_append, List.take_append_drop]
    rw [e3] at hn
    have := (List.nodup_append.1 hn).2.2
    refine this x.d.nd (List.mem_map.2 ⟨x, hx, rfl⟩) a.d.nd (List.mem_map.2 ⟨a, ?_, rfl⟩) (by simpa using (beq_iff_eq.1 e2).symm)
    refine List.mem_of_getElem? (i := 0) ?_
    rw [List.getElem?_drop, Nat.add_zero, h]

set_option maxRecDepth 10000 in
set_option maxHeartbeats 4000000 in
theorem walk_bad (NI : MNewIs) (SI : MStepIs) (v : Value) (M : Mc) (w : World) (h : MRead w v M) (hE : stepE M ≠ 0) :
    Calls Tryz.prog 6 #[v] w fun e w' => e = .returned (.bool true) ∧ Below w.heap.size w w' := by
  have YES := Lib.hid fun w => machines_yes NI w
  have HR := Lib.hid h
  have ST := Lib.hid fun w h => SI v M w h
  have m64 := h.m64
  obtain ⟨A0, c0, A1, c1, A2, c2, A3, c3, A4, c4, rfl, _, _, _, _, _⟩ := h.shape
  have sz : (mcA M.n M.s M.y M.b (.slice A0 M.css.length c0) M.mem (.slice A1 M.ring.length c1) (.slice A2 M.pr.length c2) (.slice A3 M.at_.length c3) (.slice A4 M.wts.length c4) M.had).size = (mcA 0 0 0 0 (.slice none 0 0) zeroL (.slice none 0 0) (.slice none 0 0) (.slice none 0 0) (.slice none 0 0) 0).size := by rw [mcA_size m64, mcA_size zeroL_length]
  generalize stepE M = E at *
  have hE' : (E != 0) = true := by simpa using hE
  have on := mcA_one (n := 0) (s := 0) (y := 0) (b := 0) (A0 := none) (A1 := none) (A2 := none) (A3 := none) (A4 := none) (n0 := 0) (n1 := 0) (n2 := 0) (n3 := 0) (n4 := 0) (c0 := 0) (c1 := 0) (c2 := 0) (c3 := 0) (c4 := 0) (m := zeroL) (h := 0)
  have NE := Lib.hid hE
  clear h m64 hE
  have low := Below.refl w.heap.size w
  have mb := boxNext low 37 (mcA M.n M.s M.y M.b (.slice A0 M.css.length c0) M.mem (.slice A1 M.ring.length c1) (.slice A2 M.pr.length c2) (.slice A3 M.at_.length c3) (.slice A4 M.wts.length c4) M.had)
  replace low := gAlloc low (.cells (mcA M.n M.s M.y M.b (.slice A0 M.css.length c0) M.mem (.slice A1 M.ring.length c1) (.slice A2 M.pr.length c2) (.slice A3 M.at_.length c3) (.slice A4 M.wts.length c4) M.had) 37)
  try simp only [World.size_alloc] at mb
  go_enter Tryz.func6, Tryz.ntmps6
  go_wp2_with fail
  (with_reducible refine (YES.out _).mono ?_); rintro e w1 ⟨rfl, hb⟩
  replace mb := mb.call hb
  replace low := gCall low hb
  clear hb YES
  go_wp2_with ((with_reducible refine wp_loadW (tyMach) (mb.range) (sz) ?_ ?_ ?_); rfl; rfl)
  (with_reducible refine (ST.out _ (HR.out.call low)).mono ?_); rintro e w3 ⟨⟨v3, u3, rfl, gv⟩, hb⟩
  replace low := gCall low hb
  clear hb ST mb
  rcases gv with ⟨_, rfl, rfl⟩ | ⟨h0, _⟩
  · simp only [mc0]
    go_wp2_with (first | (with_reducible refine wp_newW (tyMach) ?_) | ((with_reducible refine wp_freshW (tyMach) (rfl) (rfl) (on) ?_ ?_ ?_); rfl; rfl))
    go_ret
    exact ⟨rfl, gAlloc low _⟩
  · exact absurd h0 NE.out
set_option maxRecDepth 10000 in
set_option maxHeartbeats 8000000 in
theorem walk_good (NI : MNewIs) (SI : MStepIs) (v : Value) (M : Mc) (w : World) (h : MRead w v M) (ok : McOk M) (hh : M.had ≤ 999991) :
    Calls Tryz.prog 6 #[v] w fun e w' => e = .returned (.bool true) ∧ Below w.heap.size w w' := by
  have YES := Lib.hid fun w => machines_yes NI w
  have HR := Lib.hid h
  have ST := Lib.hid fun w h => SI v M w h
  have m64 := h.m64
  obtain ⟨A0, c0, A1, c1, A2, c2, A3, c3, A4, c4, rfl, _, _, _, _, _⟩ := h.shape
  have sz : (mcA M.n M.s M.y M.b (.slice A0 M.css.length c0) M.mem (.slice A1 M.ring.length c1) (.slice A2 M.pr.length c2) (.slice A3 M.at_.length c3) (.slice A4 M.wts.length c4) M.had).size = (mcA 0 0 0 0 (.slice none 0 0) zeroL (.slice none 0 0) (.slice none 0 0) (.slice none 0 0) (.slice none 0 0) 0).size := by rw [mcA_size m64, mcA_size zeroL_length]
  have e0 : stepE M = 0 := by unfold stepE; rw [if_neg (by simpa using mcE_zero.2 ok), if_neg (by omega)]
  rw [e0] at ST
  have mid := cyc_mid didF_ok ok m64 hh
  obtain ⟨_, _, r8, rok⟩ := ringE_zero.1 mid.ok.rng
  have NOD := Lib.hid mid.nod
  have ROK := Lib.hid rok
  have m64' := mid.m64
  clear h ok hh e0 mid rok m64
  have low := Below.refl w.heap.size w
  have mb := boxNext low 37 (mcA M.n M.s M.y M.b (.slice A0 M.css.length c0) M.mem (.slice A1 M.ring.length c1) (.slice A2 M.pr.length c2) (.slice A3 M.at_.length c3) (.slice A4 M.wts.length c4) M.had)
  replace low := gAlloc low (.cells (mcA M.n M.s M.y M.b (.slice A0 M.css.length c0) M.mem (.slice A1 M.ring.length c1) (.slice A2 M.pr.length c2) (.slice A3 M.at_.length c3) (.slice A4 M.wts.length c4) M.had) 37)
  try simp only [World.size_alloc] at mb
  go_enter Tryz.func6, Tryz.ntmps6
  go_wp2_with fail
  (with_reducible refine (YES.out _).mono ?_); rintro e w1 ⟨rfl, hb⟩
  replace mb := mb.call hb
  replace low := gCall low hb
  clear hb YES
  go_wp2_with ((with_reducible refine wp_loadW (tyMach) (mb.range) (sz) ?_ ?_ ?_); rfl; rfl)
  (with_reducible refine (ST.out _ (HR.out.call low)).mono ?_); rintro e w3 ⟨⟨v3, u3, rfl, gv⟩, hb⟩
  replace low := gCall low hb
  clear hb ST mb
  rcases gv with ⟨h0, _⟩ | ⟨_, rd, el⟩
  · exact absurd rfl h0
  unfold cyc at rd el
  generalize (cycM didF M).1 = M' at *
  generalize (cycM didF M).2 = es at *
  obtain ⟨B0, d0, B1, d1, B2, d2, B3, d3, B4, d4, rfl, _, rrs, _, _, _⟩ := rd.shape
  obtain ⟨Au, cu, rfl⟩ := el.shape
  have sz2 : (mcA M'.n M'.s M'.y M'.b (.slice B0 M'.css.length d0) M'.mem (.slice B1 M'.ring.length d1) (.slice B2 M'.pr.length d2) (.slice B3 M'.at_.length d3) (.slice B4 M'.wts.length d4) M'.had).size = (mcA 0 0 0 0 (.slice none 0 0) zeroL (.slice none 0 0) (.slice none 0 0) (.slice none 0 0) (.slice none 0 0) 0).size := by rw [mcA_size m64', mcA_size zeroL_length]
  have t69 := mcA_tail (n := M'.n) (s := M'.s) (y := M'.y) (b := M'.b) (u := .slice B0 M'.css.length d0) (rv := .slice B1 M'.ring.length d1) (pv := .slice B2 M'.pr.length d2) (av := .slice B3 M'.at_.length d3) (tv := .slice B4 M'.wts.length d4) (h := M'.had) m64' 0
  have on : (mcA M'.n M'.s M'.y M'.b (.slice B0 M'.css.length d0) M'.mem (.slice B1 M'.ring.length d1) (.slice B2 M'.pr.length d2) (.slice B3 M'.at_.length d3) (.slice B4 M'.wts.length d4) M'.had).all (·.oneCell') = true := mcA_one
  generalize mcA M'.n M'.s M'.y M'.b (.slice B0 M'.css.length d0) M'.mem (.slice B1 M'.ring.length d1) (.slice B2 M'.pr.length d2) (.slice B3 M'.at_.length d3) (.slice B4 M'.wts.length d4) M'.had = XA at *
  have xb := Box.new w3 37 XA
  replace low := gAlloc low (.cells XA 37)
  have EL := Lib.hid (el.alloc (.cells XA 37))
  have RS := Lib.hid (rrs.call (gAlloc (Below.refl w3.heap.size w3) (.cells XA 37)))
  clear rd el rrs m64'
  go_wp2_with (first | (with_reducible refine wp_newW (tyMach) ?_) | ((with_reducible refine wp_freshW (tyMach) (rfl) (sz2) (on) ?_ ?_ ?_); rfl; rfl))
  clear on sz2
  generalize w3.alloc (.cells XA 37) = wL at *
  generalize w3.heap.size = gx at *
  have XB := Lib.hid xb
  have LW := Lib.hid low
  obtain ⟨_, Ae, ce, ee, g1, g2, g3⟩ := EL.out
  obtain ⟨rfl, rfl⟩ : Au = Ae ∧ cu = ce := by injection ee with e1 _ e3; exact ⟨e1, e3⟩
  have G3 := Lib.hid g3
  unfold maxLen at g2
  clear xb low ee g3
  go_loopw [26] (fun i wr => ∃ j : Nat, j ≤ es.length ∧ i = .int .i64 j ∧ Below wL.heap.size wL wr) (fun i _ => es.length - (intOf i).toNat)
  case atStart => exact ⟨0, Nat.zero_le _, rfl, Below.refl _ _⟩
  case round =>
    obtain ⟨j, hj, rfl, near⟩ := hrel
    by_cases hlt : j < es.length
    · obtain ⟨b, o, rfl, hb, hc⟩ := G3.out (by omega)
      have hx : es[j]? = some es[j] := List.getElem?_eq_getElem _
      generalize es[j] = x at hx
      obtain ⟨c0', c1', c2', c3', c4', c5'⟩ := evAt_of hc hb near hx
      have NW := Lib.hid (ev_new NOD.out hx)
      have FR := Lib.hid (r_front EL.out j hj)
      have SN := Lib.hid fun (g : Nat) (W : World) (y : Ev) hb => same_node y x g W hb
      have xbn := Lib.hid (Box.new wr 61 x.arr)
      have CE := Lib.hid (fun (W : World) (hW : Below wL.heap.size wL W) (hB : Box W wr.heap.size 61 x.arr) => containsEv 20 (fun _ _ => by kernel_rfl) wr.heap.size (fun y => x.d.nd == y.d.nd) _ _ W (FR.out.call hW) (fun y W' hb => same_node y x wr.heap.size W' (hB.call hb)))
      simp only [NW.out] at CE
      have C2 := Lib.hid (CE.out _ (gAlloc near (.cells x.arr 61)) xbn.out)
      replace near := gAlloc near (.cells x.arr 61)
      have j0 : (0 : Int) ≤ j := by omega
      have j1 : (j : Int) < es.length := by omega
      have jc : j ≤ cu := by omega
      obtain ⟨⟨dn, dk, da, dv⟩, tv, bv⟩ := x
      simp only at c0' c1' c2' c3' c4' c5' C2
      clear hx hc NW FR SN CE xbn
      go_wp2_with fail
      (with_reducible refine C2.out.mono ?_); rintro e w5 ⟨rfl, hb5⟩
      replace near := gCall near hb5
      clear hb5 C2 c0' c1' c2' c3' c4' c5'
      go_wp2_with fail
      go_roundw
      case rel => exact ⟨j + 1, by omega, by go_num, near⟩
      case measure => simp [intOf]; omega
    · obtain rfl : j = es.length := by omega
      have low := gCall LW.out near
      have xb := XB.out.call near
      have cx := xb.at_ 69 t69
      obtain ⟨_, Ar, cr, er, q1, q2, q3⟩ := (RS.out.call near).sl
      obtain ⟨rfl, rfl⟩ : B1 = Ar ∧ d1 = cr := by injection er with e1 _ e3; exact ⟨e1, e3⟩
      have Q3 := Lib.hid q3
      have LR := Lib.hid low
      have ls := low.size
      unfold maxLen at q2
      obtain ⟨i0, hi, hz0, hz1, hz2⟩ := info_parts info_int1
      have HI := Lib.hid hi
      have HZ := Lib.hid (And.intro hz0 (And.intro hz1 hz2))
      clear er q3 hi hz0 hz1 hz2 EL RS XB LW G3
      go_wp2_with fail
      clear cx
      rename World => wM
      go_loopw [8, 40] (fun bv i wq => ∃ k : Nat, k ≤ M'.ring.length ∧ i = .int .i64 k ∧ Hid (wq.ownsRow wM.heap.size 3 1 bv (undL (M'.ring.take k)).length ((undL (M'.ring.take k)).map (Value.int .i64))) ∧ Below wM.heap.size wM wq) (fun _ i _ => M'.ring.length - (intOf i).toNat)
      case atStart => exact ⟨0, Nat.zero_le _, rfl, Lib.hid (World.ownsRow_nil _ _ _ _), Below.refl _ _⟩
      case round =>
        obtain ⟨k, hk, rfl, own, far⟩ := hrel
        by_cases hlt2 : k < M'.ring.length
        · obtain ⟨b, o, rfl, hb, hc⟩ := Q3.out (by omega)
          have hx : M'.ring[k]? = some M'.ring[k] := List.getElem?_eq_getElem _
          generalize M'.ring[k] = x at hx
          obtain ⟨p0, p1, p2, p3⟩ := slotAt_of hc hb far hx
          have UT := Lib.hid (und_take hx)
          have UN := Lib.hid (fun hf => und_new ROK.out hx hf)
          have few : (undL (M'.ring.take k)).length ≤ 8 := by
            unfold undL
            rw [List.length_map]
            exact Nat.le_trans (List.length_filter_le _ _) (by rw [List.length_take]; omega)
          generalize undL (M'.ring.take k) = U at *
          obtain ⟨xp, xf, xn, xt⟩ := x
          simp only at p0 p1 p2 p3 UT UN
          have k0 : (0 : Int) ≤ k := by omega
          have k1 : (k : Int) < M'.ring.length := by omega
          have fz := far.size
          have sbx := Box.new wr 67 #[.int .i64 xp, .bool xf, .int .i64 xn, .int .i64 xt]
          have own1 := Lib.hid (own_below own.out (gAlloc (Below.refl _ _) (.cells #[.int .i64 xp, .bool xf, .int .i64 xn, .int .i64 xt] 67)))
          replace far := gAlloc far (.cells #[.int .i64 xp, .bool xf, .int .i64 xn, .int .i64 xt] 67)
          clear hx hc own
          cases xf
          · have NX := Lib.hid (show undL (M'.ring.take (k + 1)) = U by rw [UT.out]; simp)
            clear UT UN
            go_wp2_with fail
            go_roundw
            case rel => exact ⟨k + 1, by omega, by go_num, by rw [NX.out]; exact own1, far⟩
            case measure => simp [intOf]; omega
          · have NX := Lib.hid (show undL (M'.ring.take (k + 1)) = U ++ [xn] by rw [UT.out]; simp)
            have nin : decide (xn ∈ U) = false := decide_eq_false (UN.out rfl)
            have CT := Lib.hid fun (bv : Value) (W : World) h => contains_any bv U.length U xn W h
            rw [nin] at CT
            obtain ⟨Ab, cb, rfl⟩ := own_shape own1.out
            clear UT UN nin
            go_wp2_with fail
            (with_reducible refine (CT.out _ _ (Sl.ofOwn own1.out)).mono ?_); rintro e w6 ⟨rfl, rfl⟩
            clear CT
            have own2 := Lib.hid (own_below own1.out (gAlloc (Below.refl _ _) (.cells #[.int .i64 xn] 3)))
            have fs := (gAlloc far (.cells #[.int .i64 xn] 3)).size
            go_wp2_with (at_builtin; refine wpList_append_own _ rfl _ _ 35 rfl wM.heap.size 3 i0 (.int .i64 0) 1 8 Tryz.underlying35 HI.out HZ.out.1 HZ.out.2.1 HZ.out.2.2 rfl (by decide) _ _ _ rfl own2.out _ 1 1 [.int .i64 xn] rfl rfl ?e1 ?e2 ?e3 ?e4 ?e5 ?_)
            case e1 =>
              intro q u hq
              match q, hq with
              | 0, hq => simp at hq; subst hq; simp [Addr.add]
            case e2 => intro u hu; simp at hu; subst hu; rfl
            case e3 => unfold maxLen; omega
            case e4 => omega
            case e5 => exact fs
            intro v4 w4 own4 grow4 _
            have far4 : Below wM.heap.size wM w4 := (gAlloc far (.cells #[.int .i64 xn] 3)).grown grow4 fs (fun g e => own2.out.lt _ e |>.1)
            have O4 := Lib.hid own4
            clear own4 grow4 own1 own2 far sbx
            go_wp2_with fail
            go_roundw
            case rel => exact ⟨k + 1, by omega, by go_num, by rw [NX.out, List.length_append, List.length_singleton, List.map_append]; exact O4, far4⟩
            case measure => simp [intOf]; omega
        · have lowf := gCall LR.out far
          go_wp2_with fail
          go_ret
          exact ⟨rfl, lowf⟩
theorem walk (NI : MNewIs) (SI : MStepIs) (v : Value) (w : World) (h : IsMach w v) :
    Calls Tryz.prog 6 #[v] w fun e w' => e = .returned (.bool true) ∧ Below w.heap.size w w' := by
  obtain ⟨M, h, _⟩ := h
  by_cases hE : stepE M = 0
  · have he : mcE M = 0 ∧ M.had ≤ 999991 := by
      unfold stepE at hE
      by_cases h1 : mcE M ≠ 0
      · rw [if_pos h1] at hE; exact absurd hE h1
      · rw [if_neg h1] at hE
        by_cases h2 : 999991 < M.had
        · rw [if_pos h2] at hE; cases hE
        · exact ⟨by simpa using h1, by omega⟩
    exact walk_good NI SI v M w h (mcE_zero.1 he.1) he.2
  · exact walk_bad NI SI v M w h hE
end Go.Proofs.YtgdacpcifnpojaaGreat.machineOnce
