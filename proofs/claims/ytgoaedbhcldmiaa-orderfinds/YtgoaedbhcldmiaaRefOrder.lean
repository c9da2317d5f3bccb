/-
Proved: what the reference's Explained returns, for all logs without an error that can be read and at most as many observations as fit; it changes nothing that was there. Conditions: the memory has 64 words, no observation has an error.
-/
import Derived.Test.YtgoaedbhcldmiaaOrderFacts
import Derived.Test.YtgoaedbhcldmiaaRefAtomic
import Derived.Deep.CutBlock
namespace Go.Proofs.Ytgoaedbhcldmiaa
open Go.ChangeShapes Go.WideShapes Go.ChangeAt Go.RowKit Go.Joins

abbrev recF (gl ga gf : Nat) : Value := .func (.func 23) #[] #[.pointer (some ⟨gl, 0, none⟩), .pointer (some ⟨ga, 0, none⟩), .pointer (some ⟨gf, 0, none⟩)]
/-- Where the search stands: the logs, how much of each is taken, the search itself. -/
structure Stand (w0 w : World) (logs : List (List Td)) (A : Option Addr) (c gl ga gf g : Nat) (a : List Nat) : Prop where
  low : Below w0.heap.size w0 w
  bl : Box w gl 44 #[.slice A logs.length c]
  ba : Box w ga 45 #[.slice (some ⟨g, 0, none⟩) logs.length logs.length]
  bf : Box w gf 64 #[recF gl ga gf]
  bg : Box w g 3 (atA a)
  up : w0.heap.size ≤ g
theorem Stand.call {w0 w w' : World} {logs : List (List Td)} {A : Option Addr} {c gl ga gf g : Nat} {a : List Nat} (h : Stand w0 w logs A c gl ga gf g a) (hb : Below w.heap.size w w') : Stand w0 w' logs A c gl ga gf g a :=
  ⟨gCall h.low (hb.mono (Nat.le_refl _)), h.bl.call hb, h.ba.call hb, h.bf.call hb, h.bg.call hb, h.up⟩
theorem Stand.alloc {w0 w : World} {logs : List (List Td)} {A : Option Addr} {c gl ga gf g : Nat} {a : List Nat} (h : Stand w0 w logs A c gl ga gf g a) (o : Obj) : Stand w0 (w.alloc o) logs A c gl ga gf g a := h.call (gAlloc (Below.refl _ _) o)
theorem Stand.set {w0 w : World} {logs : List (List Td)} {A : Option Addr} {c gl ga gf g : Nat} {a : List Nat} (h : Stand w0 w logs A c gl ga gf g a) (k j : Nat) : Stand w0 (w.setCell ⟨g, k, none⟩ (.int .i64 (j : Int))) logs A c gl ga gf g (a.set k j) := by
  refine ⟨h.low.setCell h.up _, h.bl.far (box_ne h.bl h.bg (by decide)) _, h.ba.far (box_ne h.ba h.bg (by decide)) _, h.bf.far (box_ne h.bf h.bg (by decide)) _, ?_, h.up⟩
  rw [← atA_set]
  exact h.bg.set k _

set_option maxRecDepth 10000 in
set_option maxHeartbeats 8000000 in
theorem explained_rec (w0 : World) (logs : List (List Td)) (A : Option Addr) (c gl ga gf g : Nat) (hlogs : elT.RR w0 (.slice A logs.length c) logs) (hok : ∀ l ∈ logs, ∀ t ∈ l, deedE t.d = 0) :
    ∀ (n : Nat) (N : Int) (m : List Int) (a : List Nat) (w : World), N = (n : Int) → m.length = 64 → n ≤ 12 → a.length = logs.length → (∀ (k : Nat) l j, logs[k]? = some l → a[k]? = some j → j ≤ l.length) → Stand w0 w logs A c gl ga gf g a →
      Calls Try.prog 23 #[memV m, .int .i64 N, .pointer (some ⟨gl, 0, none⟩), .pointer (some ⟨ga, 0, none⟩), .pointer (some ⟨gf, 0, none⟩)] w fun e w' =>
        (∃ v, e = .returned (.tuple #[v, .bool (explO logs n m a).isSome]) ∧ w'.ownsRow w.heap.size 3 1 v ((explO logs n m a).getD []).length (((explO logs n m a).getD []).map fun (k : Nat) => Value.int .i64 (k : Int))) ∧ Below w.heap.size w w'
  | 0, N, m, a, w, hN, hm, hn, hal, hjl, st => by
    obtain rfl : N = 0 := by simpa using hN
    clear hN
    have low := Below.refl w.heap.size w
    have mb := boxNext low 26 (memA m)
    replace low := gAlloc low (.cells (memA m) 26)
    try simp only [World.size_alloc] at mb
    go_enter Try.func23, Try.ntmps23
    go_wp2_with (first | (with_reducible refine wp_newMem ?_) | ((with_reducible refine wp_loadMem (⟨mb, hm⟩) ?_ ?_ ?_); rfl; rfl))
    go_ret2
    exact ⟨⟨_, rfl, World.ownsRow_nil _ _ _ _⟩, low⟩
  | n + 1, N, m, a, w, hN, hm, hn, hal, hjl, st => by
    obtain ⟨i0, hi, hz0, hz1, hz2⟩ := info_parts info_int1
    have HI := Lib.hid hi
    have HZ := Lib.hid (And.intro hz0 (And.intro hz1 hz2))
    clear hi hz0 hz1 hz2
    have gw0 := Lib.hid st.bg.lt
    have IH := Lib.hid (explained_rec w0 logs A c gl ga gf g hlogs hok n)
    have HL := Lib.hid hlogs
    have OK := Lib.hid hok
    have JL := Lib.hid hjl
    have AL := Lib.hid hal
    have HM := Lib.hid hm
    generalize hR : explO logs (n + 1) m a = R
    have HR := Lib.hid hR
    clear hR hjl
    obtain ⟨A', c', e', h1, h2, h3⟩ := hlogs.ex
    obtain ⟨rfl, rfl⟩ : A = A' ∧ c = c' := by injection e' with e5 _ e6; exact ⟨e5, e6⟩
    have H3 := Lib.hid h3
    unfold maxLen at h2
    have n0 : (N == 0) = false := by simp; omega
    have n1 : 1 ≤ N := by omega
    have n2 : N ≤ 12 := by omega
    have HN := Lib.hid (show N - 1 = (n : Int) by omega)
    clear hN
    clear hok hlogs h3 e'
    have low := Below.refl w.heap.size w
    have mb := boxNext low 26 (memA m)
    replace low := gAlloc low (.cells (memA m) 26)
    try simp only [World.size_alloc] at mb
    replace st := st.alloc (.cells (memA m) 26)
    have bl := st.bl
    have MB : Mb _ _ m := ⟨mb, hm⟩
    go_enter Try.func23, Try.ntmps23
    have bl_0 := bl.at_ 0 rfl
    go_wp2_with (first | (with_reducible refine wp_newMem ?_) | ((with_reducible refine wp_loadMem (⟨mb, hm⟩) ?_ ?_ ?_); rfl; rfl))
    clear bl_0
    clear bl mb
    go_loopw [20] (fun i wr => ∃ k : Nat, k ≤ logs.length ∧ i = .int .i64 k ∧ Hid (∀ q, q < k → tryK logs (explO logs n) m a q = none) ∧ Stand w0 wr logs A c gl ga gf g a ∧ Mb wr w.heap.size m ∧ Below w.heap.size w wr) (fun i _ => logs.length - (intOf i).toNat)
    case atStart => exact ⟨0, Nat.zero_le _, rfl, Lib.hid fun q hq => absurd hq (by omega), st, MB, low⟩
    case round =>
      clear st MB low
      obtain ⟨k, hk, rfl, hno, st, mb, low⟩ := hrel
      by_cases hlt : k < logs.length
      · obtain ⟨b, o, rfl, hb, hc⟩ := H3.out (by omega)
        have hx : logs[k]? = some logs[k] := List.getElem?_eq_getElem _
        generalize logs[k] = l at hx
        obtain ⟨A1, c1, ce, rs⟩ := hc k l hx
        replace ce := (st.low.cell (p := ⟨b, o + k, none⟩) hb).trans ce
        have ha : a[k]? = some (a[k]'(by have := AL.out; omega)) := List.getElem?_eq_getElem _
        generalize a[k]'(by have := AL.out; omega) = j at ha
        have hj := JL.out k l j hx ha
        have HX := Lib.hid hx
        have HA := Lib.hid ha
        have bl := st.bl
        have ba := st.ba
        have bf := st.bf
        have hat := st.bg.at_ k (atA_at ha)
        have k0 : (0 : Int) ≤ k := by omega
        have k1 : (k : Int) < logs.length := by omega
        obtain ⟨_, A2, c2, e2, g1, g2, g3⟩ := rs
        obtain ⟨rfl, rfl⟩ : A1 = A2 ∧ c1 = c2 := by injection e2 with e5 _ e6; exact ⟨e5, e6⟩
        unfold maxLen at g2
        have LO := st.low
        clear hx hc e2
        by_cases hje : j = l.length
        · have e1 : ((j : Int) == (l.length : Int)) = true := by simp [hje]
          have TK := Lib.hid (tryK_out (rec := explO logs n) (m := m) HX.out HA.out (by omega))
          clear g3 hje LO
          have bl_0 := bl.at_ 0 rfl
          have ba_0 := ba.at_ 0 rfl
          go_wp2_with fail
          clear bl_0 ba_0
          go_roundw
          case rel => exact ⟨k + 1, by omega, by go_num, Lib.hid fun q hq => if h : q < k then hno.out q h else (show q = k by omega) ▸ TK.out, st, mb, low⟩
          case measure => simp [intOf]; omega
        · have e1 : ((j : Int) == (l.length : Int)) = false := by simp; omega
          have jl : j < l.length := by omega
          obtain ⟨b1, o1, rfl, hb1, hc1⟩ := g3 (by omega)
          have ht : l[j]? = some l[j] := List.getElem?_eq_getElem _
          generalize l[j] = t at ht
          obtain ⟨c0, c1', c2', c3, c4⟩ := toldAt_of hc1 hb1 LO ht
          have DE := Lib.hid (OK.out l (List.mem_of_getElem? HX.out) t (List.mem_of_getElem? ht))
          have TK := Lib.hid (tryK_at (rec := explO logs n) (m := m) HX.out HA.out ht)
          have hm := mb.2
          have PL := Lib.hid fun w => plain_ok m hm t.d DE.out w
          have hm2 := doM_length t.d hm
          obtain ⟨⟨dn, dk, da, dv⟩, tv⟩ := t
          simp only at c0 c1' c2' c3 c4 TK PL hm2
          generalize doM m ⟨dn, dk, da, dv⟩ = m2 at *
          generalize doV m ⟨dn, dk, da, dv⟩ = v2 at *
          have j0 : (0 : Int) ≤ j := by omega
          have j1 : (j : Int) < l.length := by omega
          have x1 := Box.new wr 38 #[.int .i64 dn, .int .i64 dk, .int .i64 da, .int .u64 dv, .int .u64 tv]
          clear g3 hc1 ht LO DE hje
          have bl_0 := bl.at_ 0 rfl
          have ba_0 := ba.at_ 0 rfl
          replace mb := mb.alloc (.cells #[.int .i64 dn, .int .i64 dk, .int .i64 da, .int .u64 dv, .int .u64 tv] 38)
          replace st := st.alloc (.cells #[.int .i64 dn, .int .i64 dk, .int .i64 da, .int .u64 dv, .int .u64 tv] 38)
          replace low := gAlloc low (.cells #[.int .i64 dn, .int .i64 dk, .int .i64 da, .int .u64 dv, .int .u64 tv] 38)
          go_wp2_with ((with_reducible refine wp_loadMem (mb) ?_ ?_ ?_); rfl; rfl)
          (with_reducible refine (PL.out _).mono ?_); rintro e w2 ⟨rfl, hb2⟩
          clear bl_0 ba_0
          replace mb := mb.call hb2
          replace st := st.call hb2
          replace low := gCall low hb2
          replace x1 := x1.call hb2
          clear hb2 PL bl ba bf hat ce c0 c1' c2' c3 c4
          have nb := Mb.new (l := m2) w2 hm2
          replace mb := mb.alloc (.cells (memA m2) 26)
          replace st := st.alloc (.cells (memA m2) 26)
          replace low := gAlloc low (.cells (memA m2) 26)
          replace x1 := x1.alloc (.cells (memA m2) 26)
          have bl := st.bl
          have ba := st.ba
          have bf := st.bf
          have hat := st.bg.at_ k (atA_at HA.out)
          have haf := st.bg.frozen k
          have x1_0 := x1.at_ 0 rfl
          have x1_1 := x1.at_ 1 rfl
          have x1_2 := x1.at_ 2 rfl
          have x1_3 := x1.at_ 3 rfl
          have x1_4 := x1.at_ 4 rfl
          have bl_0 := bl.at_ 0 rfl
          have ba_0 := ba.at_ 0 rfl
          have bf_0 := bf.at_ 0 rfl
          by_cases hv : v2 = tv
          · have hv' : (v2 != tv) = false := by simpa using hv
            have TY := Lib.hid (TK.out.trans (if_pos hv))
            clear TK hv
            go_upto_region 11 with (first | (with_reducible refine wp_newMem ?_) | ((with_reducible refine wp_storeNew (zeroL_length) (hm2) ?_ ?_ ?_); rfl; rfl))
            clear x1_0 x1_1 x1_2 x1_3 x1_4 bl_0 ba_0 bf_0
            clear bl ba bf hat haf x1
            have hc1 : ((j + 1 : Nat) : Int) = (j : Int) + 1 := rfl
            have st1 := st.set k (j + 1)
            have gw := st.bg.lt
            have nb1 : Mb (World.setCell _ ⟨g, k, none⟩ (.int .i64 ((j + 1 : Nat) : Int))) w2.heap.size m2 := ⟨nb.1.far (box_ne nb.1 st.bg (by decide)) _, nb.2⟩
            have mb1 : Mb (World.setCell _ ⟨g, k, none⟩ (.int .i64 ((j + 1 : Nat) : Int))) w.heap.size m := ⟨mb.1.far (box_ne mb.1 st.bg (by decide)) _, mb.2⟩
            have BG := Lib.hid st.bg
            have LOW := Lib.hid low
            simp only [hc1] at st1 nb1 mb1
            have len1 : (a.set k (j + 1)).length = logs.length := by rw [List.length_set]; exact AL.out
            have jl1 : ∀ (k' : Nat) l' j', logs[k']? = some l' → (a.set k (j + 1))[k']? = some j' → j' ≤ l'.length := by
              intro k' l' j' hk' hj'
              by_cases e : k = k'
              · subst e
                rw [HX.out] at hk'
                cases hk'
                rw [List.getElem?_set_self (by have := AL.out; omega)] at hj'
                cases hj'
                omega
              · rw [List.getElem?_set_ne e] at hj'
                exact JL.out k' l' j' hk' hj'
            have GW := Lib.hid (show g < w.heap.size from gw0.out)
            generalize hwA : w2.alloc (.cells (memA m2) 26) = wA at *
            clear hwA
            generalize hwB : wA.setCell ⟨g, k, none⟩ (.int .i64 ((j : Int) + 1)) = wB at *
            have HB := Lib.hid hwB
            clear hwB mb st low nb
            have CALL := Lib.hid (IH.out (N - 1) m2 (a.set k (j + 1)) wB HN.out hm2 (by omega) len1 jl1 st1)
            have RL := Lib.hid fun r (h : explO logs n m2 (a.set k (j + 1)) = some r) => explO_length h
            generalize explO logs n m2 (a.set k (j + 1)) = R2 at CALL TY RL
            have bf := st1.bf
            clear len1 jl1
            have bf_0 := bf.at_ 0 rfl
            go_wp2_with ((with_reducible refine wp_loadMem (nb1) ?_ ?_ ?_); rfl; rfl)
            (with_reducible refine CALL.out.mono ?_); rintro e w4 ⟨⟨v4, rfl, own4⟩, hb4⟩
            clear bf_0
            have gB := st1.bg.lt
            have st4 := st1.call hb4
            have mb4 := mb1.call hb4
            have hA1 : (a.set k (j + 1))[k]? = some (j + 1) := List.getElem?_set_self (by have := AL.out; omega)
            have hat4 := st4.bg.at_ k (atA_at hA1)
            rw [hc1] at hat4
            have haf4 := st4.bg.frozen k
            have ba4 := st4.ba
            have eA : (a.set k (j + 1)).set k j = a := by
              rw [List.set_set]
              apply List.ext_getElem?
              intro q
              by_cases e : k = q
              · subst e
                rw [List.getElem?_set_self (by have := AL.out; omega), HA.out]
              · rw [List.getElem?_set_ne e]
            have st5 := st4.set k j
            rw [eA] at st5
            have low5 := below_restore (x := .int .i64 ((j : Int) + 1)) (p := ⟨g, k, none⟩) (q := ⟨g, k, none⟩) LOW.out GW.out BG.out rfl rfl (by rw [HB.out]; exact hb4) st5.bg
            have mb5 : Mb (w4.setCell ⟨g, k, none⟩ (.int .i64 (j : Int))) w.heap.size m := ⟨mb4.1.far (box_ne mb4.1 st4.bg (by decide)) _, mb4.2⟩
            have own5 := own_stored own4 (Stored.cell1 w4 ⟨g, k, none⟩ (.int .i64 (j : Int))) (fun e => by have := own4.lt _ e.symm; dsimp only at this; omega)
            have OWN := Lib.hid own5
            have ST5 := Lib.hid st5
            have LOW5 := Lib.hid low5
            have MB5 := Lib.hid mb5
            clear st1 nb1 mb1 bf hb4 st4 mb4 hA1 eA st5 low5 mb5 own5 own4 CALL LOW BG HB IH
            have ba4_0 := ba4.at_ 0 rfl
            cases R2 with
            | none =>
              have TN := Lib.hid (TY.out.trans rfl)
              clear TY
              simp only [Option.isSome_none]
              go_wp2_with fail
              clear ba4_0
              go_roundw
              case rel => exact ⟨k + 1, by omega, by go_num, Lib.hid fun q hq => if h : q < k then hno.out q h else (show q = k by omega) ▸ TN.out, ST5.out, MB5.out, LOW5.out⟩
              case measure => simp [intOf]; omega
            | some r =>
              obtain rfl : R = some (k :: r) := by rw [← HR.out, explO, findSome_first (by omega) hno.out TY.out]
              simp only [Option.isSome_some, Option.getD_some] at OWN ⊢
              have rl : r.length ≤ 11 := by have := RL.out r rfl; omega
              clear TY HR RL
              have RW0 : ((w4.setCell ⟨g, k, none⟩ (.int .i64 (j : Int))).alloc (.cells #[.int .i64 (k : Int)] 3)).ownsRow w.heap.size 3 1 (.slice (some ⟨w4.heap.size, 0, none⟩) 1 1) 1 [.int .i64 (k : Int)] := by
                have hs : (w4.setCell ⟨g, k, none⟩ (.int .i64 (j : Int))).heap.size = w4.heap.size := by simp [World.setCell]
                refine ⟨rfl, .inr ⟨w4.heap.size, 1, #[.int .i64 (k : Int)], rfl, ?_, ?_, Nat.le_refl _, by unfold maxLen; decide, rfl, rfl⟩⟩
                · have := LOW5.out.size
                  omega
                · rw [← hs]
                  exact Box.new _ _ _
              have low6 := gAlloc LOW5.out (.cells #[.int .i64 (k : Int)] 3)
              have own6 := own_below OWN.out (gAlloc (Below.refl _ _) (.cells #[.int .i64 (k : Int)] 3))
              have l5 := LOW5.out.size
              have hs5 : (w4.setCell ⟨g, k, none⟩ (.int .i64 (j : Int))).heap.size = w4.heap.size := by simp [World.setCell]
              have RW := Lib.hid RW0
              rcases own6.2 with ⟨e4, e5⟩ | ⟨g', cap, cur, e4, e5, _⟩
              · subst e4
                obtain rfl : r = [] := List.eq_nil_of_length_eq_zero e5
                have AN := fun w ty => run_append_none w 45 3 ty i0 Try.underlying45 HI.out ⟨w4.heap.size, 0, none⟩ 1 1 (Nat.le_refl _)
                clear RW0 own6 e5
                go_wp2_with fail
                go_ret2
                exact ⟨⟨_, rfl, RW.out⟩, low6⟩
              · subst e4
                have NEWS := Lib.hid fun i u h => own6.cells (g := g') rfl i u h
                clear RW0 own6 e5
                go_wp2_with (at_builtin; refine wpList_append_own _ rfl _ _ 45 rfl w.heap.size 3 i0 (.int .i64 0) 1 8 Try.underlying45 HI.out HZ.out.1 HZ.out.2.1 HZ.out.2.2 rfl (by decide) _ _ _ rfl RW.out ⟨g', 0, none⟩ r.length cap (r.map fun (k : Nat) => Value.int .i64 (k : Int)) rfl ?b1 NEWS.out ?b2 ?b3 ?b4 ?b5 ?_)
                case b1 => simp
                case b2 =>
                  intro u hu
                  obtain ⟨q, _, rfl⟩ := List.mem_map.1 hu
                  rfl
                case b3 => unfold maxLen; omega
                case b4 => omega
                case b5 => exact low6.size
                intro v7 w7 own7 grow7 _
                have low7 : Below w.heap.size w w7 := low6.grown grow7 low6.size (fun q e => by simp [Value.ownBlock] at e; omega)
                have OWN7 := Lib.hid own7
                clear own7 grow7
                go_wp2_with fail
                go_ret2
                refine ⟨⟨_, rfl, ?_⟩, low7⟩
                have := OWN7.out
                rw [Nat.add_comm] at this
                exact this
          · have hv' : (v2 != tv) = true := by simpa using hv
            have TN := Lib.hid (TK.out.trans (if_neg hv))
            clear TK hv
            go_wp2_with (first | (with_reducible refine wp_newMem ?_) | ((with_reducible refine wp_storeNew (zeroL_length) (hm2) ?_ ?_ ?_); rfl; rfl))
            go_roundw
            case rel => exact ⟨k + 1, by omega, by go_num, Lib.hid fun q hq => if h : q < k then hno.out q h else (show q = k by omega) ▸ TN.out, st, mb, low⟩
            case measure => simp [intOf]; omega
      · obtain rfl : k = logs.length := by omega
        obtain rfl : R = none := by rw [← HR.out, explO, findSome_none hno.out]
        go_wp2_with fail
        go_ret2
        exact ⟨⟨_, rfl, World.ownsRow_nil _ _ _ _⟩, low⟩
end Go.Proofs.Ytgoaedbhcldmiaa
