/-
Proved: what copyWorld of package deed returns; it changes nothing that was there, and what it returns is new. Condition: the caches are right, at most eight.
-/
import Derived.Test.YtahoadfofleacaaJoined5
namespace Go.Proofs.Ytahoadfofleacaa
open Go.ChangeShapes Go.WideShapes Go.ChangeAt Go.RowKit Go.Joins

/-- A world is built, as an operation of a walk. -/
theorem wp_buildW {ops : Array Oper} {rest : List Oper} {dst : Option Tmp} {t : TypeId} {pos : String} {after : Array Edge} {a : Act} {w : World} {Q : Exit → Act → World → Prop} {x y : Operand} (A : Option Addr) (n c : Nat) (m : List Int) (hm : m.length = 64) (hx : a.eval x = .slice A n c) (hy : a.eval y = memV m)
    (h : wpList Try.prog ops Q rest (a.put dst (wldV (.slice A n c) m)) w) : wpList Try.prog ops Q (⟨dst, .build 31 #[(0, x), (1, y)], t, pos, after, none⟩ :: rest) a w := by
  refine wpList_plain rfl fun K hK => ?_
  unfold Oper.wp
  rw [exec_buildM (ρ := a.eval) hm hx hy]
  exact hK _ _ h

set_option maxRecDepth 10000 in
set_option maxHeartbeats 2000000 in
theorem copyWorld_ok (v : Value) (m : List Int) (css : List (List St)) (w : World) (h : Ks w v css) (hm : m.length = 64) (n8 : css.length ≤ 8) (hl : ∀ ss ∈ css, 0 < ss.length ∧ ss.length ≤ 4 ∧ ∀ (q : Nat) t, ss[q]? = some t → 0 < t.l.length ∧ t.l.length ≤ 4) :
    Calls Try.prog 50 #[wldV v m] w fun e w' => (∃ v', e = .returned (wldV v' m) ∧ KFr w' w.heap.size w'.heap.size v' css) ∧ Below w.heap.size w w' := by
  obtain ⟨A, cp, rfl, h1, h2, h3⟩ := h
  have H3 := Lib.hid h3
  have HL := Lib.hid hl
  have MS := fun w => make_caches css.length n8 w
  unfold maxLen at h2
  clear h3 hl
  have low := Below.refl w.heap.size w
  have wb := boxNext low 31 (wldA (.slice A css.length cp) m)
  replace low := gAlloc low (.cells (wldA (.slice A css.length cp) m) 31)
  try simp only [World.size_alloc] at wb
  have ob := boxNext low 31 nilW
  replace low := gAlloc low (.cells nilW 31)
  replace wb := wb.alloc (.cells nilW 31)
  try simp only [World.size_alloc] at ob
  have ab := boxNext low 55 (nilsA css.length)
  replace low := gAlloc low (.cells (nilsA css.length) 55)
  replace wb := wb.alloc (.cells (nilsA css.length) 55)
  replace ob := ob.alloc (.cells (nilsA css.length) 55)
  try simp only [World.size_alloc] at ab
  have wb0 := (wb.at_ 0 (wldA_zero _ _))
  have w00 : ((w.alloc (.cells (wldA (.slice A css.length cp) m) 31)).alloc (.cells nilW 31)).cell? ⟨w.heap.size, 0, none⟩ = some (.slice A css.length cp) := ((Box.new w 31 (wldA (.slice A css.length cp) m)).alloc _).at_ 0 (wldA_zero _ _)
  go_enter Try.func50, Try.ntmps50
  go_wp2_with (first | (with_reducible refine wp_newW (tyWorld) ?_))
  clear MS wb0 w00
  go_loopw [13] (fun a wr => ∃ j : Nat, j ≤ css.length ∧ a = .int .i64 j ∧ Hid (∃ us : List Value, us.length = css.length ∧ Box wr (w.heap.size + 1 + 1) 55 us.toArray ∧ ∀ q, q < j → KMade wr (w.heap.size + 1 + 1) wr.heap.size (w.heap.size + 1 + 1) us css q) ∧
    Box wr w.heap.size 31 (wldA (.slice A css.length cp) m) ∧ Box wr (w.heap.size + 1) 31 nilW ∧ Below w.heap.size w wr) (fun a _ => css.length - (intOf a).toNat)
  case atStart => exact ⟨0, Nat.zero_le _, rfl, Lib.hid ⟨_, by simp, ab, fun q hq => absurd hq (by omega)⟩, wb, ob, low⟩
  case round =>
    clear ab wb ob low
    obtain ⟨j, hj, rfl, hus, wb, ob, low⟩ := hrel
    obtain ⟨us, ulen, ab, hkm⟩ := hus.out
    have HKM := Lib.hid hkm
    have HUL := Lib.hid ulen
    clear hus hkm ulen
    by_cases hlt : j < css.length
    · obtain ⟨bb, o, rfl, hb, hc⟩ := H3.out (by omega)
      have hx : css[j]? = some css[j] := List.getElem?_eq_getElem _
      generalize css[j] = ss at hx
      obtain ⟨A', c', ce, cs⟩ := hc j ss hx
      replace ce := (low.cell (p := ⟨bb, o + j, none⟩) hb).trans ce
      replace cs := cs.call low
      obtain ⟨l1, l2, l3⟩ := HL.out ss (List.mem_of_getElem? hx)
      have CS := Lib.hid cs
      have HX := Lib.hid hx
      have CC := Lib.hid fun w hw => copyCache_any (.slice A' ss.length c') ss w hw l1 l2 l3
      clear hx hc cs l1 l2 l3
      have k0 : (0 : Int) ≤ j := by omega
      have k1 : (j : Int) < css.length := by omega
      have uj : j < us.toArray.size := by rw [List.size_toArray, HUL.out]; exact hlt
      have za := ab.lt
      go_wp2_with fail
      (with_reducible refine (CC.out _ CS.out).mono ?_); rintro e w3 ⟨⟨rfl, own⟩, hb3⟩
      have cf : CFr w3 wr.heap.size w3.heap.size (.slice (some ⟨wr.heap.size, 0, none⟩) ss.length ss.length) ss := .inr ⟨_, Nat.le_refl _, own.lt, own⟩
      have CF := Lib.hid cf
      replace ab := ab.call hb3
      replace wb := wb.call hb3
      replace ob := ob.call hb3
      replace low := gCall low hb3
      have HK3 := Lib.hid (fun q (hq : q < j) => ((HKM.out q hq).call hb3).more (Nat.le_refl _) hb3.size)
      clear hb3 HKM cf own ce CS CC
      go_wp2_with ((with_reducible refine wp_store1 size_cache ab j uj (.slice (some ⟨wr.heap.size, 0, none⟩) ss.length ss.length) rfl rfl ?_ ?_ ?_); rfl; rfl)
      intro w4 ab4 st
      rw [List.setIfInBounds_toArray] at ab4
      replace wb := st.box wb (by omega)
      replace ob := st.box ob (by omega)
      replace low := st.low low (by omega)
      have HK4 := Lib.hid (show ∀ q, q < j + 1 → KMade w4 (w.heap.size + 1 + 1) w4.heap.size (w.heap.size + 1 + 1) (us.set j (.slice (some ⟨wr.heap.size, 0, none⟩) ss.length ss.length)) css q from fun q hq => by
        rw [st.size]
        by_cases e : q = j
        · subst e
          exact KMade.set st (by have := HUL.out; omega) HX.out (by omega) (Nat.le_refl _) (.inr (by omega)) CF.out
        · exact (HK3.out q (by omega)).past st (fun h => e h.symm) _)
      clear st ab HK3 CF
      go_wp2_with fail
      go_roundw
      case rel => exact ⟨j + 1, by omega, by go_num, Lib.hid ⟨_, by rw [List.length_set]; exact HUL.out, ab4, HK4.out⟩, wb, ob, low⟩
      case measure => simp [intOf]; omega
    · obtain rfl : j = css.length := by omega
      have KF := Lib.hid (show KFr wr (w.heap.size + 1 + 1) wr.heap.size (.slice (some ⟨w.heap.size + 1 + 1, 0, none⟩) css.length css.length) css from
        ⟨_, us, rfl, HUL.out, by unfold maxLen; omega, Nat.le_refl _, ab.lt, ab, fun q => by
          by_cases hq : q < css.length
          · exact HKM.out q hq
          · intro sa hs
            have := (List.getElem?_eq_some_iff.1 hs).1
            omega⟩)
      have wm := wld_mem wb
      have s1 : (wldA (.slice (some ⟨w.heap.size + 1 + 1, 0, none⟩) css.length css.length) m).size = nilW.size := wld_size hm
      have one : (wldA (.slice (some ⟨w.heap.size + 1 + 1, 0, none⟩) css.length css.length) m).all (·.oneCell') = true := wldA_one _
      go_wp2_with (first | ((with_reducible refine wp_loadW (tyMem) (wm) (mem_zsize hm) ?_ ?_ ?_); rfl; rfl) | ((with_reducible refine wp_buildW (some ⟨w.heap.size + 1 + 1, 0, none⟩) css.length css.length m hm ?_ ?_ ?_); rfl; rfl) | ((with_reducible refine wp_storeW (tyWorld) (ob) (rfl) (s1) (one) ?_ ?_ ?_); rfl; rfl))
      intro w5 ob5 st5
      replace low := st5.low low (by omega)
      have KF5 := Lib.hid ((KF.out.out st5 (.inl (by omega))).more (B' := w.heap.size) (C' := w5.heap.size) (by omega) (Nat.le_of_eq st5.size.symm))
      clear st5 ob wb wm KF ab
      go_wp2_with fail
      exact bodyPost_ret (v := wldV (.slice (some ⟨w.heap.size + 1 + 1, 0, none⟩) css.length css.length) m) (results_one tyWorld Try.results50 rfl ob5 s1) rfl ⟨⟨_, rfl, KF5.out⟩, low⟩
end Go.Proofs.Ytahoadfofleacaa
