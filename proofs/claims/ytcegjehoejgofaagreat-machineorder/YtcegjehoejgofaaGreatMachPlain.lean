/-
Proved: what happens in a cycle of a right machine, and in many, is plain operations one after the other: what they tell, the flat memory, each node's in the order of its program. By lists alone, no walk. Condition: an operation does in the flat memory what it does (handed in).
-/
import Derived.Test.YtcegjehoejgofaaGreatJoined6
import Derived.Test.YtcegjehoejgofaaGreatSplitFacts
import Derived.Test.YtcegjehoejgofaaGreatTallyFacts
namespace Go.Proofs.YtcegjehoejgofaaGreat
open Go.ChangeShapes Go.WideShapes Go.ChangeAt Go.RowKit Go.Joins
structure Inv (M0 M : Mc) (es : List Ev) : Prop where
 flat : flatW M.css M.mem = runM (flatW M0.css M0.mem) (evD es)
 told : evT es = runV (flatW M0.css M0.mem) (evD es)
 good : runE (evD es) = 0
 pr : M.pr = M0.pr
 node : ∀ e ∈ evD es, 0 ≤ e.nd ∧ e.nd < M0.n
 kept : ∀ k : Nat, 0 ≤ M.at_.getD k 0 ∧ ((M.pr.getD k []).take (M.at_.getD k 0).toNat = (M0.pr.getD k []).take (M0.at_.getD k 0).toNat ++ onD k (evD es))
theorem ats_nonneg {M : Mc} (h : McOk M) (k : Nat) : 0 ≤ M.at_.getD k 0 := by
 by_cases hk : k < M.at_.length
 ·obtain ⟨x, l, _, _, gx, _, x0, _⟩ := h.there hk
  omega
 ·simp [List.getD, List.getElem?_eq_none (Nat.le_of_not_lt hk)]
theorem Inv.refl {M : Mc} (h : McOk M) : Inv M M [] := by
 have ed : evD [] = [] := by simp [evD]
 refine ⟨by rw [ed, runM, List.foldl_nil], by rw [ed, evT, runV, List.map_nil], by rw [ed, runE], rfl, by rw [ed]; simp, fun k => ⟨ats_nonneg h k, by rw [ed, onD, List.filter_nil, List.append_nil]⟩⟩
theorem Inv.trans {M0 M1 M2 : Mc} {es fs : List Ev} (h : Inv M0 M1 es) (h' : Inv M1 M2 fs) (hn : M1.n = M0.n) : Inv M0 M2 (es ++ fs) := by
 have ed : evD (es ++ fs) = evD es ++ evD fs := by simp [evD]
 have et : evT (es ++ fs) = evT es ++ evT fs := by simp [evT]
 refine ⟨?_, ?_, ?_, h'.pr.trans h.pr, ?_, fun k => ⟨(h'.kept k).1, ?_⟩⟩
 ·rw [h'.flat, h.flat, ed, runM_append]
 ·rw [et, ed, runV_append, h.told, h'.told, h.flat]
 ·rw [ed, runE_append, if_pos h.good]
  exact h'.good
 ·intro e he
  rw [ed, List.mem_append] at he
  rcases he with he | he
  ·exact h.node e he
  ·rw [← hn]
   exact h'.node e he
 ·rw [(h'.kept k).2, (h.kept k).2, ed]
  unfold onD
  rw [List.filter_append, List.append_assoc]
theorem inv_perf {D : DidF} (hD : DidOk D) {M : Mc} (h : McOk M) (hm : M.mem.length = 64) {k : Nat} {d : Dd} (bb : Bool) (e : opAt M k = some d) : Inv M (perf D M k d) [perfE M bb d] := by
 obtain ⟨x, l, hx, hl, x0, x1, hd, hnd, hde, hkn⟩ := opAt_some h e
 have ka := (List.getElem?_eq_some_iff.1 hx).1
 have gx : M.at_.getD k 0 = x := by simp [List.getD, hx]
 have gl : M.pr.getD k [] = l := by simp [List.getD, hl]
 have at_ : (perf D M k d).at_ = M.at_.set k (x + 1) := by unfold perf; split <;> rw [gx]
 have pr : (perf D M k d).pr = M.pr := by unfold perf; split <;> rfl
 have ed : evD [perfE M bb d] = [d] := rfl
 have key : flatW (perf D M k d).css (perf D M k d).mem = doM (flatW M.css M.mem) d ∧ (perfE M bb d).told = doV (flatW M.css M.mem) d := by
  unfold perf perfE
  by_cases hi : idleB M.css d = true
  ·have hk4 : d.kd = 4 := by
    have := hi
    unfold idleB at this
    simp only [Bool.and_eq_true, beq_iff_eq] at this
    exact this.1
   simp only [if_pos hi]
   constructor
   ·unfold doM
    rw [hk4, if_neg (by decide)]
   ·unfold doV
    rw [hk4, if_neg (by decide)]
  ·have hi' : idleB M.css d = false := by simpa using hi
   simp only [if_neg hi]
   exact ⟨(hD M.n M.s M.y M.b M.css M.mem d hm (by unfold findE; rw [if_neg (by simpa using h.coh), if_neg (by simpa using hde), if_neg (by omega)]) hi').2.2, trivial⟩
 refine ⟨?_, ?_, ?_, pr, ?_, fun j => ?_⟩
 ·rw [key.1, ed]; rfl
 ·rw [ed]
  show [(perfE M bb d).told] = _
  rw [key.2]
  rfl
 ·rw [ed]
  show (if deedE d = 0 then runE [] else deedE d) = 0
  rw [if_pos hde]
  rfl
 ·intro e' he'
  rw [ed, List.mem_singleton] at he'
  subst he'
  omega
 ·rw [at_, pr, getD_set ka, ed]
  by_cases ej : j = k
  ·subst ej
   rw [if_pos rfl, gx, gl]
   refine ⟨by omega, ?_⟩
   have e1 : (x + 1).toNat = x.toNat + 1 := by omega
   have e2 : onD j [d] = [d] := by simp [onD, hnd]
   rw [e1, e2, List.take_add_one, hd]
   rfl
  ·rw [if_neg ej]
   refine ⟨ats_nonneg h j, ?_⟩
   have e2 : onD j [d] = [] := by
    simp [onD, hnd]
    omega
   rw [e2, List.append_nil]
theorem Cyc.here {M1 M : Mc} {was P : List Nat} {es : List Ev} (h : Cyc M1 was P M es) : M.n = M1.n := h.same.1
theorem back_inv {D : DidF} (hD : DidOk D) {M1 : Mc} {was : List Nat} : ∀ (ks P : List Nat) (M : Mc) (es : List Ev), Cyc M1 was P M es → M.ring = M1.ring → ks.Nodup → (∀ k ∈ ks, k ∉ P ∧ filB M1.ring k = false) → Inv M1 M es →
  Inv M1 (ks.foldl (backS D) (M, es)).1 (ks.foldl (backS D) (M, es)).2
 | [], P, M, es, h, hr, _, _, hi => hi
 | k :: ks, P, M, es, h, hr, hn, ha, hi => by
  obtain ⟨h1, h2⟩ := ha k (by simp)
  obtain ⟨n1, n2⟩ := List.nodup_cons.1 hn
  have next : ∀ j ∈ ks, j ∉ P ++ [k] ∧ filB M1.ring j = false := fun j hj => by
   obtain ⟨a1, a2⟩ := ha j (by simp [hj])
   refine ⟨?_, a2⟩
   rw [List.mem_append, List.mem_singleton]
   rintro (h | rfl)
   ·exact a1 h
   ·exact n1 hj
  rw [List.foldl_cons]
  have e := h.op h1
  cases ho : opAt M k with
  | none =>
   rw [show backS D (M, es) k = (M, es) by unfold backS; rw [ho]]
   exact back_inv hD ks (P ++ [k]) M es (h.skip (.inr (.inr (.inl (e.symm.trans ho))))) hr n2 next hi
  | some d =>
   rw [show backS D (M, es) k = (perf D M k d, es ++ [perfE M true d]) by unfold backS; rw [ho]]
   exact back_inv hD ks (P ++ [k]) _ _ (h.perf hD h1 (by rw [hr]; exact h2) ho) (by rw [perf_ring]; exact hr) n2 next (hi.trans (inv_perf hD h.ok h.m64 true ho) h.here)
theorem turn_inv {D : DidF} (hD : DidOk D) {M1 : Mc} {was : List Nat} (hh : M1.had ≤ 999991) : ∀ (j : Nat) (M : Mc) (es : List Ev), j ≤ 8 → Cyc M1 was was M es → Inv M1 M es →
  Inv M1 ((List.range j).foldl (turnS D was) (M, es)).1 ((List.range j).foldl (turnS D was) (M, es)).2
 | 0, M, es, _, h, hi => hi
 | j + 1, M, es, h8, h, hi => by
  have ih := turn_inv hD hh j M es (by omega) h hi
  have cy := turn_fold hD hh j M es (by omega) h
  rw [List.range_succ, List.foldl_append]
  generalize (List.range j).foldl (turnS D was) (M, es) = S at *
  obtain ⟨M', es'⟩ := S
  simp only at ih cy
  simp only [List.foldl_cons, List.foldl_nil]
  unfold turnS
  by_cases hw : j ∈ was ∨ filB M'.ring j = true
  ·rw [if_pos hw]
   exact ih
  ·rw [if_neg hw]
   simp only
   cases ho : opAt M' j with
   | none => exact ih
   | some d =>
    simp only
    by_cases hd : idleB M'.css d = true ∨ hitB M'.css d = true
    ·rw [if_pos hd]
     exact ih.trans (inv_perf hD cy.ok cy.m64 false ho) cy.here
    ·rw [if_neg hd]
     by_cases hr : M'.ring.any (freS j) = true
     ·rw [if_pos hr]
      exact ⟨ih.flat, ih.told, ih.good, ih.pr, ih.node, ih.kept⟩
     ·rw [if_neg hr]
      exact ih
theorem cyc_inv {D : DidF} (hD : DidOk D) {M : Mc} (h : McOk M) (hm : M.mem.length = 64) (hh : M.had ≤ 999991) : Inv M (cycM D M).1 (cycM D M).2 := by
 have ok1 := adv_ok h
 have st : Cyc (advM M) (backN M) [] (advM M) [] := ⟨ok1, hm, ⟨rfl, rfl, rfl, rfl, rfl, rfl⟩, rfl, fun k => by simp [evN], by simp, by simp [evN], rfl, fun i x' hx' => ⟨x', hx', .inl rfl⟩, by simp, by simp⟩
 have nd : (backN M).Nodup := by
  unfold backN
  exact (List.nodup_range).filter _
 have hb : ∀ k ∈ backN M, k ∉ ([] : List Nat) ∧ filB (advM M).ring k = false := fun k hk => ⟨by simp, back_gone h hk⟩
 have b := back_fold hD (backN M) [] (advM M) [] st rfl nd hb
 have bi := back_inv hD (backN M) [] (advM M) [] st rfl nd hb (Inv.refl ok1)
 rw [List.nil_append] at b
 have t := turn_inv (M1 := advM M) hD (show (advM M).had ≤ 999991 from hh) M.n.toNat _ _ (by have := h.nodes; omega) b.1 bi
 exact ⟨t.flat, t.told, t.good, t.pr, t.node, t.kept⟩
theorem run_inv {D : DidF} (hD : DidOk D) : ∀ (c : Nat) (M : Mc), McOk M → M.mem.length = 64 → runF D c M = 0 → Inv M (runC D c M).1 (runC D c M).2
 | 0, M, h, hm, _ => Inv.refl h
 | c + 1, M, h, hm, hr => by
  by_cases he : endB M = true
  ·rw [(run_ended he (c + 1)).1]
   exact Inv.refl h
  ·unfold runF at hr
   rw [if_neg he] at hr
   by_cases hf : 999991 < M.had
   ·rw [if_pos hf] at hr; cases hr
   ·rw [if_neg hf] at hr
    have mid := cyc_mid hD h hm (by omega)
    have ih := run_inv hD c (cycM D M).1 mid.ok mid.m64 hr
    rw [runC, if_neg he]
    exact (cyc_inv hD h hm (by omega)).trans ih mid.same.1
end Go.Proofs.YtcegjehoejgofaaGreat
