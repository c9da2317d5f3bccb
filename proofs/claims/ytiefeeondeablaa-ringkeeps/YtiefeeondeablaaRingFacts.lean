/-
Proved: lists of slots: when a ring is right; what a step and a put make of it; who is told. No walk. No condition.
-/
import Derived.Test.YtiefeeondeablaaRing4
namespace Go.Proofs.Ytiefeeondeablaa
open Go.ChangeShapes Go.WideShapes Go.ChangeAt Go.RowKit Go.Joins

/-- What is right of one slot; two slots are not of one node; a right ring. -/
def okS (n : Int) (x : Sw) : Prop := nodB n x.pl = true ∧ nodB n x.nd = true ∧ waitB x.wt = true ∧ (x.fu = false → x.nd = 0 ∧ x.wt = 0)
def apartS (x y : Sw) : Prop := x.fu = true → y.fu = true → x.nd ≠ y.nd
structure RingOk (n : Int) (l : List Sw) : Prop where
  each : ∀ x ∈ l, okS n x
  uni : l.Pairwise apartS

theorem filB_iff {l : List Sw} {node : Int} : filB l node = true ↔ ∃ x ∈ l, x.fu = true ∧ x.nd = node := by
  unfold filB filS
  rw [List.any_eq_true]
  constructor
  · rintro ⟨x, hx, h⟩
    simp at h
    exact ⟨x, hx, h⟩
  · rintro ⟨x, hx, h1, h2⟩
    exact ⟨x, hx, by simp [h1, h2]⟩
theorem filB_no {l : List Sw} {node : Int} : filB l node = false ↔ ∀ x ∈ l, x.fu = true → x.nd ≠ node := by
  rw [← Bool.not_eq_true, filB_iff]
  constructor
  · intro h x hx h1 h2
    exact h ⟨x, hx, h1, h2⟩
  · rintro h ⟨x, hx, h1, h2⟩
    exact h x hx h1 h2

theorem slotE_zero {n : Int} {l : List Sw} {x : Sw} : slotE n l x = 0 ↔ okS n x ∧ (x.fu = true → filB l x.nd = false) := by
  unfold slotE okS
  cases h1 : nodB n x.pl <;> cases h2 : nodB n x.nd <;> cases h3 : waitB x.wt <;> cases h4 : x.fu <;> cases h5 : filB l x.nd <;> simp

theorem slotsE_zero {n : Int} : ∀ {r l : List Sw}, slotsE n l r = 0 ↔ (∀ x ∈ r, okS n x) ∧ r.Pairwise apartS ∧ ∀ y ∈ l, ∀ x ∈ r, apartS y x
  | [], l => by simp [slotsE]
  | z :: r, l => by
    rw [slotsE_cons]
    have ih := slotsE_zero (n := n) (r := r) (l := l ++ [z])
    by_cases e : slotE n l z = 0
    · rw [if_pos e, ih]
      obtain ⟨e1, e2⟩ := slotE_zero.1 e
      constructor
      · rintro ⟨h1, h2, h3⟩
        refine ⟨fun x hx => ?_, List.pairwise_cons.2 ⟨fun x hx => h3 z (by simp) x hx, h2⟩, fun y hy x hx => ?_⟩
        · rcases List.mem_cons.1 hx with rfl | hx
          · exact e1
          · exact h1 x hx
        · rcases List.mem_cons.1 hx with rfl | hx
          · intro f1 f2 e3
            exact filB_no.1 (e2 f2) y hy f1 e3
          · exact h3 y (by simp [hy]) x hx
      · rintro ⟨h1, h2, h3⟩
        obtain ⟨h4, h5⟩ := List.pairwise_cons.1 h2
        refine ⟨fun x hx => h1 x (by simp [hx]), h5, fun y hy x hx => ?_⟩
        rcases List.mem_append.1 hy with hy | hy
        · exact h3 y hy x (by simp [hx])
        · simp at hy; subst hy; exact h4 x hx
    · rw [if_neg e]
      constructor
      · intro h; exact absurd h e
      · rintro ⟨h1, h2, h3⟩
        exact absurd (slotE_zero.2 ⟨h1 z (by simp), fun f => filB_no.2 fun y hy f1 e3 => h3 y hy z (by simp) f1 f e3⟩) e

theorem ringE_zero {n s y b : Int} {l : List Sw} : ringE n s y b l = 0 ↔ cfgB n s y b = true ∧ 1 ≤ l.length ∧ l.length ≤ 8 ∧ RingOk n l := by
  constructor
  · intro h
    obtain ⟨h1, h2, h3, h4⟩ := ringE_ok h
    obtain ⟨k1, k2, _⟩ := slotsE_zero.1 h4
    exact ⟨h1, h2, h3, k1, k2⟩
  · rintro ⟨h1, h2, h3, k1, k2⟩
    unfold ringE
    rw [if_pos (by unfold cntE; rw [if_pos ⟨h1, by omega, by omega⟩]), slotsE_zero]
    exact ⟨k1, k2, by simp⟩

/-! A step. -/
theorem advS_ok {n : Int} (hn : 2 ≤ n) {x : Sw} (h : okS n x) : okS n (advS n x) := by
  obtain ⟨a, f, d, t⟩ := x
  obtain ⟨h1, h2, h3, h4⟩ := h
  simp only at h1 h2 h3 h4
  obtain ⟨t1, t2⟩ := waitB_iff.1 h3
  have n1 : nodB n (nodeAt n a 1) = true := nodB_iff.2 ⟨nodeAt_nonneg (by omega), nodeAt_lt (by omega)⟩
  unfold advS
  simp only
  by_cases c1 : f = true ∧ 0 < t
  · rw [if_pos c1]
    refine ⟨h1, h2, waitB_iff.2 ⟨by simp only; omega, by simp only; omega⟩, fun e => ?_⟩
    simp only at e
    rw [c1.1] at e; cases e
  · rw [if_neg c1]
    by_cases c2 : f = true ∧ nodeAt n a 1 = d
    · rw [if_pos c2]
      exact ⟨n1, nodB_iff.2 ⟨by simp, by simp; omega⟩, waitB_iff.2 ⟨by simp, by simp⟩, fun _ => ⟨rfl, rfl⟩⟩
    · rw [if_neg c2]
      exact ⟨n1, h2, h3, h4⟩
theorem advS_full {n : Int} {x : Sw} (h : (advS n x).fu = true) : x.fu = true ∧ (advS n x).nd = x.nd := by
  unfold advS at h ⊢
  by_cases c1 : x.fu = true ∧ 0 < x.wt
  · rw [if_pos c1]; exact ⟨c1.1, rfl⟩
  · rw [if_neg c1] at h ⊢
    by_cases c2 : x.fu = true ∧ nodeAt n x.pl 1 = x.nd
    · rw [if_pos c2] at h; cases h
    · rw [if_neg c2] at h ⊢; exact ⟨h, rfl⟩
theorem RingOk.step {n : Int} (hn : 2 ≤ n) {l : List Sw} (h : RingOk n l) : RingOk n (l.map (advS n)) := by
  refine ⟨fun x hx => ?_, ?_⟩
  · obtain ⟨y, hy, rfl⟩ := List.mem_map.1 hx
    exact advS_ok hn (h.each y hy)
  · rw [List.pairwise_map]
    refine h.uni.imp fun {x y} k f1 f2 => ?_
    obtain ⟨a1, a2⟩ := advS_full f1
    obtain ⟨b1, b2⟩ := advS_full f2
    rw [a2, b2]
    exact k a1 b1

theorem mem_backL {n : Int} {l : List Sw} {d : Int} : d ∈ backL n l ↔ ∃ x ∈ l, retS n x = true ∧ x.nd = d := by
  unfold backL
  simp only [List.mem_map, List.mem_filter]
  constructor
  · rintro ⟨x, ⟨h1, h2⟩, h3⟩; exact ⟨x, h1, h2, h3⟩
  · rintro ⟨x, h1, h2, h3⟩; exact ⟨x, ⟨h1, h2⟩, h3⟩

/-- Two slots of one node are one. -/
theorem RingOk.one {n : Int} {l : List Sw} (h : RingOk n l) {x y : Sw} (hx : x ∈ l) (hy : y ∈ l) (fx : x.fu = true) (fy : y.fu = true) (e : x.nd = y.nd) : x = y := by
  obtain ⟨i, hi, rfl⟩ := List.getElem_of_mem hx
  obtain ⟨j, hj, rfl⟩ := List.getElem_of_mem hy
  rcases Nat.lt_trichotomy i j with c | rfl | c
  · exact absurd e (List.pairwise_iff_getElem.1 h.uni i j hi hj c fx fy)
  · rfl
  · exact absurd e.symm (List.pairwise_iff_getElem.1 h.uni j i hj hi c fy fx)

/-! A put. -/
theorem RingOk.put {n : Int} {l : List Sw} (h : RingOk n l) {node t : Int} (hn : nodB n node = true) (ht : waitB t = true) (hf : filB l node = false) (k : Nat) : RingOk n (l.set k ⟨node, true, node, t⟩) := by
  refine ⟨fun x hx => ?_, ?_⟩
  · rcases List.mem_or_eq_of_mem_set hx with hx | rfl
    · exact h.each x hx
    · exact ⟨hn, hn, ht, fun e => by cases e⟩
  · rw [List.pairwise_iff_getElem]
    intro i j hi hj hij f1 f2
    rw [List.length_set] at hi hj
    rw [List.getElem_set] at f1 ⊢
    rw [List.getElem_set] at f2 ⊢
    have no := filB_no.1 hf
    by_cases c1 : k = i
    · rw [if_pos c1]
      rw [if_neg (by omega)] at f2 ⊢
      exact fun e => no _ (List.getElem_mem _) f2 e.symm
    · rw [if_neg c1] at f1 ⊢
      by_cases c2 : k = j
      · rw [if_pos c2]
        exact no _ (List.getElem_mem _) f1
      · rw [if_neg c2] at f2 ⊢
        exact List.pairwise_iff_getElem.1 h.uni i j hi hj hij f1 f2

/-! The nodes whose slots are under way. -/
def undL (l : List Sw) : List Int := (l.filter Sw.fu).map Sw.nd
theorem RingOk.nodup {n : Int} {l : List Sw} (h : RingOk n l) : (undL l).Nodup := by
  unfold undL List.Nodup
  rw [List.pairwise_map]
  refine List.Pairwise.imp_of_mem (fun {x y} hx hy k => ?_) (h.uni.filter _)
  exact k (by simpa using (List.mem_filter.1 hx).2) (by simpa using (List.mem_filter.1 hy).2)

theorem split_len {α : Type} (p q : α → Bool) (l : List α) : (l.filter p).length = (l.filter fun x => p x && q x).length + (l.filter fun x => p x && !q x).length := by
  induction l with
  | nil => rfl
  | cons x r ih => cases h1 : p x <;> cases h2 : q x <;> simp [h1, h2] <;> omega

/-- Those that go on: those that were under way, less those that are told. -/
theorem undL_map {n : Int} (l : List Sw) : undL (l.map (advS n)) = (l.filter fun x => x.fu && (advS n x).fu).map Sw.nd := by
  unfold undL
  rw [List.filter_map, List.map_map]
  have e : l.filter (Sw.fu ∘ advS n) = l.filter fun x => x.fu && (advS n x).fu := by
    refine List.filter_congr fun x _ => ?_
    show (advS n x).fu = _
    cases h : (advS n x).fu
    · simp
    · simp [(advS_full h).1]
  rw [e]
  refine List.map_congr_left fun x hx => ?_
  have := (List.mem_filter.1 hx).2
  simp at this
  exact (advS_full this.2).2
theorem RingOk.told {n m : Int} {l : List Sw} (h : RingOk m l) {x : Sw} (hx : x ∈ l) (fx : x.fu = true) : x.nd ∈ backL n l ↔ retS n x = true := by
  rw [mem_backL]
  constructor
  · rintro ⟨y, hy, h1, h2⟩
    have fy : y.fu = true := by unfold retS at h1; simp at h1; exact h1.1
    rwa [← h.one hy hx fy fx h2]
  · intro h1
    exact ⟨x, hx, h1, rfl⟩
theorem RingOk.left {n : Int} {l : List Sw} (h : RingOk n l) : undL (l.map (advS n)) = (undL l).filter (fun d => !decide (d ∈ backL n l)) := by
  rw [undL_map]
  unfold undL
  rw [List.filter_map, List.filter_filter]
  congr 1
  refine List.filter_congr fun x hx => ?_
  show _ = (!decide (x.nd ∈ backL n l) && x.fu)
  cases f : x.fu
  · simp
  · have e : decide (x.nd ∈ backL n l) = retS n x := by
      cases r : retS n x
      · exact decide_eq_false fun k => by rw [(h.told hx f).1 k] at r; cases r
      · exact decide_eq_true ((h.told hx f).2 r)
    rw [e]
    unfold retS
    rw [f]
    simp
theorem undL_count (n : Int) (l : List Sw) : (undL l).length = (undL (l.map (advS n))).length + (backL n l).length := by
  rw [undL_map]
  unfold undL backL
  rw [List.length_map, List.length_map, List.length_map]
  exact split_len Sw.fu (fun x => (advS n x).fu) l

theorem emod_two {z n : Int} (h0 : 0 ≤ z) (h1 : z < 2 * n) : z % n = if z < n then z else z - n := by
  by_cases c : z < n
  · rw [if_pos c, Int.emod_eq_of_lt h0 c]
  · rw [if_neg c]
    have e : z % n = (z - n) % n := by
      conv => lhs; rw [show z = (z - n) + n by omega]
      first | exact Int.add_emod_right _ _ | exact Int.add_emod_self
    rw [e, Int.emod_eq_of_lt (by omega) (by omega)]

/-! One slot on its way: behind j steps. -/
def wayS (n node t : Int) (j : Nat) : Sw := if (j : Int) ≤ t then ⟨node, true, node, t - j⟩ else ⟨(node + (j - t)) % n, true, node, 0⟩
theorem wayS_full (n node t : Int) (j : Nat) : (wayS n node t j).fu = true := by unfold wayS; split <;> rfl
theorem wayS_nd (n node t : Int) (j : Nat) : (wayS n node t j).nd = node := by unfold wayS; split <;> rfl
/-- Its next step: it is told just at the last one. -/
theorem wayS_step {n node t : Int} (hn : 2 ≤ n) (h0 : 0 ≤ node) (h1 : node < n) (_t0 : 0 ≤ t) {j : Nat} (hj : (j : Int) < n + t) :
    (retS n (wayS n node t j) = decide ((j : Int) + 1 = n + t)) ∧ ((j : Int) + 1 < n + t → advS n (wayS n node t j) = wayS n node t (j + 1)) := by
  by_cases c : (j : Int) < t
  · have e1 : wayS n node t j = ⟨node, true, node, t - j⟩ := by unfold wayS; rw [if_pos (by omega)]
    have e2 : wayS n node t (j + 1) = ⟨node, true, node, t - j - 1⟩ := by
      unfold wayS; rw [if_pos (by push_cast; omega)]; congr 1; push_cast; omega
    have e3 : advS n ⟨node, true, node, t - j⟩ = ⟨node, true, node, t - j - 1⟩ := by
      unfold advS; rw [if_pos ⟨rfl, by simp only; omega⟩]
    rw [e1, e2]
    unfold retS
    rw [e3]
    refine ⟨?_, fun _ => rfl⟩
    rw [decide_eq_false (by omega)]
    rfl
  · obtain ⟨m, hm⟩ : ∃ m : Int, m = (j : Int) - t := ⟨_, rfl⟩
    have m0 : 0 ≤ m := by omega
    have m1 : m < n := by omega
    have e1 : wayS n node t j = ⟨(node + m) % n, true, node, 0⟩ := by
      unfold wayS
      by_cases c2 : (j : Int) ≤ t
      · rw [if_pos c2, show m = 0 by omega, Int.add_zero, Int.emod_eq_of_lt h0 h1, show t - (j : Int) = 0 by omega]
      · rw [if_neg c2, hm]
    have e2 : wayS n node t (j + 1) = ⟨(node + (m + 1)) % n, true, node, 0⟩ := by
      unfold wayS
      rw [if_neg (by push_cast; omega), show ((j + 1 : Nat) : Int) - t = m + 1 by push_cast; omega]
    have e4 : nodeAt n ((node + m) % n) 1 = (node + (m + 1)) % n := by
      unfold nodeAt
      rw [Int.add_emod_emod, Int.emod_add_emod, Int.add_assoc]
    have e5 := emod_two (z := node + (m + 1)) (n := n) (by omega) (by omega)
    have e3 : advS n ⟨(node + m) % n, true, node, 0⟩ = if (node + (m + 1)) % n = node then ⟨(node + (m + 1)) % n, false, 0, 0⟩ else ⟨(node + (m + 1)) % n, true, node, 0⟩ := by
      unfold advS
      rw [if_neg (by simp), e4]
      by_cases c2 : (node + (m + 1)) % n = node
      · rw [if_pos ⟨rfl, c2⟩, if_pos c2]
      · rw [if_neg (fun k => c2 k.2), if_neg c2]
    rw [e1, e2]
    unfold retS
    rw [e3]
    by_cases c2 : m + 1 = n
    · have e6 : (node + (m + 1)) % n = node := by rw [e5, if_neg (by omega)]; omega
      rw [if_pos e6]
      refine ⟨?_, fun h => by omega⟩
      rw [decide_eq_true (by omega)]
      rfl
    · have e6 : (node + (m + 1)) % n ≠ node := by
        rw [e5]
        by_cases c3 : node + (m + 1) < n
        · rw [if_pos c3]; omega
        · rw [if_neg c3]; omega
      rw [if_neg e6]
      refine ⟨?_, fun _ => rfl⟩
      rw [decide_eq_false (by omega)]
      rfl

/-- The ring behind j steps of a put, as long as the slot is under way. -/
structure OnWay (n node t : Int) (m j : Nat) (l : List Sw) : Prop where
  ok : RingOk n l
  len : l.length = m
  mem : wayS n node t j ∈ l
theorem OnWay.told {n node t : Int} {m j : Nat} {l : List Sw} (h : OnWay n node t m j l) (hn : 2 ≤ n) (h0 : 0 ≤ node) (h1 : node < n) (t0 : 0 ≤ t) (hj : (j : Int) < n + t) :
    decide (node ∈ backL n l) = decide ((j : Int) + 1 = n + t) := by
  rw [← (wayS_step hn h0 h1 t0 hj).1]
  have := h.ok.told (n := n) h.mem (wayS_full _ _ _ _)
  rw [wayS_nd] at this
  cases r : retS n (wayS n node t j)
  · exact decide_eq_false fun k => by rw [this.1 k] at r; cases r
  · exact decide_eq_true (this.2 r)
theorem OnWay.next {n node t : Int} {m j : Nat} {l : List Sw} (h : OnWay n node t m j l) (hn : 2 ≤ n) (h0 : 0 ≤ node) (h1 : node < n) (t0 : 0 ≤ t) (hj : (j : Int) + 1 < n + t) : OnWay n node t m (j + 1) (l.map (advS n)) := by
  refine ⟨h.ok.step hn, by rw [List.length_map]; exact h.len, ?_⟩
  rw [← (wayS_step hn h0 h1 t0 (by omega)).2 hj]
  exact List.mem_map.2 ⟨_, h.mem, rfl⟩
theorem OnWay.start {n s y b : Int} {l : List Sw} {node t : Int} (hE : rputE n s y b l node t = 0) (hf : l.any (freS node) = true) : OnWay n node t l.length 0 (putR l node t) := by
  obtain ⟨e1, e2, e3, e4⟩ := rputE_ok hE
  obtain ⟨_, _, _, ok⟩ := ringE_zero.1 e1
  obtain ⟨t0, _⟩ := waitB_iff.1 e3
  rw [← idxS_any] at hf
  have hi := of_decide_eq_true hf
  rcases idxS_cases (freS node) l with ⟨e, _⟩ | ⟨k, x, e, hx, _⟩
  · omega
  · have hk := (List.getElem?_eq_some_iff.1 hx).1
    have ep : putR l node t = l.set k ⟨node, true, node, t⟩ := by unfold putR; rw [e, if_neg (by omega), Int.toNat_natCast]
    rw [ep]
    refine ⟨ok.put e2 e3 e4 k, List.length_set, ?_⟩
    have : wayS n node t 0 = ⟨node, true, node, t⟩ := by
      unfold wayS
      rw [if_pos (by omega)]
      simp
    rw [this]
    exact List.mem_set hk _
end Go.Proofs.Ytiefeeondeablaa
