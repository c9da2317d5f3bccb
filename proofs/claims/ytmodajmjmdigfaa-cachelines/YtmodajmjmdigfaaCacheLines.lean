/-
Proved: the law 'CacheLines' returns true for every argument, and changes nothing that was there. No condition.
-/
import Derived.Test.YtmodajmjmdigfaaCacheFacts
import Derived.Test.YtmodajmjmdigfaaCacheOpen
import Derived.Test.YtmodajmjmdigfaaCaches
namespace Go.Proofs.Ytmodajmjmdigfaa.cacheLines
open Go.ChangeShapes Go.WideShapes Go.ChangeAt Go.RowKit Go.Joins

/-! Facts on the ways that hold a line. -/
theorem allW_len {y : Nat} : ∀ (ss : List St), (∀ t ∈ ss, t.l.length = y) → (allW ss).length ≤ ss.length * y
  | [], _ => by simp [allW]
  | t :: r, h => by
    have ih := allW_len r (fun u hu => h u (by simp [hu]))
    have h1 := h t (by simp)
    have h2 := List.length_filter_le heldB t.l
    simp only [allW, List.flatMap_cons, List.length_append, List.length_cons] at *
    rw [Nat.succ_mul]
    omega

theorem allW_mem {ss : List St} {x : Wy} (h : x ∈ allW ss) : ∃ (k : Nat) (t : St) (j : Nat), ss[k]? = some t ∧ t.l[j]? = some x ∧ x.st ≠ 0 := by
  simp only [allW, List.mem_flatMap, List.mem_filter] at h
  obtain ⟨t, ht, hx, hh⟩ := h
  obtain ⟨k, hk, e⟩ := List.getElem_of_mem ht
  obtain ⟨j, hj, e'⟩ := List.getElem_of_mem hx
  exact ⟨k, t, j, by rw [List.getElem?_eq_getElem hk, e], by rw [List.getElem?_eq_getElem hj, e'], by simpa [heldB] using hh⟩

theorem goodW_pair {l : List Wy} (h : GoodW l) : (l.filter heldB).Pairwise fun x y => x.ln ≠ y.ln := by
  rw [List.pairwise_filter, List.pairwise_iff_getElem]
  intro i j hi hj hij h1 h2
  exact h.2 i j _ _ hij (List.getElem?_eq_getElem hi) (List.getElem?_eq_getElem hj) (by simpa [heldB] using h1) (by simpa [heldB] using h2)

theorem allW_pair {n s y b : Int} {ss : List St} (h : GoodC n s y b ss) : (allW ss).Pairwise fun x y => x.ln ≠ y.ln := by
  unfold allW
  rw [List.pairwise_flatMap]
  refine ⟨fun t ht => ?_, ?_⟩
  · obtain ⟨k, hk, e⟩ := List.getElem_of_mem ht
    have := (h.2.2 k t (by rw [List.getElem?_eq_getElem hk, e])).1
    exact goodW_pair ((goodW_iff _).1 (rowE_ok this).2.2)
  · rw [List.pairwise_iff_getElem]
    intro i j hi hj hij x hx z hz e
    rw [List.mem_filter] at hx hz
    obtain ⟨p, hp, e1⟩ := List.getElem_of_mem hx.1
    obtain ⟨q, hq, e2⟩ := List.getElem_of_mem hz.1
    have a := (h.2.2 i _ (List.getElem?_eq_getElem hi)).2 p x (by rw [List.getElem?_eq_getElem hp, e1]) (by simpa [heldB] using hx.2)
    have c := (h.2.2 j _ (List.getElem?_eq_getElem hj)).2 q z (by rw [List.getElem?_eq_getElem hq, e2]) (by simpa [heldB] using hz.2)
    rw [e] at a
    omega

/-- A line that is told is found. -/
theorem found {n s y b : Int} {ss : List St} (h : cacheE n s y b ss = 0) {x : Wy} (hx : x ∈ allW ss) : FindCIs n s y b ss x.ln x true 0 := by
  have good := goodC_iff.1 h
  obtain ⟨k, t, j, ht, hj, sx⟩ := allW_mem hx
  obtain ⟨hr, ho⟩ := good.2.2 k t ht
  have hm := ho j x hj sx
  refine ⟨?_, .inr ⟨rfl, k, t, hm, ht, .inr ⟨j, ((goodW_iff _).1 (rowE_ok hr).2.2).at_ hj (hasW_iff.2 ⟨sx, rfl⟩), hj, rfl⟩⟩⟩
  rw [lineE_zero h, if_neg]
  rw [lnB_iff.2 (rowE_line hr hj)]
  decide

theorem same_line (x z : Wy) (p : Nat) (w : World) (xb : Box w p 32 x.arr) :
    Calls Try.prog 34 #[z.val, .pointer (some ⟨p, 0, none⟩)] w fun e w' => e = .returned (.bool (z.ln == x.ln)) ∧ Below w.heap.size w w' := by
  have zp := xb.lt
  have x1 := xb.at_ 1 rfl
  have low := Below.refl w.heap.size w
  go_enter Try.func34, Try.ntmps34
  go_wp2_with fail
  go_ret
  exact ⟨rfl, gAlloc low _⟩

set_option maxHeartbeats 1000000 in
theorem index_none (b o k c : Nat) (l : List Wy) (x : Wy) (p : Nat) (w : World) (hc : ∀ j u, (waysC l)[j]? = some u → w.cell? ⟨b, o + j, none⟩ = some u) (hb : b < w.heap.size) (hk : k ≤ l.length) (hk4 : k ≤ 100)
    (no : ∀ j z, j < k → l[j]? = some z → (z.ln == x.ln) = false) (xb : Box w p 32 x.arr) :
    Calls Try.prog 65 #[.slice (some ⟨b, o, none⟩) k c, .func (.func 34) #[] #[.pointer (some ⟨p, 0, none⟩)]] w fun e w' => e = .returned (.int .i64 (-1)) ∧ Below w.heap.size w w' := by
  have HC := Lib.hid hc
  have NO := Lib.hid no
  clear hc no
  have low := Below.refl w.heap.size w
  go_enter Try.func65, Try.ntmps65
  go_wp2_with fail
  go_loopw [8] (fun i wr => ∃ j : Nat, j ≤ k ∧ i = .int .i64 j ∧ Box wr p 32 x.arr ∧ Below w.heap.size w wr) (fun i _ => k - (intOf i).toNat)
  case atStart => exact ⟨0, Nat.zero_le _, rfl, xb, low⟩
  case round =>
    clear xb low
    obtain ⟨j, hj, rfl, xb, low⟩ := hrel
    by_cases hlt : j < k
    · have hz : l[j]? = some l[j] := List.getElem?_eq_getElem (by omega)
      generalize l[j] = z at hz
      obtain ⟨c0, c1, c2, c3, c4, c5⟩ := wayAt_of HC.out hb low hz
      have nz := NO.out j z hlt hz
      have S := Lib.hid (same_line x z p wr xb)
      rw [nz] at S
      have j0 : (0 : Int) ≤ j := by omega
      have j1 : (j : Int) < k := by omega
      clear hz nz
      go_wp2_with fail
      (with_reducible refine (Calls.mono S.out ?_)); rintro e w2 ⟨rfl, hb2⟩
      replace xb := xb.call hb2
      replace low := gCall low hb2
      clear hb2 c0 c1 c2 c3 c4 c5
      go_wp2_with fail
      go_roundw
      case rel => exact ⟨j + 1, by omega, by go_num, xb, low⟩
      case measure => simp [intOf]; omega
    · obtain rfl : j = k := by omega
      go_wp2_with fail
      go_ret
      exact ⟨rfl, low⟩

theorem contains_none (b o k c : Nat) (l : List Wy) (x : Wy) (p : Nat) (w : World) (hc : ∀ j u, (waysC l)[j]? = some u → w.cell? ⟨b, o + j, none⟩ = some u) (hb : b < w.heap.size) (hk : k ≤ l.length) (hk4 : k ≤ 100)
    (no : ∀ j z, j < k → l[j]? = some z → (z.ln == x.ln) = false) (xb : Box w p 32 x.arr) :
    Calls Try.prog 33 #[.slice (some ⟨b, o, none⟩) k c, .func (.func 34) #[] #[.pointer (some ⟨p, 0, none⟩)]] w fun e w' => e = .returned (.bool false) ∧ Below w.heap.size w w' := by
  have I := Lib.hid (index_none b o k c l x p w hc hb hk hk4 no xb)
  clear hc no
  have low := Below.refl w.heap.size w
  go_enter Try.func33, Try.ntmps33
  go_wp2_with fail
  (with_reducible refine (Calls.mono I.out ?_)); rintro e w2 ⟨rfl, hb2⟩
  replace low := gCall low hb2
  clear hb2
  go_wp2_with fail
  go_ret
  exact ⟨rfl, low⟩

theorem walk_bad (n s y b : Int) (v : Value) (ss : List St) (w : World) (h : Cs w v ss) (he : cacheE n s y b ss ≠ 0) :
    Calls Try.prog 6 #[cfg n s y b, v] w fun e w' => e = .returned (.bool true) ∧ Below w.heap.size w w' := by
  have P := Lib.hid fun w h => cacheLines_bad n s y b v ss w h he
  generalize cacheE n s y b ss = E at P he
  have he' : (E != 0) = true := by simpa using he
  clear he
  have low := Below.refl w.heap.size w
  have cb := boxNext low 44 (cfgA n s y b)
  replace low := gAlloc low (.cells (cfgA n s y b) 44)
  replace h := h.alloc (.cells (cfgA n s y b) 44)
  try simp only [World.size_alloc] at cb
  go_enter Try.func6, Try.ntmps6
  go_wp2_with fail
  (with_reducible refine (caches_yes _).mono ?_); rintro e w1 ⟨rfl, hb⟩
  replace h := h.call hb
  replace cb := cb.call hb
  replace low := gCall low hb
  clear hb
  have cb_0 := cb.at_ 0 rfl
  have cb_1 := cb.at_ 1 rfl
  have cb_2 := cb.at_ 2 rfl
  have cb_3 := cb.at_ 3 rfl
  go_wp2_with fail
  (with_reducible refine (P.out _ h).mono ?_); rintro e w2 ⟨rfl, hb⟩
  replace h := h.call hb
  replace low := gCall low hb
  clear hb cb_0 cb_1 cb_2 cb_3
  go_wp2_with fail
  go_ret
  exact ⟨rfl, low⟩

set_option maxRecDepth 10000 in
set_option maxHeartbeats 4000000 in
theorem walk_good (n b : Int) (p q : Nat) (v : Value) (ss : List St) (w : World) (h : Cs w v ss) (he : cacheE n p q b ss = 0) :
    Calls Try.prog 6 #[cfg n p q b, v] w fun e w' => e = .returned (.bool true) ∧ Below w.heap.size w w' := by
  have P := Lib.hid fun w h => cacheLines_ok n p q b v ss w h he
  have good := goodC_iff.1 he
  have pq := cfgB_iff.1 good.1
  have p4 : p ≤ 4 := by omega
  have q4 : q ≤ 4 := by omega
  have le : (allW ss).length ≤ p * q := by
    have := allW_len (y := q) ss (fun t ht => by
      obtain ⟨k, hk, e⟩ := List.getElem_of_mem ht
      have := (rowE_ok (good.2.2 k t (by rw [List.getElem?_eq_getElem hk, e])).1).2.1
      omega)
    rwa [show ss.length = p by have := good.2.1; omega] at this
  have PW := Lib.hid (List.pairwise_iff_getElem.1 (allW_pair good))
  have F := Lib.hid (fun (k : Nat) x (hk : (allW ss)[k]? = some x) w h => show Calls Try.prog 15 #[cfg n p q b, v, .int .i64 x.ln] w fun e w' => e = .returned (.tuple #[x.val, .bool true, .int .i64 0]) ∧ Below w.heap.size w w' by
    obtain ⟨z, r, E, i, c⟩ := cacheFind_is n p q b v ss x.ln
    obtain ⟨rfl, rfl, rfl⟩ := (found he (List.mem_of_getElem? hk)).only i
    exact c w h)
  have l16 : p * q ≤ 16 := Nat.mul_le_mul p4 q4
  generalize allW ss = L at P le PW F
  have LE := Lib.hid le
  have L100 : L.length ≤ 16 := by omega
  clear good he le pq
  have low := Below.refl w.heap.size w
  have cb := boxNext low 44 (cfgA n p q b)
  replace low := gAlloc low (.cells (cfgA n p q b) 44)
  replace h := h.alloc (.cells (cfgA n p q b) 44)
  try simp only [World.size_alloc] at cb
  go_enter Try.func6, Try.ntmps6
  go_wp2_with fail
  (with_reducible refine (caches_yes _).mono ?_); rintro e w1 ⟨rfl, hb⟩
  replace h := h.call hb
  replace cb := cb.call hb
  replace low := gCall low hb
  clear hb
  have cb_0 := cb.at_ 0 rfl
  have cb_1 := cb.at_ 1 rfl
  have cb_2 := cb.at_ 2 rfl
  have cb_3 := cb.at_ 3 rfl
  go_wp2_with fail
  (with_reducible refine (P.out _ h).mono ?_); rintro e w2 ⟨⟨A, c, rfl, fr⟩, hb⟩
  clear cb_0 cb_1 cb_2 cb_3
  replace h := h.call hb
  replace cb := cb.call hb
  replace low := gCall low hb
  clear hb P
  obtain ⟨_, A2, c2, e2, g1, g2, g3⟩ := fr.ws
  cases e2
  unfold maxLen at g2
  have G3 := Lib.hid g3
  clear fr g3
  go_wp2_with fail
  go_loopw [27] (fun i wr => ∃ j : Nat, j ≤ L.length ∧ i = .int .i64 j ∧ Cs wr v ss ∧ Box wr w.heap.size 44 (cfgA n p q b) ∧ Below w2.heap.size w2 wr ∧ Below w.heap.size w wr) (fun i _ => L.length - (intOf i).toNat)
  case atStart => exact ⟨0, Nat.zero_le _, rfl, h, cb, Below.refl _ _, low⟩
  case round =>
    clear h cb low
    obtain ⟨j, hj, rfl, h, cb, near, low⟩ := hrel
    simp only [cfgA] at cb
    by_cases hlt : j < L.length
    · obtain ⟨bb, o, rfl, hbb, hc⟩ := G3.out (by omega)
      have hx : L[j]? = some L[j] := List.getElem?_eq_getElem _
      have NO := Lib.hid (fun (i : Nat) z (hi : i < j) (hz : L[i]? = some z) => show (z.ln == L[j].ln) = false by
        obtain ⟨h1, rfl⟩ := List.getElem?_eq_some_iff.1 hz
        have := PW.out i j h1 hlt hi
        simpa using this)
      generalize L[j] = x at hx NO
      obtain ⟨c0, c1, c2, c3, c4, c5⟩ := wayAt_of hc hbb near hx
      have FX := Lib.hid (F.out j x hx)
      have CN := Lib.hid (fun wz (nz : Below w2.heap.size w2 wz) (xb : Box wz wr.heap.size 32 x.arr) => contains_none bb o j c L x wr.heap.size wz (fun i u hu => (nz.cell (p := ⟨bb, o + i, none⟩) hbb).trans (hc i u hu)) (by have := nz.size; omega) (by omega) (by omega) NO.out xb)
      have eqx := fun w => eqWay x x w
      rw [(eqW_iff x x).2 rfl] at eqx
      simp only [Wy.val] at eqx
      have j0 : (0 : Int) ≤ j := by omega
      have j1 : (j : Int) < L.length := by omega
      have j2 : (j : Int) ≤ c := by omega
      have j3 : j ≤ c := by omega
      clear hc hx NO
      have xb := boxNext low 32 x.arr
      replace low := gAlloc low (.cells x.arr 32)
      replace h := h.alloc (.cells x.arr 32)
      replace cb := cb.alloc (.cells x.arr 32)
      try simp only [World.size_alloc] at xb
      simp only [Wy.arr] at xb
      replace near := near.alloc near.size (.cells x.arr 32)
      have cb_0 := cb.at_ 0 rfl
      have cb_1 := cb.at_ 1 rfl
      have cb_2 := cb.at_ 2 rfl
      have cb_3 := cb.at_ 3 rfl
      have xb_0 := xb.at_ 0 rfl
      have xb_1 := xb.at_ 1 rfl
      have xb_2 := xb.at_ 2 rfl
      have xb_3 := xb.at_ 3 rfl
      have xb_4 := xb.at_ 4 rfl
      have xb_5 := xb.at_ 5 rfl
      go_wp2_with fail
      (with_reducible refine (FX.out _ h).mono ?_); rintro e w4 ⟨rfl, hb⟩
      clear cb_0 cb_1 cb_2 cb_3 xb_0 xb_1 xb_2 xb_3 xb_4 xb_5
      replace h := h.call hb
      replace cb := cb.call hb
      replace xb := xb.call hb
      replace low := gCall low hb
      replace near := gCall near hb
      clear hb c0 c1 c2 c3 c4 c5
      have yb := boxNext low 32 x.arr
      replace low := gAlloc low (.cells x.arr 32)
      replace h := h.alloc (.cells x.arr 32)
      replace cb := cb.alloc (.cells x.arr 32)
      replace xb := xb.alloc (.cells x.arr 32)
      try simp only [World.size_alloc] at yb
      simp only [Wy.arr] at yb
      replace near := near.alloc near.size (.cells x.arr 32)
      have xb_0 := xb.at_ 0 rfl
      have xb_1 := xb.at_ 1 rfl
      have xb_2 := xb.at_ 2 rfl
      have xb_3 := xb.at_ 3 rfl
      have xb_4 := xb.at_ 4 rfl
      have xb_5 := xb.at_ 5 rfl
      go_wp2_with fail
      (with_reducible refine (Calls.mono (CN.out _ near xb) ?_)); rintro e w5 ⟨rfl, hb⟩
      clear xb_0 xb_1 xb_2 xb_3 xb_4 xb_5
      replace h := h.call hb
      replace cb := cb.call hb
      replace low := gCall low hb
      replace near := gCall near hb
      clear hb xb yb CN FX
      go_wp2_with fail
      go_roundw
      case rel => exact ⟨j + 1, by omega, by go_num, h, cb, near, low⟩
      case measure => simp [intOf]; omega
    · obtain rfl : j = L.length := by omega
      have hle : decide ((L.length : Int) ≤ (p : Int) * (q : Int)) = true := decide_eq_true (by rw [← Int.natCast_mul]; exact Int.ofNat_le.2 LE.out)
      have hpq : (p : Int) * (q : Int) ≤ 16 := by rw [← Int.natCast_mul]; omega
      have hp0 : 0 ≤ (p : Int) * (q : Int) := by rw [← Int.natCast_mul]; omega
      have cb_1 := cb.at_ 1 rfl
      have cb_2 := cb.at_ 2 rfl
      go_wp2_with fail
      go_ret
      exact ⟨rfl, low⟩

theorem walk (v0 v1 : Value) (w : World) (h0 : IsCfg v0) (h1 : IsCache w v1) :
    Calls Try.prog 6 #[v0, v1] w fun e w' => e = .returned (.bool true) ∧ Below w.heap.size w w' := by
  obtain ⟨n, s, y, b, rfl, _⟩ := h0
  obtain ⟨ss, cs⟩ := h1
  by_cases he : cacheE n s y b ss = 0
  · have hs := cfgB_iff.1 (goodC_iff.1 he).1
    obtain ⟨p, rfl⟩ : ∃ p : Nat, s = p := ⟨s.toNat, by omega⟩
    obtain ⟨q, rfl⟩ : ∃ q : Nat, y = q := ⟨y.toNat, by omega⟩
    exact walk_good n b p q v1 ss w cs he
  · exact walk_bad n s y b v1 ss w cs he

set_option maxRecDepth 100000 in
theorem lifted (os : Os) (started : os.Started) (H : Type) (enc : TypeId × Value → H) :
    ReturnsInHanded {} Try.checked os 6 .any (Rows.cacheLinesSpec.pre6 enc Try.prog Try.f6 Rows.cacheLinesRow.domain false) (Rows.cacheLinesSpec.post enc Try.prog Try.f6 false true false false) := by
  refine returnsInHanded_of_change (C := Try.checked) own started (by kernel_rfl) Try.func6
    (ChangeSpec.witness6 (enc := enc) (C := Try.checked) false ⟨#[], #[cfg 2 1 1 1, .slice none 0 0], []⟩ 8 (by kernel_rfl) (by kernel_rfl) (by kernel_rfl) (by kernel_rfl)) ?_
  intro W base args ds gs before hval0 hW hcnd _
  have hval : ∀ (j : Nat) t v, Try.f6.params[j]? = some t → args[j]? = some v → Value.okWide Try.prog W .any base t v := hval0
  have hW' := hW
  obtain ⟨p, q, hA0, hV, rfl, hfz, hnd⟩ := hW
  have hA : DataW.TrodAll enc Try.prog W 0 (fun _ => true) true Try.f6.params.toList args.toList ds p := hA0
  rw [Try.params6] at hA hval
  obtain ⟨v0, vs0, d0, ds0, p0, q0, hargs, rfl, rfl, h0, r0⟩ := trodAll_cons hA
  obtain ⟨v1, vs1, d1, ds1, p1, q1, rfl, rfl, rfl, h1, r1⟩ := trodAll_cons r0
  obtain ⟨rfl, rfl, rfl⟩ := trodAll_nil r1
  obtain rfl : args = #[v0, v1] := by cases args; simp_all
  have k0 := openCfg (hval 0 44 v0 rfl rfl) h0
  have k1 := openCache (hval 1 46 v1 rfl rfl) h1
  obtain ⟨rfl, rfl⟩ := trodVars_none hV
  clear hA0 hval0
  refine (walk v0 v1 W k0 k1).mono fun e W' ⟨he, bel⟩ => ⟨_, he, ?_⟩
  exact law_post (by kernel_rfl) (by kernel_rfl) rfl hW' rfl rfl rfl bel

theorem over : Rows.cacheLinesRow.holds Try.pinned (OpenSpec.ofChange Rows.cacheLinesSpec) :=
  OpenClaim.holds_of_wide 6 Try.f6 rfl rfl rfl rfl rfl rfl rfl ⟨rfl, rfl, rfl, rfl, rfl⟩ rfl rfl rfl rfl rfl (by kernel_rfl) Try.func6 (by kernel_rfl)
    (of_decide_eq_true (by kernel_rfl)) (by unfold Func.isWrapper; first | (rw [if_pos (by decide +kernel)]; kernel_rfl) | (rw [if_neg (by decide +kernel)]; exact ⟨rfl, rfl⟩))
    (fun os started H enc _ => lifted os started H enc)

/-- The statement. -/
theorem cacheLines_holds : Rows.CacheLinesSaid := over
end Go.Proofs.Ytmodajmjmdigfaa.cacheLines
namespace Go.Proofs.Ytmodajmjmdigfaa
theorem cacheLines_holds : Rows.CacheLinesSaid := cacheLines.cacheLines_holds
#print axioms cacheLines_holds
end Go.Proofs.Ytmodajmjmdigfaa
