/-
Proved: what the reference's RingFault returns, for every ring that can be read; it changes nothing that was there. No other condition.
-/
import Derived.Test.YtiefeeondeablaaRefRing
namespace Go.Proofs.Ytiefeeondeablaa
open Go.ChangeShapes Go.WideShapes Go.ChangeAt Go.RowKit Go.Joins

/-- Is one of the first j slots of the node? -/
def before (l : List Sw) (k j : Nat) (d : Int) : Prop := ∀ q y, q < j → q < k → l[q]? = some y → filS d y = false

def befF (f : Bool) (l : List Sw) (k j : Nat) (d : Int) : Prop := f = true → before l k j d
def restE (n T : Int) (f : Bool) (l : List Sw) (k : Nat) (d : Int) : Prop := T = if f = true ∧ filB (l.take k) d = true then 6 else slotsE n (l.take (k + 1)) (l.drop (k + 1))
theorem befF.next {f : Bool} {l : List Sw} {k j : Nat} {d : Int} (h : befF f l k j d) {z : Sw} (hz : l[j]? = some z) (hn : filS d z = false) : befF f l k (j + 1) d := fun e q y h1 h2 h3 => by
  by_cases c : q < j
  · exact h e q y c h2 h3
  · obtain rfl : q = j := by omega
    rw [hz] at h3
    cases h3
    exact hn

theorem before_all {l : List Sw} {k : Nat} {d : Int} (h : before l k k d) (hk : k ≤ l.length) : filB (l.take k) d = false := by
  unfold filB
  refine List.any_eq_false.2 fun x hx => ?_
  obtain ⟨q, hq, rfl⟩ := List.getElem_of_mem hx
  rw [List.length_take] at hq
  rw [List.getElem_take, h q _ (by omega) (by omega) (List.getElem?_eq_getElem (by omega))]
  decide
theorem restE.last {n T : Int} {f : Bool} {l : List Sw} {k : Nat} {d : Int} (h : restE n T f l k d) (hb : befF f l k k d) (hk : k ≤ l.length) : T = slotsE n (l.take (k + 1)) (l.drop (k + 1)) := by
  unfold restE at h
  rwa [if_neg (fun c => by
    have e := before_all (hb c.1) hk
    rw [c.2] at e
    cases e)] at h
theorem before_hit {l : List Sw} {k q : Nat} {x : Sw} (hq : q < k) (hx : l[q]? = some x) {d : Int} (h : filS d x = true) : filB (l.take k) d = true := by
  unfold filB
  refine List.any_eq_true.2 ⟨x, ?_, h⟩
  refine List.mem_of_getElem? (i := q) ?_
  rw [List.getElem?_take, if_pos hq, hx]

set_option maxRecDepth 20000 in
set_option maxHeartbeats 4000000 in
theorem ringFault_any (n s y b : Int) (v : Value) (l : List Sw) (w : World) (h : Rs w v l) :
    Calls Try.prog 12 #[cfg n s y b, v] w fun e w' => e = .returned (.int .i64 (ringE n s y b l)) ∧ Below w.heap.size w w' := by
  have H := Lib.hid h
  obtain ⟨_, A, c, rfl, h1, h2, h3⟩ := h
  have H3 := Lib.hid h3
  unfold maxLen at h2
  clear h3
  have low := Below.refl w.heap.size w
  have cb := boxNext low 23 #[.int .i64 n, .int .i64 s, .int .i64 y, .int .i64 b]
  replace low := gAlloc low (.cells #[.int .i64 n, .int .i64 s, .int .i64 y, .int .i64 b] 23)
  try simp only [World.size_alloc] at cb
  cases hB : cfgB n s y b with
  | false =>
    have C := Lib.hid fun w => configFault_bad n s y b w hB
    have E := Lib.hid (show ringE n s y b l = 4 by unfold ringE cntE; rw [if_neg (by rw [hB]; simp)])
    rw [E.out]
    clear hB E
    go_enter Try.func12, Try.ntmps12
    go_wp2_with fail
    (with_reducible refine (C.out _).mono ?_); rintro e w1 ⟨rfl, hb⟩
    replace cb := cb.call hb
    replace low := gCall low hb
    clear hb
    go_wp2_with fail
    go_ret
    exact ⟨rfl, low⟩
  | true =>
    have C := Lib.hid fun w => configFault_ok n s y b w hB
    have hn := cfgB_iff.1 hB
    obtain ⟨nn2, nn8, -⟩ := hn
    by_cases g1 : l.length < 1
    · have E := Lib.hid (show ringE n s y b l = 4 by unfold ringE cntE; rw [if_neg (by rw [if_neg (by omega)]; decide)])
      rw [E.out]
      clear hB E
      have g1' : (l.length : Int) < 1 := by omega
      go_enter Try.func12, Try.ntmps12
      go_wp2_with fail
      (with_reducible refine (C.out _).mono ?_); rintro e w1 ⟨rfl, hb⟩
      replace cb := cb.call hb
      replace low := gCall low hb
      clear hb
      go_wp2_with fail
      go_ret
      exact ⟨rfl, low⟩
    by_cases g2 : 8 < l.length
    · have E := Lib.hid (show ringE n s y b l = 4 by unfold ringE cntE; rw [if_neg (by rw [if_neg (by omega)]; decide)])
      rw [E.out]
      clear hB E
      have g1' : ¬ (l.length : Int) < 1 := by omega
      have g2' : (8 : Int) < l.length := by omega
      go_enter Try.func12, Try.ntmps12
      go_wp2_with fail
      (with_reducible refine (C.out _).mono ?_); rintro e w1 ⟨rfl, hb⟩
      replace cb := cb.call hb
      replace low := gCall low hb
      clear hb
      go_wp2_with fail
      go_ret
      exact ⟨rfl, low⟩
    have E := Lib.hid (show ringE n s y b l = slotsE n [] l by unfold ringE cntE; rw [if_pos (by rw [if_pos ⟨hB, by omega, by omega⟩])])
    rw [E.out]
    have g1' : ¬ (l.length : Int) < 1 := by omega
    have g2' : ¬ (8 : Int) < l.length := by omega
    generalize hT : slotsE n [] l = T
    have HT := Lib.hid hT
    clear hB E hT
    go_enter Try.func12, Try.ntmps12
    go_wp2_with fail
    (with_reducible refine (C.out _).mono ?_); rintro e w1 ⟨rfl, hb⟩
    replace cb := cb.call hb
    replace low := gCall low hb
    clear hb
    go_wp2_with fail
    go_loopw [25] (fun i wr => ∃ k : Nat, k ≤ l.length ∧ i = .int .i64 k ∧ Hid (slotsE n [] l = slotsE n (l.take k) (l.drop k)) ∧ Box wr w.heap.size 23 #[.int .i64 n, .int .i64 s, .int .i64 y, .int .i64 b] ∧ Below w.heap.size w wr) (fun i _ => l.length - (intOf i).toNat)
    case atStart => exact ⟨0, Nat.zero_le _, rfl, Lib.hid rfl, cb, low⟩
    case round =>
      clear cb low C
      obtain ⟨k, hk, rfl, hs, cb, low⟩ := hrel
      by_cases hlt : k < l.length
      · obtain ⟨bb, o, rfl, hb, hc⟩ := H3.out (by omega)
        have hx : l[k]? = some l[k] := List.getElem?_eq_getElem _
        generalize l[k] = x at hx
        obtain ⟨c0, c1, c2, c3⟩ := slotAt_of hc hb low hx
        have E := Lib.hid (slotsE_at hs.out hx)
        obtain ⟨a, f, d, t⟩ := x
        simp only at c0 c1 c2 c3
        have k0 : (0 : Int) ≤ k := by omega
        have k1 : (k : Int) < l.length := by omega
        have kc : k ≤ c := by omega
        have CELL := Lib.hid fun W q z (hb2 : Below w.heap.size w W) (hz : l[q]? = some z) => slotAt_of hc hb hb2 hz
        clear hx hc hs
        have sb := boxNext low 38 #[.int .i64 a, .bool f, .int .i64 d, .int .i64 t]
        replace low := gAlloc low (.cells #[.int .i64 a, .bool f, .int .i64 d, .int .i64 t] 38)
        replace cb := cb.alloc (.cells #[.int .i64 a, .bool f, .int .i64 d, .int .i64 t] 38)
        try simp only [World.size_alloc] at sb
        have bad : nodB n a = false ∨ nodB n d = false ∨ waitB t = false → 4 = T := fun hb => by
          have e4 : slotE n (l.take k) ⟨a, f, d, t⟩ = 4 := by unfold slotE; rw [if_pos hb]
          have := E.out
          rw [e4, if_neg (by decide)] at this
          exact this.symm.trans HT.out
        have BAD := Lib.hid bad
        clear bad
        have cb_0 := cb.at_ 0 rfl
        have cb_1 := cb.at_ 1 rfl
        have cb_2 := cb.at_ 2 rfl
        have cb_3 := cb.at_ 3 rfl
        by_cases a1 : a < 0
        · obtain rfl := BAD.out (.inl (by cases e : nodB n a; rfl; have := nodB_iff.1 e; omega))
          clear sb
          go_wp2_with fail
          go_ret
          exact ⟨rfl, low⟩
        have a1' : ¬ a < 0 := a1
        by_cases a2 : n ≤ a
        · obtain rfl := BAD.out (.inl (by cases e : nodB n a; rfl; have := nodB_iff.1 e; omega))
          have a2' : decide (n ≤ a) = true := decide_eq_true a2
          clear sb
          go_wp2_with fail
          go_ret
          exact ⟨rfl, low⟩
        have a2' : decide (n ≤ a) = false := decide_eq_false a2
        by_cases d1 : d < 0
        · obtain rfl := BAD.out (.inr (.inl (by cases e : nodB n d; rfl; have := nodB_iff.1 e; omega)))
          clear sb
          go_wp2_with fail
          go_ret
          exact ⟨rfl, low⟩
        have d1' : ¬ d < 0 := d1
        by_cases d2 : n ≤ d
        · obtain rfl := BAD.out (.inr (.inl (by cases e : nodB n d; rfl; have := nodB_iff.1 e; omega)))
          have d2' : decide (n ≤ d) = true := decide_eq_true d2
          clear sb
          go_wp2_with fail
          go_ret
          exact ⟨rfl, low⟩
        have d2' : decide (n ≤ d) = false := decide_eq_false d2
        by_cases t1 : t < 0
        · obtain rfl := BAD.out (.inr (.inr (by cases e : waitB t; rfl; have := waitB_iff.1 e; omega)))
          clear sb
          go_wp2_with fail
          go_ret
          exact ⟨rfl, low⟩
        have t1' : ¬ t < 0 := t1
        by_cases t2 : 9 < t
        · obtain rfl := BAD.out (.inr (.inr (by cases e : waitB t; rfl; have := waitB_iff.1 e; omega)))
          clear sb
          go_wp2_with fail
          go_ret
          exact ⟨rfl, low⟩
        have t2' : ¬ 9 < t := t2
        clear BAD
        have good : slotE n (l.take k) ⟨a, f, d, t⟩ = if f = false then (if d = 0 ∧ t = 0 then 0 else 3) else if filB (l.take k) d = true then 6 else 0 := by
          unfold slotE
          rw [if_neg]
          simp only [nodB_iff.2 (show 0 ≤ a ∧ a < n by omega), nodB_iff.2 (show 0 ≤ d ∧ d < n by omega), waitB_iff.2 (show 0 ≤ t ∧ t ≤ 9 by omega)]
          simp
        have GOOD := Lib.hid good
        clear good
        by_cases hf : f = false ∧ ¬ (d = 0 ∧ t = 0)
        · obtain ⟨rfl, h0⟩ := hf
          obtain rfl : 3 = T := by
            have e := GOOD.out
            rw [if_pos rfl, if_neg h0] at e
            have := E.out
            rw [e, if_neg (by decide)] at this
            exact this.symm.trans HT.out
          have p1 : 0 < d + t := by omega
          clear sb GOOD E h0
          go_wp2_with fail
          go_ret
          exact ⟨rfl, low⟩
        have inner : Hid (restE n T f l k d) := by
          refine Lib.hid ?_
          unfold restE
          rw [← HT.out, E.out, GOOD.out]
          cases f
          · have hz : d = 0 ∧ t = 0 := by
              by_cases z : d = 0 ∧ t = 0
              · exact z
              · exact absurd ⟨rfl, z⟩ hf
            rw [if_pos rfl, if_pos hz, if_pos rfl, if_neg (by simp)]
          · cases hB : filB (l.take k) d <;> simp
        have p2 : f = false → ¬ 0 < d + t := fun e => by
          have : d = 0 ∧ t = 0 := by
            by_cases z : d = 0 ∧ t = 0
            · exact z
            · exact absurd ⟨e, z⟩ hf
          omega
        have P2 := Lib.hid p2
        clear p2 hf E GOOD
        cases f
        · have p3 := P2.out rfl
          clear P2
          go_wp2_with fail
          try clear cb_0 cb_1 cb_2 cb_3
          rename World => wB
          go_loopw [77] (fun i2 w2 => ∃ j : Nat, j ≤ k ∧ i2 = .int .i64 j ∧ Hid (befF false l k j d) ∧ Box w2 w.heap.size 23 #[.int .i64 n, .int .i64 s, .int .i64 y, .int .i64 b] ∧ Box w2 wB.heap.size 38 #[.int .i64 a, .bool false, .int .i64 d, .int .i64 t] ∧ Below w.heap.size w w2) (fun i2 _ => k - (intOf i2).toNat)
          case atStart => exact ⟨0, Nat.zero_le _, rfl, Lib.hid fun _ q y hq => absurd hq (by omega), cb, sb, low⟩
          case round =>
            clear cb sb low
            obtain ⟨j, hj, rfl, hbf, cb, sb, low⟩ := hrel
            by_cases hj2 : j < k
            · have hz : l[j]? = some (l[j]'(by omega)) := List.getElem?_eq_getElem _
              generalize l[j]'(by omega) = z at hz
              obtain ⟨z0, z1, z2, z3⟩ := CELL.out wr j z low hz
              have HZ := Lib.hid hz
              obtain ⟨az, fz, dz, tz⟩ := z
              simp only at z0 z1 z2 z3
              have j0 : (0 : Int) ≤ j := by omega
              have j1 : (j : Int) < k := by omega
              clear hz
              have zb := boxNext low 38 #[.int .i64 az, .bool fz, .int .i64 dz, .int .i64 tz]
              replace low := gAlloc low (.cells #[.int .i64 az, .bool fz, .int .i64 dz, .int .i64 tz] 38)
              replace cb := cb.alloc (.cells #[.int .i64 az, .bool fz, .int .i64 dz, .int .i64 tz] 38)
              replace sb := sb.alloc (.cells #[.int .i64 az, .bool fz, .int .i64 dz, .int .i64 tz] 38)
              try simp only [World.size_alloc] at zb
              have sb_0 := sb.at_ 0 rfl
              have sb_1 := sb.at_ 1 rfl
              have sb_2 := sb.at_ 2 rfl
              have sb_3 := sb.at_ 3 rfl
              have NX : Hid (befF false l k (j + 1) d) := Lib.hid fun e => by cases e
              go_wp2_with fail
              go_roundw
              case rel => exact ⟨j + 1, by omega, by go_num, NX, cb, sb, low⟩
              case measure => simp [intOf]; omega
            · obtain rfl : j = k := by omega
              have E1 : Hid (slotsE n [] l = slotsE n (l.take (j + 1)) (l.drop (j + 1))) := Lib.hid (HT.out.trans (inner.out.last hbf.out hk))
              go_wp2_with fail
              go_roundw
              case rel => exact ⟨j + 1, by omega, by go_num, E1, cb, low⟩
              case measure => simp [intOf]; omega
        · clear P2
          go_wp2_with fail
          try clear cb_0 cb_1 cb_2 cb_3
          rename World => wB
          go_loopw [77] (fun i2 w2 => ∃ j : Nat, j ≤ k ∧ i2 = .int .i64 j ∧ Hid (befF true l k j d) ∧ Box w2 w.heap.size 23 #[.int .i64 n, .int .i64 s, .int .i64 y, .int .i64 b] ∧ Box w2 wB.heap.size 38 #[.int .i64 a, .bool true, .int .i64 d, .int .i64 t] ∧ Below w.heap.size w w2) (fun i2 _ => k - (intOf i2).toNat)
          case atStart => exact ⟨0, Nat.zero_le _, rfl, Lib.hid fun _ q y hq => absurd hq (by omega), cb, sb, low⟩
          case round =>
            clear cb sb low
            obtain ⟨j, hj, rfl, hbf, cb, sb, low⟩ := hrel
            by_cases hj2 : j < k
            · have hz : l[j]? = some (l[j]'(by omega)) := List.getElem?_eq_getElem _
              generalize l[j]'(by omega) = z at hz
              obtain ⟨z0, z1, z2, z3⟩ := CELL.out wr j z low hz
              have HZ := Lib.hid hz
              obtain ⟨az, fz, dz, tz⟩ := z
              simp only at z0 z1 z2 z3
              have j0 : (0 : Int) ≤ j := by omega
              have j1 : (j : Int) < k := by omega
              clear hz
              have zb := boxNext low 38 #[.int .i64 az, .bool fz, .int .i64 dz, .int .i64 tz]
              replace low := gAlloc low (.cells #[.int .i64 az, .bool fz, .int .i64 dz, .int .i64 tz] 38)
              replace cb := cb.alloc (.cells #[.int .i64 az, .bool fz, .int .i64 dz, .int .i64 tz] 38)
              replace sb := sb.alloc (.cells #[.int .i64 az, .bool fz, .int .i64 dz, .int .i64 tz] 38)
              try simp only [World.size_alloc] at zb
              have sb_0 := sb.at_ 0 rfl
              have sb_1 := sb.at_ 1 rfl
              have sb_2 := sb.at_ 2 rfl
              have sb_3 := sb.at_ 3 rfl
              cases fz
              · have NX := Lib.hid (hbf.out.next HZ.out (show filS d ⟨az, false, dz, tz⟩ = false from rfl))
                go_wp2_with fail
                go_roundw
                case rel => exact ⟨j + 1, by omega, by go_num, NX, cb, sb, low⟩
                case measure => simp [intOf]; omega
              · by_cases hd : dz = d
                · subst hd
                  obtain rfl : T = 6 := by
                    have e := inner.out
                    unfold restE at e
                    rwa [if_pos ⟨rfl, before_hit hj2 HZ.out (by simp [filS])⟩] at e
                  go_wp2_with fail
                  go_ret
                  exact ⟨rfl, low⟩
                · have hd' : (dz == d) = false := by simpa using hd
                  have NX := Lib.hid (hbf.out.next HZ.out (show filS d ⟨az, true, dz, tz⟩ = false by unfold filS; rw [Bool.true_and]; exact hd'))
                  clear hd
                  go_wp2_with fail
                  go_roundw
                  case rel => exact ⟨j + 1, by omega, by go_num, NX, cb, sb, low⟩
                  case measure => simp [intOf]; omega
            · obtain rfl : j = k := by omega
              have E1 : Hid (slotsE n [] l = slotsE n (l.take (j + 1)) (l.drop (j + 1))) := Lib.hid (HT.out.trans (inner.out.last hbf.out hk))
              go_wp2_with fail
              go_roundw
              case rel => exact ⟨j + 1, by omega, by go_num, E1, cb, low⟩
              case measure => simp [intOf]; omega
      · obtain rfl : k = l.length := by omega
        obtain rfl : 0 = T := by
          have := hs.out
          rw [List.drop_length] at this
          exact this.symm.trans HT.out
        go_wp2_with fail
        go_ret
        exact ⟨rfl, low⟩
end Go.Proofs.Ytiefeeondeablaa
