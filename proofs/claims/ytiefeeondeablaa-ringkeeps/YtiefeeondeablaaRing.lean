/-
Proved: what Check and Longest of package ring return, for every ring that can be read; they change nothing that was there. No condition.
-/
import Derived.Test.YtiefeeondeablaaSlot
namespace Go.Proofs.Ytiefeeondeablaa
open Go.ChangeShapes Go.WideShapes Go.ChangeAt Go.RowKit Go.Joins

/-- What is said of one slot behind others; of slots one by one; of their number; of a ring. -/
def slotE (n : Int) (l : List Sw) (x : Sw) : Int :=
  if nodB n x.pl = false ∨ nodB n x.nd = false ∨ waitB x.wt = false then 4 else if x.fu = false then (if x.nd = 0 ∧ x.wt = 0 then 0 else 3) else if filB l x.nd = true then 6 else 0
def slotsE (n : Int) : List Sw → List Sw → Int
  | _, [] => 0
  | l, x :: r => if slotE n l x = 0 then slotsE n (l ++ [x]) r else slotE n l x
def cntE (n s y b k : Int) : Int := if cfgB n s y b = true ∧ 1 ≤ k ∧ k ≤ 8 then 0 else 4
def ringE (n s y b : Int) (l : List Sw) : Int := if cntE n s y b l.length = 0 then slotsE n [] l else 4

theorem cntE_ok {n s y b k : Int} (h : cntE n s y b k = 0) : cfgB n s y b = true ∧ 1 ≤ k ∧ k ≤ 8 := by
  unfold cntE at h
  split at h
  · assumption
  · cases h
theorem cntE_bad {n s y b k : Int} (h : cntE n s y b k ≠ 0) : cntE n s y b k = 4 := by
  unfold cntE at h ⊢
  split at h
  · exact absurd rfl h
  · rename_i g; rw [if_neg g]

theorem ring_take {w : World} {A : Option Addr} {c : Nat} {r : List Sw} (h : Rs w (.slice A r.length c) r) (k : Nat) (hk : k ≤ r.length) : Rs w (sliced A 0 k c 4) (r.take k) := by
  obtain ⟨_, A', c', e, h1, h2, h3⟩ := h
  obtain ⟨rfl, rfl⟩ : A = A' ∧ c = c' := by injection e with e1 e2 e3; exact ⟨e1, e3⟩
  have hn : (r.take k).length = k := by rw [List.length_take]; omega
  refine ⟨ringC_length _, _, _, by unfold sliced; rw [hn]; rfl, by rw [hn]; omega, by omega, fun h0 => ?_⟩
  rw [hn] at h0
  obtain ⟨b, o, rfl, hb, hc⟩ := h3 (by omega)
  refine ⟨b, o, by rw [if_neg (by omega)]; simp [Addr.add], hb, fun j u hu => hc j u ?_⟩
  have := (List.getElem?_eq_some_iff.1 hu).1
  rw [← List.take_append_drop k r, ringC_append, List.getElem?_append_left this]
  exact hu

section
variable {ρ : Operand → Value} {dst : Option Tmp} {t : TypeId} {pos : String} {after : Array Edge} {gd : Option (Nat × Bool)} {x y : Operand} {A : Option Addr} {n c k : Nat} {s : Value} {w : World}
theorem exec_ring (hx : ρ x = .slice A n c) (hy : ρ y = .int .i64 k) (hk : k ≤ c) (hs : sliced A 0 k c 4 = s) :
    (execOp ρ ⟨dst, .slice 25 x none (some y) none, t, pos, after, gd⟩).run Try.prog w = .ok (.value s) w := by
  have hu : Try.prog.underlying 25 = some (.slice (Try.prog.elem 25)) := by kernel_rfl
  have hz : (sizeOf (Try.prog.elem 25)).run Try.prog w = .ok 4 w := by kernel_rfl
  unfold execOp
  simp only [hx, hy, Option.map_some, Option.map_none, Sem.run_bind, run_sliceAt_slice _ _ _ _ _ _ hu, run_slice_h w 25 A n c hu .i64 (k : Int) (by omega) (by omega), hz, Result.andThen_ok, Int.toNat_natCast, hs, Sem.run_pure]
end

theorem checkSlots_any (n s y b k : Int) (w : World) : Calls Try.prog 24 #[cfg n s y b, .int .i64 k] w fun e w' => e = .returned (.int .i64 (cntE n s y b k)) ∧ Below w.heap.size w w' := by
  have low := Below.refl w.heap.size w
  cases hB : cfgB n s y b with
  | false =>
    have E := Lib.hid (show cntE n s y b k = 4 by unfold cntE; rw [if_neg (by rw [hB]; simp)])
    have HB := Lib.hid hB
    rw [E.out]
    clear hB E
    go_enter Try.func24, Try.ntmps24
    go_wp2_with fail
    (with_reducible refine (check_bad _ _ _ _ _ HB.out).mono ?_); rintro e w1 ⟨rfl, hb⟩
    replace low := gCall (gAlloc low _) hb
    clear hb
    go_wp2_with fail
    go_ret
    exact ⟨rfl, low⟩
  | true =>
    have HB := Lib.hid hB
    by_cases h1 : k < 1
    · have E := Lib.hid (show cntE n s y b k = 4 by unfold cntE; rw [if_neg (by omega)])
      rw [E.out]
      clear hB E
      go_enter Try.func24, Try.ntmps24
      go_wp2_with fail
      (with_reducible refine (check_ok _ _ _ _ _ HB.out).mono ?_); rintro e w1 ⟨rfl, hb⟩
      replace low := gCall (gAlloc low _) hb
      clear hb
      go_wp2_with fail
      go_ret
      exact ⟨rfl, low⟩
    · by_cases h2 : 8 < k
      · have E := Lib.hid (show cntE n s y b k = 4 by unfold cntE; rw [if_neg (by omega)])
        have h1' : 1 ≤ k := by omega
        rw [E.out]
        clear hB E h1
        go_enter Try.func24, Try.ntmps24
        go_wp2_with fail
        (with_reducible refine (check_ok _ _ _ _ _ HB.out).mono ?_); rintro e w1 ⟨rfl, hb⟩
        replace low := gCall (gAlloc low _) hb
        clear hb
        go_wp2_with fail
        go_ret
        exact ⟨rfl, low⟩
      · have E := Lib.hid (show cntE n s y b k = 0 by unfold cntE; rw [if_pos ⟨hB, by omega, by omega⟩])
        have h1' : 1 ≤ k := by omega
        have h2' : k ≤ 8 := by omega
        rw [E.out]
        clear hB E h1 h2
        go_enter Try.func24, Try.ntmps24
        go_wp2_with fail
        (with_reducible refine (check_ok _ _ _ _ _ HB.out).mono ?_); rintro e w1 ⟨rfl, hb⟩
        replace low := gCall (gAlloc low _) hb
        clear hb
        go_wp2_with fail
        go_ret
        exact ⟨rfl, low⟩

set_option maxHeartbeats 2000000 in
theorem checkSlot_any (n s y b : Int) (v : Value) (l : List Sw) (x : Sw) (w : World) (h : Rs w v l) :
    Calls Try.prog 33 #[cfg n s y b, v, x.val] w fun e w' => e = .returned (.int .i64 (slotE n l x)) ∧ Below w.heap.size w w' := by
  obtain ⟨a, f, d, t⟩ := x
  have N1 := Lib.hid fun w => isNode_any n s y b a w
  have N2 := Lib.hid fun w => isNode_any n s y b d w
  have N3 := Lib.hid fun w => isWait_any t w
  have HF := Lib.hid fun w hw => hasFilled_any v l d w hw
  unfold slotE
  simp only
  obtain ⟨A, c, rfl⟩ := h.shape
  have low := Below.refl w.heap.size w
  have cb := boxNext low 23 #[.int .i64 n, .int .i64 s, .int .i64 y, .int .i64 b]
  replace low := gAlloc low (.cells #[.int .i64 n, .int .i64 s, .int .i64 y, .int .i64 b] 23)
  replace h := h.alloc (.cells #[.int .i64 n, .int .i64 s, .int .i64 y, .int .i64 b] 23)
  try simp only [World.size_alloc] at cb
  have sb := boxNext low 38 #[.int .i64 a, .bool f, .int .i64 d, .int .i64 t]
  replace low := gAlloc low (.cells #[.int .i64 a, .bool f, .int .i64 d, .int .i64 t] 38)
  replace h := h.alloc (.cells #[.int .i64 a, .bool f, .int .i64 d, .int .i64 t] 38)
  replace cb := cb.alloc (.cells #[.int .i64 a, .bool f, .int .i64 d, .int .i64 t] 38)
  try simp only [World.size_alloc] at sb
  cases hA : nodB n a
  · rw [if_pos (.inl rfl)]
    rw [hA] at N1
    clear hA N2 N3 HF
    go_enter Try.func33, Try.ntmps33
    have cb_0 := cb.at_ 0 rfl
    have cb_1 := cb.at_ 1 rfl
    have cb_2 := cb.at_ 2 rfl
    have cb_3 := cb.at_ 3 rfl
    have sb_0 := sb.at_ 0 rfl
    have sb_1 := sb.at_ 1 rfl
    have sb_2 := sb.at_ 2 rfl
    have sb_3 := sb.at_ 3 rfl
    go_wp2_with fail
    (with_reducible refine (N1.out _).mono ?_); rintro e w1 ⟨rfl, hb⟩
    replace h := h.call hb
    replace cb := cb.call hb
    replace sb := sb.call hb
    replace low := gCall low hb
    clear hb cb_0 cb_1 cb_2 cb_3 sb_0 sb_1 sb_2 sb_3
    have cb_0 := cb.at_ 0 rfl
    have cb_1 := cb.at_ 1 rfl
    have cb_2 := cb.at_ 2 rfl
    have cb_3 := cb.at_ 3 rfl
    have sb_0 := sb.at_ 0 rfl
    have sb_1 := sb.at_ 1 rfl
    have sb_2 := sb.at_ 2 rfl
    have sb_3 := sb.at_ 3 rfl
    go_wp2_with fail
    go_ret
    exact ⟨rfl, low⟩
  rw [hA] at N1
  clear hA
  cases hB : nodB n d
  · rw [if_pos (.inr (.inl rfl))]
    rw [hB] at N2
    clear hB N3 HF
    go_enter Try.func33, Try.ntmps33
    have cb_0 := cb.at_ 0 rfl
    have cb_1 := cb.at_ 1 rfl
    have cb_2 := cb.at_ 2 rfl
    have cb_3 := cb.at_ 3 rfl
    have sb_0 := sb.at_ 0 rfl
    have sb_1 := sb.at_ 1 rfl
    have sb_2 := sb.at_ 2 rfl
    have sb_3 := sb.at_ 3 rfl
    go_wp2_with fail
    (with_reducible refine (N1.out _).mono ?_); rintro e w1 ⟨rfl, hb⟩
    replace h := h.call hb
    replace cb := cb.call hb
    replace sb := sb.call hb
    replace low := gCall low hb
    clear hb cb_0 cb_1 cb_2 cb_3 sb_0 sb_1 sb_2 sb_3
    have cb_0 := cb.at_ 0 rfl
    have cb_1 := cb.at_ 1 rfl
    have cb_2 := cb.at_ 2 rfl
    have cb_3 := cb.at_ 3 rfl
    have sb_0 := sb.at_ 0 rfl
    have sb_1 := sb.at_ 1 rfl
    have sb_2 := sb.at_ 2 rfl
    have sb_3 := sb.at_ 3 rfl
    go_wp2_with fail
    (with_reducible refine (N2.out _).mono ?_); rintro e w2 ⟨rfl, hb⟩
    replace h := h.call hb
    replace cb := cb.call hb
    replace sb := sb.call hb
    replace low := gCall low hb
    clear hb cb_0 cb_1 cb_2 cb_3 sb_0 sb_1 sb_2 sb_3
    have cb_0 := cb.at_ 0 rfl
    have cb_1 := cb.at_ 1 rfl
    have cb_2 := cb.at_ 2 rfl
    have cb_3 := cb.at_ 3 rfl
    have sb_0 := sb.at_ 0 rfl
    have sb_1 := sb.at_ 1 rfl
    have sb_2 := sb.at_ 2 rfl
    have sb_3 := sb.at_ 3 rfl
    go_wp2_with fail
    go_ret
    exact ⟨rfl, low⟩
  rw [hB] at N2
  clear hB
  cases hC : waitB t
  · rw [if_pos (.inr (.inr rfl))]
    rw [hC] at N3
    clear hC HF
    go_enter Try.func33, Try.ntmps33
    have cb_0 := cb.at_ 0 rfl
    have cb_1 := cb.at_ 1 rfl
    have cb_2 := cb.at_ 2 rfl
    have cb_3 := cb.at_ 3 rfl
    have sb_0 := sb.at_ 0 rfl
    have sb_1 := sb.at_ 1 rfl
    have sb_2 := sb.at_ 2 rfl
    have sb_3 := sb.at_ 3 rfl
    go_wp2_with fail
    (with_reducible refine (N1.out _).mono ?_); rintro e w1 ⟨rfl, hb⟩
    replace h := h.call hb
    replace cb := cb.call hb
    replace sb := sb.call hb
    replace low := gCall low hb
    clear hb cb_0 cb_1 cb_2 cb_3 sb_0 sb_1 sb_2 sb_3
    have cb_0 := cb.at_ 0 rfl
    have cb_1 := cb.at_ 1 rfl
    have cb_2 := cb.at_ 2 rfl
    have cb_3 := cb.at_ 3 rfl
    have sb_0 := sb.at_ 0 rfl
    have sb_1 := sb.at_ 1 rfl
    have sb_2 := sb.at_ 2 rfl
    have sb_3 := sb.at_ 3 rfl
    go_wp2_with fail
    (with_reducible refine (N2.out _).mono ?_); rintro e w2 ⟨rfl, hb⟩
    replace h := h.call hb
    replace cb := cb.call hb
    replace sb := sb.call hb
    replace low := gCall low hb
    clear hb cb_0 cb_1 cb_2 cb_3 sb_0 sb_1 sb_2 sb_3
    have cb_0 := cb.at_ 0 rfl
    have cb_1 := cb.at_ 1 rfl
    have cb_2 := cb.at_ 2 rfl
    have cb_3 := cb.at_ 3 rfl
    have sb_0 := sb.at_ 0 rfl
    have sb_1 := sb.at_ 1 rfl
    have sb_2 := sb.at_ 2 rfl
    have sb_3 := sb.at_ 3 rfl
    go_wp2_with fail
    (with_reducible refine (N3.out _).mono ?_); rintro e w3 ⟨rfl, rfl⟩
    go_wp2_with fail
    go_ret
    exact ⟨rfl, low⟩
  rw [hC] at N3
  clear hC
  rw [if_neg (by simp)]
  cases f
  · rw [if_pos rfl]
    clear HF
    by_cases h0 : d = 0
    · subst h0
      by_cases h1 : t = 0
      · subst h1
        rw [if_pos ⟨rfl, rfl⟩]
        go_enter Try.func33, Try.ntmps33
        have cb_0 := cb.at_ 0 rfl
        have cb_1 := cb.at_ 1 rfl
        have cb_2 := cb.at_ 2 rfl
        have cb_3 := cb.at_ 3 rfl
        have sb_0 := sb.at_ 0 rfl
        have sb_1 := sb.at_ 1 rfl
        have sb_2 := sb.at_ 2 rfl
        have sb_3 := sb.at_ 3 rfl
        go_wp2_with fail
        (with_reducible refine (N1.out _).mono ?_); rintro e w1 ⟨rfl, hb⟩
        replace h := h.call hb
        replace cb := cb.call hb
        replace sb := sb.call hb
        replace low := gCall low hb
        clear hb cb_0 cb_1 cb_2 cb_3 sb_0 sb_1 sb_2 sb_3
        have cb_0 := cb.at_ 0 rfl
        have cb_1 := cb.at_ 1 rfl
        have cb_2 := cb.at_ 2 rfl
        have cb_3 := cb.at_ 3 rfl
        have sb_0 := sb.at_ 0 rfl
        have sb_1 := sb.at_ 1 rfl
        have sb_2 := sb.at_ 2 rfl
        have sb_3 := sb.at_ 3 rfl
        go_wp2_with fail
        (with_reducible refine (N2.out _).mono ?_); rintro e w2 ⟨rfl, hb⟩
        replace h := h.call hb
        replace cb := cb.call hb
        replace sb := sb.call hb
        replace low := gCall low hb
        clear hb cb_0 cb_1 cb_2 cb_3 sb_0 sb_1 sb_2 sb_3
        have cb_0 := cb.at_ 0 rfl
        have cb_1 := cb.at_ 1 rfl
        have cb_2 := cb.at_ 2 rfl
        have cb_3 := cb.at_ 3 rfl
        have sb_0 := sb.at_ 0 rfl
        have sb_1 := sb.at_ 1 rfl
        have sb_2 := sb.at_ 2 rfl
        have sb_3 := sb.at_ 3 rfl
        go_wp2_with fail
        (with_reducible refine (N3.out _).mono ?_); rintro e w3 ⟨rfl, rfl⟩
        go_wp2_with fail
        go_ret
        exact ⟨rfl, low⟩
      · have h1' : (t != 0) = true := by simpa using h1
        rw [if_neg (fun k => h1 k.2)]
        clear h1
        go_enter Try.func33, Try.ntmps33
        have cb_0 := cb.at_ 0 rfl
        have cb_1 := cb.at_ 1 rfl
        have cb_2 := cb.at_ 2 rfl
        have cb_3 := cb.at_ 3 rfl
        have sb_0 := sb.at_ 0 rfl
        have sb_1 := sb.at_ 1 rfl
        have sb_2 := sb.at_ 2 rfl
        have sb_3 := sb.at_ 3 rfl
        go_wp2_with fail
        (with_reducible refine (N1.out _).mono ?_); rintro e w1 ⟨rfl, hb⟩
        replace h := h.call hb
        replace cb := cb.call hb
        replace sb := sb.call hb
        replace low := gCall low hb
        clear hb cb_0 cb_1 cb_2 cb_3 sb_0 sb_1 sb_2 sb_3
        have cb_0 := cb.at_ 0 rfl
        have cb_1 := cb.at_ 1 rfl
        have cb_2 := cb.at_ 2 rfl
        have cb_3 := cb.at_ 3 rfl
        have sb_0 := sb.at_ 0 rfl
        have sb_1 := sb.at_ 1 rfl
        have sb_2 := sb.at_ 2 rfl
        have sb_3 := sb.at_ 3 rfl
        go_wp2_with fail
        (with_reducible refine (N2.out _).mono ?_); rintro e w2 ⟨rfl, hb⟩
        replace h := h.call hb
        replace cb := cb.call hb
        replace sb := sb.call hb
        replace low := gCall low hb
        clear hb cb_0 cb_1 cb_2 cb_3 sb_0 sb_1 sb_2 sb_3
        have cb_0 := cb.at_ 0 rfl
        have cb_1 := cb.at_ 1 rfl
        have cb_2 := cb.at_ 2 rfl
        have cb_3 := cb.at_ 3 rfl
        have sb_0 := sb.at_ 0 rfl
        have sb_1 := sb.at_ 1 rfl
        have sb_2 := sb.at_ 2 rfl
        have sb_3 := sb.at_ 3 rfl
        go_wp2_with fail
        (with_reducible refine (N3.out _).mono ?_); rintro e w3 ⟨rfl, rfl⟩
        go_wp2_with fail
        go_ret
        exact ⟨rfl, low⟩
    · have h0' : (d != 0) = true := by simpa using h0
      rw [if_neg (fun k => h0 k.1)]
      clear h0
      go_enter Try.func33, Try.ntmps33
      have cb_0 := cb.at_ 0 rfl
      have cb_1 := cb.at_ 1 rfl
      have cb_2 := cb.at_ 2 rfl
      have cb_3 := cb.at_ 3 rfl
      have sb_0 := sb.at_ 0 rfl
      have sb_1 := sb.at_ 1 rfl
      have sb_2 := sb.at_ 2 rfl
      have sb_3 := sb.at_ 3 rfl
      go_wp2_with fail
      (with_reducible refine (N1.out _).mono ?_); rintro e w1 ⟨rfl, hb⟩
      replace h := h.call hb
      replace cb := cb.call hb
      replace sb := sb.call hb
      replace low := gCall low hb
      clear hb cb_0 cb_1 cb_2 cb_3 sb_0 sb_1 sb_2 sb_3
      have cb_0 := cb.at_ 0 rfl
      have cb_1 := cb.at_ 1 rfl
      have cb_2 := cb.at_ 2 rfl
      have cb_3 := cb.at_ 3 rfl
      have sb_0 := sb.at_ 0 rfl
      have sb_1 := sb.at_ 1 rfl
      have sb_2 := sb.at_ 2 rfl
      have sb_3 := sb.at_ 3 rfl
      go_wp2_with fail
      (with_reducible refine (N2.out _).mono ?_); rintro e w2 ⟨rfl, hb⟩
      replace h := h.call hb
      replace cb := cb.call hb
      replace sb := sb.call hb
      replace low := gCall low hb
      clear hb cb_0 cb_1 cb_2 cb_3 sb_0 sb_1 sb_2 sb_3
      have cb_0 := cb.at_ 0 rfl
      have cb_1 := cb.at_ 1 rfl
      have cb_2 := cb.at_ 2 rfl
      have cb_3 := cb.at_ 3 rfl
      have sb_0 := sb.at_ 0 rfl
      have sb_1 := sb.at_ 1 rfl
      have sb_2 := sb.at_ 2 rfl
      have sb_3 := sb.at_ 3 rfl
      go_wp2_with fail
      (with_reducible refine (N3.out _).mono ?_); rintro e w3 ⟨rfl, rfl⟩
      go_wp2_with fail
      go_ret
      exact ⟨rfl, low⟩
  · rw [if_neg (by simp)]
    cases hF : filB l d
    · rw [hF] at HF
      rw [if_neg (by simp)]
      clear hF
      go_enter Try.func33, Try.ntmps33
      have cb_0 := cb.at_ 0 rfl
      have cb_1 := cb.at_ 1 rfl
      have cb_2 := cb.at_ 2 rfl
      have cb_3 := cb.at_ 3 rfl
      have sb_0 := sb.at_ 0 rfl
      have sb_1 := sb.at_ 1 rfl
      have sb_2 := sb.at_ 2 rfl
      have sb_3 := sb.at_ 3 rfl
      go_wp2_with fail
      (with_reducible refine (N1.out _).mono ?_); rintro e w1 ⟨rfl, hb⟩
      replace h := h.call hb
      replace cb := cb.call hb
      replace sb := sb.call hb
      replace low := gCall low hb
      clear hb cb_0 cb_1 cb_2 cb_3 sb_0 sb_1 sb_2 sb_3
      have cb_0 := cb.at_ 0 rfl
      have cb_1 := cb.at_ 1 rfl
      have cb_2 := cb.at_ 2 rfl
      have cb_3 := cb.at_ 3 rfl
      have sb_0 := sb.at_ 0 rfl
      have sb_1 := sb.at_ 1 rfl
      have sb_2 := sb.at_ 2 rfl
      have sb_3 := sb.at_ 3 rfl
      go_wp2_with fail
      (with_reducible refine (N2.out _).mono ?_); rintro e w2 ⟨rfl, hb⟩
      replace h := h.call hb
      replace cb := cb.call hb
      replace sb := sb.call hb
      replace low := gCall low hb
      clear hb cb_0 cb_1 cb_2 cb_3 sb_0 sb_1 sb_2 sb_3
      have cb_0 := cb.at_ 0 rfl
      have cb_1 := cb.at_ 1 rfl
      have cb_2 := cb.at_ 2 rfl
      have cb_3 := cb.at_ 3 rfl
      have sb_0 := sb.at_ 0 rfl
      have sb_1 := sb.at_ 1 rfl
      have sb_2 := sb.at_ 2 rfl
      have sb_3 := sb.at_ 3 rfl
      go_wp2_with fail
      (with_reducible refine (N3.out _).mono ?_); rintro e w3 ⟨rfl, rfl⟩
      go_wp2_with fail
      (with_reducible refine (HF.out _ h).mono ?_); rintro e w4 ⟨rfl, hb⟩
      replace low := gCall low hb
      clear hb cb_0 cb_1 cb_2 cb_3 sb_0 sb_1 sb_2 sb_3
      go_wp2_with fail
      go_ret
      exact ⟨rfl, low⟩
    · rw [hF] at HF
      rw [if_pos rfl]
      clear hF
      go_enter Try.func33, Try.ntmps33
      have cb_0 := cb.at_ 0 rfl
      have cb_1 := cb.at_ 1 rfl
      have cb_2 := cb.at_ 2 rfl
      have cb_3 := cb.at_ 3 rfl
      have sb_0 := sb.at_ 0 rfl
      have sb_1 := sb.at_ 1 rfl
      have sb_2 := sb.at_ 2 rfl
      have sb_3 := sb.at_ 3 rfl
      go_wp2_with fail
      (with_reducible refine (N1.out _).mono ?_); rintro e w1 ⟨rfl, hb⟩
      replace h := h.call hb
      replace cb := cb.call hb
      replace sb := sb.call hb
      replace low := gCall low hb
      clear hb cb_0 cb_1 cb_2 cb_3 sb_0 sb_1 sb_2 sb_3
      have cb_0 := cb.at_ 0 rfl
      have cb_1 := cb.at_ 1 rfl
      have cb_2 := cb.at_ 2 rfl
      have cb_3 := cb.at_ 3 rfl
      have sb_0 := sb.at_ 0 rfl
      have sb_1 := sb.at_ 1 rfl
      have sb_2 := sb.at_ 2 rfl
      have sb_3 := sb.at_ 3 rfl
      go_wp2_with fail
      (with_reducible refine (N2.out _).mono ?_); rintro e w2 ⟨rfl, hb⟩
      replace h := h.call hb
      replace cb := cb.call hb
      replace sb := sb.call hb
      replace low := gCall low hb
      clear hb cb_0 cb_1 cb_2 cb_3 sb_0 sb_1 sb_2 sb_3
      have cb_0 := cb.at_ 0 rfl
      have cb_1 := cb.at_ 1 rfl
      have cb_2 := cb.at_ 2 rfl
      have cb_3 := cb.at_ 3 rfl
      have sb_0 := sb.at_ 0 rfl
      have sb_1 := sb.at_ 1 rfl
      have sb_2 := sb.at_ 2 rfl
      have sb_3 := sb.at_ 3 rfl
      go_wp2_with fail
      (with_reducible refine (N3.out _).mono ?_); rintro e w3 ⟨rfl, rfl⟩
      go_wp2_with fail
      (with_reducible refine (HF.out _ h).mono ?_); rintro e w4 ⟨rfl, hb⟩
      replace low := gCall low hb
      clear hb cb_0 cb_1 cb_2 cb_3 sb_0 sb_1 sb_2 sb_3
      go_wp2_with fail
      go_ret
      exact ⟨rfl, low⟩

theorem longest_any (n s y b k : Int) (w : World) : Calls Try.prog 9 #[cfg n s y b, .int .i64 k] w fun e w' =>
    e = .returned (.tuple #[.int .i64 (if cntE n s y b k = 0 then n + 9 else 0), .int .i64 (cntE n s y b k)]) ∧ Below w.heap.size w w' := by
  have C := Lib.hid fun w => checkSlots_any n s y b k w
  have low := Below.refl w.heap.size w
  have cb := boxNext low 23 #[.int .i64 n, .int .i64 s, .int .i64 y, .int .i64 b]
  replace low := gAlloc low (.cells #[.int .i64 n, .int .i64 s, .int .i64 y, .int .i64 b] 23)
  try simp only [World.size_alloc] at cb
  by_cases hE : cntE n s y b k = 0
  · have hn : 2 ≤ n ∧ n ≤ 8 := by have := cfgB_iff.1 (cntE_ok hE).1; omega
    obtain ⟨hn1, hn2⟩ := hn
    rw [if_pos hE, hE]
    rw [hE] at C
    clear hE
    go_enter Try.func9, Try.ntmps9
    go_wp2_with fail
    (with_reducible refine (C.out _).mono ?_); rintro e w1 ⟨rfl, hb⟩
    replace cb := cb.call hb
    replace low := gCall low hb
    clear hb
    have cb_0 := cb.at_ 0 rfl
    have cb_1 := cb.at_ 1 rfl
    have cb_2 := cb.at_ 2 rfl
    have cb_3 := cb.at_ 3 rfl
    go_wp2_with fail
    go_ret2
    exact ⟨rfl, low⟩
  · have hE' : (cntE n s y b k != 0) = true := by simpa using hE
    rw [if_neg hE]
    generalize cntE n s y b k = E at *
    clear hE
    go_enter Try.func9, Try.ntmps9
    go_wp2_with fail
    (with_reducible refine (C.out _).mono ?_); rintro e w1 ⟨rfl, hb⟩
    replace cb := cb.call hb
    replace low := gCall low hb
    clear hb
    go_wp2_with fail
    go_ret2
    exact ⟨rfl, low⟩
end Go.Proofs.Ytiefeeondeablaa
