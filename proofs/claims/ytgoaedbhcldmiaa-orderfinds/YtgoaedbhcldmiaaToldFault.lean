/-
Proved: what the law's toldFault returns, for every list of observations that can be read; it changes nothing that was there. No condition.
-/
import Derived.Test.YtgoaedbhcldmiaaTolds
import Derived.Test.YtgoaedbhcldmiaaAtomic2
import Derived.Test.YtgoaedbhcldmiaaRefOps
namespace Go.Proofs.Ytgoaedbhcldmiaa
open Go.ChangeShapes Go.WideShapes Go.ChangeAt Go.RowKit Go.Joins

/-- The first error of observations, at most k of them. -/
def toldE (k : Int) (l : List Td) : Int := if k < l.length then 2 else runE (l.map Td.d)
theorem runE_at {l : List Td} {j : Nat} {x : Td} (h : l[j]? = some x) : runE ((l.drop j).map Td.d) = if deedE x.d = 0 then runE ((l.drop (j + 1)).map Td.d) else deedE x.d := by
  obtain ⟨hk, rfl⟩ := List.getElem?_eq_some_iff.1 h
  rw [List.drop_eq_getElem_cons hk, List.map_cons, runE]
theorem runE_zero : ∀ {l : List Dd}, runE l = 0 ↔ ∀ d ∈ l, deedE d = 0
  | [] => by simp [runE]
  | d :: r => by
    have ih := runE_zero (l := r)
    unfold runE
    by_cases h1 : deedE d = 0
    · rw [if_pos h1, ih]
      constructor
      · intro h e he
        rcases List.mem_cons.1 he with rfl | he
        · exact h1
        · exact h e he
      · intro h e he
        exact h e (by simp [he])
    · rw [if_neg h1]
      constructor
      · intro h; exact absurd h h1
      · intro h; exact absurd (h d (by simp)) h1

set_option maxHeartbeats 1000000 in
theorem toldFault_any (v : Value) (l : List Td) (k : Int) (w : World) (h : elT.R w v l) :
    Calls Try.prog 8 #[v, .int .i64 k] w fun e w' => e = .returned (.int .i64 (toldE k l)) ∧ Below w.heap.size w w' := by
  obtain ⟨_, A, c, rfl, g1, g2, g3⟩ := h
  have G3 := Lib.hid g3
  unfold maxLen at g2
  clear g3
  have low := Below.refl w.heap.size w
  by_cases hk : k < (l.length : Int)
  · rw [show toldE k l = 2 by unfold toldE; rw [if_pos hk]]
    go_enter Try.func8, Try.ntmps8
    go_wp2_with fail
    go_ret
    exact ⟨rfl, low⟩
  · rw [show toldE k l = runE (l.map Td.d) by unfold toldE; rw [if_neg hk]]
    generalize hT : runE (l.map Td.d) = T
    have HT := Lib.hid hT
    clear hT
    go_enter Try.func8, Try.ntmps8
    go_wp2_with fail
    go_loopw [14] (fun i wr => ∃ j : Nat, j ≤ l.length ∧ i = .int .i64 j ∧ Hid (runE ((l.drop j).map Td.d) = T) ∧ Below w.heap.size w wr) (fun i _ => l.length - (intOf i).toNat)
    case atStart => exact ⟨0, Nat.zero_le _, rfl, Lib.hid (by rw [List.drop_zero]; exact HT.out), low⟩
    case round =>
      clear low
      obtain ⟨j, hj, rfl, hs, low⟩ := hrel
      by_cases hj2 : j < l.length
      · obtain ⟨b2, o2, rfl, hb2, hc2⟩ := G3.out (by omega)
        have hd : l[j]? = some l[j] := List.getElem?_eq_getElem _
        generalize l[j] = x at hd
        obtain ⟨c0, c1, c2, c3, c4⟩ := toldAt_of hc2 hb2 low hd
        have e := hs.out
        rw [runE_at hd] at e
        have E := Lib.hid e
        have DF := Lib.hid fun w => deedFault_any x.d w
        generalize hde : deedE x.d = de at DF E
        obtain ⟨⟨dn, dk, da, dv⟩, tv⟩ := x
        simp only at c0 c1 c2 c3 c4
        have j0 : (0 : Int) ≤ j := by omega
        have j1 : (j : Int) < l.length := by omega
        clear hd hc2 hs e hde
        have db := boxNext low 38 #[.int .i64 dn, .int .i64 dk, .int .i64 da, .int .u64 dv, .int .u64 tv]
        replace low := gAlloc low (.cells #[.int .i64 dn, .int .i64 dk, .int .i64 da, .int .u64 dv, .int .u64 tv] 38)
        try simp only [World.size_alloc] at db
        have db_0 := db.at_ 0 rfl
        have db_1 := db.at_ 1 rfl
        have db_2 := db.at_ 2 rfl
        have db_3 := db.at_ 3 rfl
        go_wp2_with fail
        (with_reducible refine (DF.out _).mono ?_); rintro e w2 ⟨rfl, hb3⟩
        clear db_0 db_1 db_2 db_3
        replace low := gCall low hb3
        clear hb3 c0 c1 c2 c3 c4 DF db
        by_cases h0 : de = 0
        · subst h0
          have NX : Hid (runE ((l.drop (j + 1)).map Td.d) = T) := Lib.hid (by
            have := E.out
            simpa using this)
          clear E
          go_wp2_with fail
          go_roundw
          case rel => exact ⟨j + 1, by omega, by go_num, NX, low⟩
          case measure => simp [intOf]; omega
        · obtain rfl : de = T := by
            have := E.out
            simpa [h0] using this
          have h0' : (de != 0) = true := by simpa using h0
          clear h0 E
          go_wp2_with fail
          go_ret
          exact ⟨rfl, low⟩
      · obtain rfl : j = l.length := by omega
        obtain rfl : 0 = T := by
          have := hs.out
          rw [List.drop_length] at this
          exact this
        go_wp2_with fail
        go_ret
        exact ⟨rfl, low⟩
end Go.Proofs.Ytgoaedbhcldmiaa
