/-
Proved: what the reference's ProgsFault returns, for every list of programs that can be read; it changes nothing that was there. No condition.
-/
import Derived.Test.YtckmcfpeemkdoaaProgs
import Derived.Test.YtckmcfpeemkdoaaRefOps
namespace Go.Proofs.Ytckmcfpeemkdoaa
open Go.ChangeShapes Go.WideShapes Go.ChangeAt Go.RowKit Go.Joins

set_option maxRecDepth 20000 in
set_option maxHeartbeats 2000000 in
theorem progsFault_any (n s y b : Int) (v : Value) (p : List (List Dd)) (w : World) (h : Ps w v p) :
    Calls Try.prog 8 #[cfg n s y b, v] w fun e w' => e = .returned (.int .i64 (progsE n s y b p)) ∧ Below w.heap.size w w' := by
  obtain ⟨A, c, rfl, h1, h2, h3⟩ := h.ex
  have H3 := Lib.hid h3
  unfold maxLen at h2
  clear h h3
  have low := Below.refl w.heap.size w
  have cb := boxNext low 23 #[.int .i64 n, .int .i64 s, .int .i64 y, .int .i64 b]
  replace low := gAlloc low (.cells #[.int .i64 n, .int .i64 s, .int .i64 y, .int .i64 b] 23)
  try simp only [World.size_alloc] at cb
  cases hB : cfgB n s y b with
  | false =>
    have C := Lib.hid fun w => configFault_bad n s y b w hB
    have E := Lib.hid (show progsE n s y b p = 4 by unfold progsE; rw [if_pos hB])
    rw [E.out]
    clear hB E
    go_enter Try.func8, Try.ntmps8
    go_wp2_with fail
    (with_reducible refine (C.out _).mono ?_); rintro e w1 ⟨rfl, hb⟩
    replace cb := cb.call hb
    replace low := gCall low hb
    clear hb
    go_wp2_with fail
    go_ret
    exact ⟨rfl, low⟩
  | true =>
    have C := Lib.hid fun w => configFault_ok n s y b w hB
    by_cases hn : (p.length : Int) = n
    · have E := Lib.hid (show progsE n s y b p = listE 0 p by unfold progsE; rw [if_neg (by rw [hB]; simp), if_neg (by simpa using hn)])
      rw [E.out]
      have hn' : ((p.length : Int) != n) = false := by simpa using hn
      generalize hT : listE 0 p = T
      have HT := Lib.hid hT
      clear hB E hT hn
      go_enter Try.func8, Try.ntmps8
      go_wp2_with fail
      (with_reducible refine (C.out _).mono ?_); rintro e w1 ⟨rfl, hb⟩
      replace cb := cb.call hb
      replace low := gCall low hb
      clear hb
      have cb_0 := cb.at_ 0 rfl
      have cb_1 := cb.at_ 1 rfl
      have cb_2 := cb.at_ 2 rfl
      have cb_3 := cb.at_ 3 rfl
      go_wp2_with fail
      clear cb_0 cb_1 cb_2 cb_3
      go_loopw [23] (fun i wr => ∃ k : Nat, k ≤ p.length ∧ i = .int .i64 k ∧ Hid (listE k (p.drop k) = T) ∧ Below w.heap.size w wr) (fun i _ => p.length - (intOf i).toNat)
      case atStart => exact ⟨0, Nat.zero_le _, rfl, Lib.hid (by rw [List.drop_zero]; exact HT.out), low⟩
      case round =>
        clear cb low C
        obtain ⟨k, hk, rfl, hs, low⟩ := hrel
        by_cases hlt : k < p.length
        · obtain ⟨bb, o, rfl, hb, hc⟩ := H3.out (by omega)
          have hx : p[k]? = some p[k] := List.getElem?_eq_getElem _
          generalize p[k] = l at hx
          obtain ⟨A', c', ce, ds⟩ := hc k l hx
          have e := hs.out
          rw [listE_at hx] at e
          have E := Lib.hid e
          replace ce := (low.cell (p := ⟨bb, o + k, none⟩) hb).trans ce
          obtain ⟨_, A2, c2, e2, g1, g2, g3⟩ := ds
          obtain ⟨rfl, rfl⟩ : A' = A2 ∧ c' = c2 := by injection e2 with e3 _ e4; exact ⟨e3, e4⟩
          have G3 := Lib.hid g3
          unfold maxLen at g2
          have k0 : (0 : Int) ≤ k := by omega
          have k1 : (k : Int) < p.length := by omega
          clear hx hc hs e e2 g3
          by_cases h20 : 20 < l.length
          · obtain rfl : 2 = T := by
              have := E.out
              have e5 : progE k l = 2 := by unfold progE; rw [if_pos h20]
              rw [e5, if_pos (by decide)] at this
              exact this
            have h20' : (20 : Int) < l.length := by omega
            clear E h20
            go_wp2_with fail
            go_ret
            exact ⟨rfl, low⟩
          · have h20' : ¬ (20 : Int) < l.length := by omega
            have inner : Hid ((if ownE k (l.drop 0) ≠ 0 then ownE k (l.drop 0) else listE (k + 1) (p.drop (k + 1))) = T) := Lib.hid (by
              have := E.out
              unfold progE at this
              rwa [if_neg h20] at this)
            clear E h20
            rename World => wB
            go_wp2_with fail
            go_loopw [33] (fun i2 wr => ∃ j : Nat, j ≤ l.length ∧ i2 = .int .i64 j ∧ Hid ((if ownE k (l.drop j) ≠ 0 then ownE k (l.drop j) else listE (k + 1) (p.drop (k + 1))) = T) ∧ Below w.heap.size w wr) (fun i2 _ => l.length - (intOf i2).toNat)
            case atStart => exact ⟨0, Nat.zero_le _, rfl, inner, low⟩
            case round =>
              clear inner low ce
              obtain ⟨j, hj, rfl, inner, low⟩ := hrel
              by_cases hj2 : j < l.length
              · obtain ⟨b2, o2, rfl, hb2, hc2⟩ := G3.out (by omega)
                have hd : l[j]? = some l[j] := List.getElem?_eq_getElem _
                generalize l[j] = d at hd
                obtain ⟨c0, c1, c2, c3⟩ := deedAt_of hc2 hb2 low hd
                have e := inner.out
                rw [ownE_at hd] at e
                have E := Lib.hid e
                have DF := Lib.hid fun w => deedFault_any d w
                have OD := Lib.hid (show deedE d = deedE d from rfl)
                generalize hde : deedE d = de at DF E
                obtain ⟨dn, dk, da, dv⟩ := d
                simp only at c0 c1 c2 c3
                have j0 : (0 : Int) ≤ j := by omega
                have j1 : (j : Int) < l.length := by omega
                clear hd hc2 inner e OD hde
                have db := boxNext low 30 #[.int .i64 dn, .int .i64 dk, .int .i64 da, .int .u64 dv]
                replace low := gAlloc low (.cells #[.int .i64 dn, .int .i64 dk, .int .i64 da, .int .u64 dv] 30)
                try simp only [World.size_alloc] at db
                go_wp2_with fail
                (with_reducible refine (DF.out _).mono ?_); rintro e w2 ⟨rfl, hb3⟩
                replace db := db.call hb3
                replace low := gCall low hb3
                clear hb3 c0 c1 c2 c3 DF
                by_cases h0 : de = 0
                · subst h0
                  by_cases h4 : dn = k
                  · have h4' : (dn != (k : Int)) = false := by simpa using h4
                    have NX : Hid ((if ownE k (l.drop (j + 1)) ≠ 0 then ownE k (l.drop (j + 1)) else listE (k + 1) (p.drop (k + 1))) = T) := Lib.hid (by
                      have := E.out
                      simpa [h4] using this)
                    clear h4 E
                    have db_0 := db.at_ 0 rfl
                    have db_1 := db.at_ 1 rfl
                    have db_2 := db.at_ 2 rfl
                    have db_3 := db.at_ 3 rfl
                    go_wp2_with fail
                    go_roundw
                    case rel => exact ⟨j + 1, by omega, by go_num, NX, low⟩
                    case measure => simp [intOf]; omega
                  · obtain rfl : 3 = T := by
                      have := E.out
                      simpa [h4] using this
                    have h4' : (dn != (k : Int)) = true := by simpa using h4
                    clear h4 E
                    have db_0 := db.at_ 0 rfl
                    have db_1 := db.at_ 1 rfl
                    have db_2 := db.at_ 2 rfl
                    have db_3 := db.at_ 3 rfl
                    go_wp2_with fail
                    go_ret
                    exact ⟨rfl, low⟩
                · obtain rfl : de = T := by
                    have := E.out
                    simpa [h0] using this
                  have h0' : (de != 0) = true := by simpa using h0
                  clear h0 E
                  go_wp2_with fail
                  go_ret
                  exact ⟨rfl, low⟩
              · obtain rfl : j = l.length := by omega
                have NX : Hid (listE ((k + 1 : Nat) : Int) (p.drop (k + 1)) = T) := Lib.hid (by
                  have := inner.out
                  rw [List.drop_length] at this
                  simpa [ownE] using this)
                go_wp2_with fail
                go_roundw
                case rel => exact ⟨k + 1, by omega, by go_num, NX, low⟩
                case measure => simp [intOf]; omega
        · obtain rfl : k = p.length := by omega
          obtain rfl : 0 = T := by
            have := hs.out
            rw [List.drop_length] at this
            exact this
          go_wp2_with fail
          go_ret
          exact ⟨rfl, low⟩
    · have E := Lib.hid (show progsE n s y b p = 3 by unfold progsE; rw [if_neg (by rw [hB]; simp), if_pos hn])
      have hn' : ((p.length : Int) != n) = true := by simpa using hn
      rw [E.out]
      clear hB E hn
      go_enter Try.func8, Try.ntmps8
      go_wp2_with fail
      (with_reducible refine (C.out _).mono ?_); rintro e w1 ⟨rfl, hb⟩
      replace cb := cb.call hb
      replace low := gCall low hb
      clear hb
      have cb_0 := cb.at_ 0 rfl
      have cb_1 := cb.at_ 1 rfl
      have cb_2 := cb.at_ 2 rfl
      have cb_3 := cb.at_ 3 rfl
      go_wp2_with fail
      go_ret
      exact ⟨rfl, low⟩
end Go.Proofs.Ytckmcfpeemkdoaa
