/-
Proved: what Merge of package prog returns, for all programs and picks that can be read; it changes nothing that was there. No condition.
-/
import Derived.Test.YtckmcfpeemkdoaaProgFns
import Derived.Test.YtckmcfpeemkdoaaMergeFacts
import Derived.Test.YtckmcfpeemkdoaaOwned
import Derived.Test.YtckmcfpeemkdoaaOpsDelete
namespace Go.Proofs.Ytckmcfpeemkdoaa
open Go.ChangeShapes Go.WideShapes Go.ChangeAt Go.RowKit Go.Joins

/-- What Merge gives: operations and counts of the call's own. -/
def Merged (w : World) (base : Nat) (u v : Value) (s : List Dd × List Int) : Prop :=
  w.ownsRow base 30 4 u s.1.length (deedsC s.1) ∧ ∃ g, base ≤ g ∧ OwnI w g v s.2
theorem Merged.call {w w' : World} {base : Nat} {u v : Value} {s : List Dd × List Int} (h : Merged w base u v s) (hb : Below w.heap.size w w') : Merged w' base u v s := by
  obtain ⟨h1, g, h2, h3⟩ := h
  exact ⟨own_below h1 hb, g, h2, h3.call hb⟩
theorem Merged.ds {w : World} {base : Nat} {u v : Value} {s : List Dd × List Int} (h : Merged w base u v s) : Ds w u s.1 := ⟨Sl.ofOwn h.1⟩
theorem Merged.sl {w : World} {base : Nat} {u v : Value} {s : List Dd × List Int} (h : Merged w base u v s) : Sl w w.heap.size 1 v s.2.length (s.2.map (Value.int .i64)) := by
  obtain ⟨_, g, _, h3⟩ := h
  exact h3.sl
theorem Merged.shape {w : World} {base : Nat} {u v : Value} {s : List Dd × List Int} (h : Merged w base u v s) : (∃ A c, u = .slice A s.1.length c) ∧ ∃ A c, v = .slice A s.2.length c := by
  obtain ⟨h1, g, _, h3⟩ := h
  refine ⟨?_, ?_⟩
  · obtain ⟨_, A, c, e, _⟩ := Sl.ofOwn h1
    exact ⟨A, c, e⟩
  · obtain ⟨c, e, _⟩ := h3.shape
    exact ⟨_, c, e⟩

/-- The cells of an operation that was just laid. -/
theorem deed_new (w : World) (t : TypeId) (x : Dd) (g q : Nat) (u : Value) (hg : g = w.heap.size) (h : x.cells[q]? = some u) : (w.alloc (.cells x.arr t)).cell? ((⟨g, 0, none⟩ : Addr).add q) = some u := by
  subst hg
  have e : (⟨w.heap.size, 0, none⟩ : Addr).add q = ⟨w.heap.size, q, none⟩ := by cases q <;> simp [Addr.add]
  rw [e, (Box.new w t x.arr).cell, ← h]
  simp [Dd.arr]
theorem deed_one (x : Dd) : ∀ u ∈ x.cells, u.oneCell' = true := by
  intro u hu
  simp [Dd.cells] at hu
  rcases hu with rfl | rfl | rfl | rfl <;> rfl
theorem deedsC_snoc (l : List Dd) (x : Dd) : deedsC (l ++ [x]) = deedsC l ++ x.cells := by simp [deedsC]

theorem merge_bad (n s y b : Int) (v : Value) (p : List (List Dd)) (A : Option Addr) (q c : Nat) (w : World) (h : Ps w v p) (hE : mergeE n s y b p q ≠ 0) :
    Calls Try.prog 6 #[cfg n s y b, v, .slice A q c] w fun e w' => e = .returned (.tuple #[.slice none 0 0, .slice none 0 0, .int .i64 (mergeE n s y b p q)]) ∧ Below w.heap.size w w' := by
  have C := Lib.hid fun w h => progCheck_any n s y b v p w h
  obtain ⟨A', c', rfl⟩ := h.shape
  unfold mergeE at hE ⊢
  generalize progsE n s y b p = E at *
  have low := Below.refl w.heap.size w
  have cb := boxNext low 23 #[.int .i64 n, .int .i64 s, .int .i64 y, .int .i64 b]
  replace low := gAlloc low (.cells #[.int .i64 n, .int .i64 s, .int .i64 y, .int .i64 b] 23)
  replace h := h.alloc (.cells #[.int .i64 n, .int .i64 s, .int .i64 y, .int .i64 b] 23)
  try simp only [World.size_alloc] at cb
  by_cases h0 : E ≠ 0
  · rw [if_pos h0]
    have h0' : (E != 0) = true := by simpa using h0
    clear hE h0
    go_enter Try.func6, Try.ntmps6
    go_wp2_with fail
    (with_reducible refine (C.out _ h).mono ?_); rintro e w1 ⟨rfl, hb⟩
    replace low := gCall low hb
    clear hb
    go_wp2_with fail
    go_ret3
    exact ⟨rfl, low⟩
  · obtain rfl : E = 0 := by simpa using h0
    rw [if_neg h0] at hE ⊢
    have hq : 200 < q := by
      rcases Nat.lt_or_ge 200 q with h | h
      · exact h
      · rw [if_neg (by omega)] at hE
        exact absurd rfl hE
    have hq' : (200 : Int) < q := by omega
    rw [if_pos hq]
    clear hE h0 hq
    go_enter Try.func6, Try.ntmps6
    go_wp2_with fail
    (with_reducible refine (C.out _ h).mono ?_); rintro e w1 ⟨rfl, hb⟩
    replace low := gCall low hb
    clear hb
    go_wp2_with fail
    go_ret3
    exact ⟨rfl, low⟩

set_option maxHeartbeats 2000000 in
theorem merge_ok (n s y b : Int) (v pv : Value) (p : List (List Dd)) (picks : List Int) (w : World) (h : Ps w v p) (hpk : Sl w w.heap.size 1 pv picks.length (picks.map (Value.int .i64))) (hE : mergeE n s y b p picks.length = 0) :
    Calls Try.prog 6 #[cfg n s y b, v, pv] w fun e w' => (∃ u v, e = .returned (.tuple #[u, v, .int .i64 0]) ∧ Merged w' w.heap.size u v (mergeL p picks)) ∧ Below w.heap.size w w' := by
  have C := Lib.hid fun w h => progCheck_any n s y b v p w h
  have N1 := Lib.hid fun av xs node w h ha hb => next_bad v av p xs node w h ha hb
  have N2 := Lib.hid fun av xs k a l w h ha hl hp hx h0 => next_good v av p xs k a l w h ha hl hp hx h0
  obtain ⟨A', c', rfl⟩ := h.shape
  obtain ⟨hE0, hq⟩ : progsE n s y b p = 0 ∧ picks.length ≤ 200 := by
    unfold mergeE at hE
    by_cases h0 : progsE n s y b p = 0
    · rw [if_neg (by simpa using h0)] at hE
      refine ⟨h0, ?_⟩
      rcases Nat.lt_or_ge 200 picks.length with h | h
      · rw [if_pos h] at hE; cases hE
      · exact h
    · rw [if_pos h0] at hE
      exact absurd hE h0
  obtain ⟨hcf, hpn, hl0⟩ := progsE_zero hE0
  have p8 : p.length ≤ 8 := by
    have := cfgB_iff.1 hcf
    omega
  have L20 := Lib.hid (show ∀ (k : Nat) l, p[k]? = some l → l.length ≤ 20 from fun k l hk => (listE_zero.1 hl0 k l hk).1)
  rw [hE0] at C
  have hq' : (picks.length : Int) ≤ 200 := by omega
  obtain ⟨_, A, c, rfl, g1, g2, g3⟩ := hpk
  have G3 := Lib.hid g3
  unfold maxLen at g2
  obtain ⟨i0, hi, hz0, hz1, hz2⟩ := info_parts info_deed
  have HI := Lib.hid hi
  have HZ := Lib.hid (And.intro hz0 (And.intro hz1 hz2))
  have HW := Lib.hid h
  clear hE hE0 hcf hpn hl0 hi hz0 hz1 hz2 g3
  have low := Below.refl w.heap.size w
  have cb := boxNext low 23 #[.int .i64 n, .int .i64 s, .int .i64 y, .int .i64 b]
  replace low := gAlloc low (.cells #[.int .i64 n, .int .i64 s, .int .i64 y, .int .i64 b] 23)
  replace h := h.alloc (.cells #[.int .i64 n, .int .i64 s, .int .i64 y, .int .i64 b] 23)
  try simp only [World.size_alloc] at cb
  go_enter Try.func6, Try.ntmps6
  go_wp2_with fail
  (with_reducible refine (C.out _ h).mono ?_); rintro e w1 ⟨rfl, hb⟩
  replace low := gCall low hb
  clear hb
  clear h
  obtain ⟨w2, MK, ti, hb2⟩ := make_ints p.length (by omega) w1
  have zz := low.size
  have zt := hb2.size
  have ti := Lib.hid ti
  replace low := gCall low hb2
  clear hb2 C
  go_wp2_with fail
  clear MK
  go_loopw [10, 31] (fun mv i wr => ∃ k : Nat, k ≤ picks.length ∧ i = .int .i64 k ∧ Hid (wr.ownsRow w.heap.size 30 4 mv (mergeL p (picks.take k)).1.length (deedsC (mergeL p (picks.take k)).1)) ∧
      Hid (OwnI wr w1.heap.size (.slice (some ⟨w1.heap.size, 0, none⟩) p.length p.length) (mergeL p (picks.take k)).2) ∧ Below w.heap.size w wr) (fun _ i _ => picks.length - (intOf i).toNat)
  case atStart => exact ⟨0, Nat.zero_le _, rfl, Lib.hid (World.ownsRow_nil _ _ _ _), ti, low⟩
  case round =>
    clear ti low
    obtain ⟨i, hi, rfl, mr, ti, low⟩ := hrel
    by_cases hlt : i < picks.length
    · obtain ⟨bb, o, rfl, hb, hc⟩ := G3.out (by omega)
      have hx : picks[i]? = some picks[i] := List.getElem?_eq_getElem _
      generalize picks[i] = x at hx
      have cx := int_at hc hb low hx
      have good := mergeL_good p (picks.take i)
      have few := mergeL_few p picks i
      have NX := Lib.hid (mergeL_snoc (p := p) hx)
      generalize mergeL p (picks.take i) = S at *
      have i0' : (0 : Int) ≤ i := by omega
      have i1 : (i : Int) < picks.length := by omega
      clear hx hc
      have zr := low.size
      have TL := Lib.hid good.len
      rcases step_cases good x with ⟨hout, e⟩ | ⟨q, l, j, rfl, hp, hj, hjl, hst⟩
      · have NXT := Lib.hid (NX.out.trans e)
        have hbad : NextBad p S.2 x := by
          rcases hout with h | h
          · exact .inl h
          · exact .inr (.inl h)
        have NB := Lib.hid (N1.out (.slice (some ⟨w1.heap.size, 0, none⟩) p.length p.length) S.2 x wr (HW.out.call low) (by have := ti.out.sl; rwa [TL.out] at this ⊢) hbad)
        clear NX good hout e hbad
        go_wp2_with fail
        (with_reducible refine NB.out.mono ?_); rintro e w3 ⟨rfl, hb2⟩
        replace mr := Lib.hid (own_below (own_below mr.out hb2) (gAlloc (Below.refl _ _) (.cells #[.int .i64 0, .int .i64 0, .int .i64 0, .int .u64 0] 30)))
        replace ti := Lib.hid ((ti.out.call hb2).alloc (.cells #[.int .i64 0, .int .i64 0, .int .i64 0, .int .u64 0] 30))
        replace low := gAlloc (gCall low hb2) (.cells #[.int .i64 0, .int .i64 0, .int .i64 0, .int .u64 0] 30)
        clear hb2
        clear cx NB
        go_wp2_with fail
        go_roundw
        case rel => exact ⟨i + 1, by omega, by go_num, by rw [NXT.out]; exact mr, by rw [NXT.out]; exact ti, low⟩
        case measure => simp [intOf]; omega
      · have hl : S.2.length = p.length := good.len
        have NG := Lib.hid (N2.out (.slice (some ⟨w1.heap.size, 0, none⟩) p.length p.length) S.2 q (j : Int) l wr (HW.out.call low) (by have := ti.out.sl; rwa [TL.out] at this ⊢) hl hp hj (by omega))
        have HJ := Lib.hid hj
        rcases hst with ⟨e1, e⟩ | ⟨d, hd, e⟩
        · have NXT := Lib.hid (NX.out.trans e)
          have HD := Lib.hid (show l[j]? = none by rw [List.getElem?_eq_none]; omega)
          clear NX good e hp hj hl HJ
          go_wp2_with fail
          (with_reducible refine NG.out.mono ?_); rintro e w3 ⟨hnx, hb2⟩
          rcases hnx with ⟨_, rfl⟩ | ⟨j2, d, e2, hd, rfl⟩
          · replace mr := Lib.hid (own_below (own_below mr.out hb2) (gAlloc (Below.refl _ _) (.cells #[.int .i64 0, .int .i64 0, .int .i64 0, .int .u64 0] 30)))
            replace ti := Lib.hid ((ti.out.call hb2).alloc (.cells #[.int .i64 0, .int .i64 0, .int .i64 0, .int .u64 0] 30))
            replace low := gAlloc (gCall low hb2) (.cells #[.int .i64 0, .int .i64 0, .int .i64 0, .int .u64 0] 30)
            clear hb2
            clear cx NG
            go_wp2_with fail
            go_roundw
            case rel => exact ⟨i + 1, by omega, by go_num, by rw [NXT.out]; exact mr, by rw [NXT.out]; exact ti, low⟩
            case measure => simp [intOf]; omega
          · obtain rfl : j = j2 := by omega
            rw [HD.out] at hd
            cases hd
        · have NXT := Lib.hid (NX.out.trans e)
          have HD := Lib.hid hd
          have jl := (List.getElem?_eq_some_iff.1 hd).1
          have l20 := L20.out q l hp
          have hq8 : q < p.length := (List.getElem?_eq_some_iff.1 hp).1
          clear NX good e hp hj hl hd
          go_wp2_with fail
          (with_reducible refine NG.out.mono ?_); rintro e w3 ⟨hnx, hb2⟩
          rcases hnx with ⟨e2, _⟩ | ⟨j2, d2, e2, hd, rfl⟩
          · omega
          · obtain rfl : j = j2 := by omega
            rw [HD.out] at hd
            obtain rfl : d = d2 := by cases hd; rfl
            have db := Box.new w3 30 d.arr
            have z3 := hb2.size
            replace mr := Lib.hid (own_below (own_below mr.out hb2) (gAlloc (Below.refl _ _) (.cells d.arr 30)))
            replace ti := Lib.hid ((ti.out.call hb2).alloc (.cells d.arr 30))
            replace low := gAlloc (gCall low hb2) (.cells d.arr 30)
            clear hb2
            clear cx NG hd HD e2
            obtain ⟨As, cs, rfl⟩ := (Ds.of (Sl.ofOwn mr.out)).el.shape
            obtain ⟨dn, dk, da, dv⟩ := d
            have db_0 := db.at_ 0 rfl
            have db_1 := db.at_ 1 rfl
            have db_2 := db.at_ 2 rfl
            have db_3 := db.at_ 3 rfl
            go_wp2_with (at_builtin; refine wpList_append_own _ rfl _ _ 26 rfl w.heap.size 30 i0 (.agg #[.int .i64 0, .int .i64 0, .int .i64 0, .int .u64 0]) 4 32 Try.underlying26 HI.out HZ.out.1 HZ.out.2.1 HZ.out.2.2 rfl (by decide) _ _ _ rfl (own_below mr.out (gAlloc (Below.refl _ _) (.cells #[.int .i64 dn, .int .i64 dk, .int .i64 da, .int .u64 dv] 30))) ⟨w3.heap.size + 1, 0, none⟩ 1 1 [.int .i64 dn, .int .i64 dk, .int .i64 da, .int .u64 dv] rfl rfl ?c1 (deed_one ⟨dn, dk, da, dv⟩) ?c3 ?c4 ?c5 ?_)
            case c1 => exact fun q u hq => deed_new _ _ ⟨dn, dk, da, dv⟩ _ q u (by simp) hq
            case c3 => unfold maxLen; omega
            case c4 => omega
            case c5 => simp; omega
            intro v4 w4 own4 grow4 _
            clear db_0 db_1 db_2 db_3
            have hne := ti.out.ne (base := w.heap.size) mr.out (by decide)
            have ti4 := Lib.hid ((ti.out.alloc (.cells #[.int .i64 dn, .int .i64 dk, .int .i64 da, .int .u64 dv] 30)).grown grow4 hne)
            have low4 : Below w.heap.size w w4 := (gAlloc low (.cells #[.int .i64 dn, .int .i64 dk, .int .i64 da, .int .u64 dv] 30)).grown grow4 (by simp; omega) (fun g e => by have := mr.out.lt _ e; omega)
            have own4' := Lib.hid own4
            have ct := ti4.out.at_ HJ.out
            have ft := ti4.out.free q
            have M4 := Lib.hid (ti4.out.row_far own4 (by decide) q (.int .i64 ((j + 1 : Nat) : Int)))
            have T4 := Lib.hid (ti4.out.set q ((j + 1 : Nat) : Int))
            have L4 := Lib.hid (gSet low4 (p := ⟨w1.heap.size, q, none⟩) (by dsimp only; omega) (.int .i64 ((j + 1 : Nat) : Int)))
            clear own4 grow4 hne low ti mr db
            have q0 : (0 : Int) ≤ q := by omega
            have q1 : (q : Int) < p.length := by omega
            have j2 : (j : Int) < 200 := by omega
            go_wp2_with fail
            go_roundw
            case rel => exact ⟨i + 1, by omega, by go_num, by rw [NXT.out, List.length_append, List.length_singleton, deedsC_snoc]; exact M4, by rw [NXT.out]; exact T4, L4.out⟩
            case measure => simp [intOf]; omega
    · obtain rfl : i = picks.length := by omega
      rw [List.take_length] at mr ti
      go_wp2_with fail
      go_ret3
      exact ⟨⟨_, _, rfl, mr.out, _, zz, ti.out⟩, low⟩
end Go.Proofs.Ytckmcfpeemkdoaa
