/-
Proved: what Next, Merge and Split give, each in one form for every argument, as the law 'ProgTells' asks for them; its closure; the error that it gathers. No condition.
-/
import Derived.Test.YtckmcfpeemkdoaaProgMerge
import Derived.Test.YtckmcfpeemkdoaaProgSplit
namespace Go.Proofs.Ytckmcfpeemkdoaa.progTells
open Go.ChangeShapes Go.WideShapes Go.ChangeAt Go.RowKit Go.Joins

abbrev noD : Dd := ⟨0, 0, 0, 0⟩
/-- What Next gives. -/
def NextR (p : List (List Dd)) (xs : List Int) (node : Int) (d : Dd) (B : Bool) (E : Int) : Prop :=
  (NextBad p xs node ∧ d = noD ∧ B = false ∧ E = 4) ∨
  ∃ (k : Nat) (l : List Dd) (a : Int), node = k ∧ xs.length = p.length ∧ p[k]? = some l ∧ xs[k]? = some a ∧ 0 ≤ a ∧ E = 0 ∧
    (((l.length : Int) ≤ a ∧ d = noD ∧ B = false) ∨ ∃ j : Nat, a = j ∧ l[j]? = some d ∧ B = true)
theorem next_is (v av : Value) (p : List (List Dd)) (xs : List Int) (node : Int) (w : World) (h : Ps w v p) (ha : Sl w w.heap.size 1 av xs.length (xs.map (Value.int .i64))) :
    Calls Try.prog 5 #[v, av, .int .i64 node] w fun e w' => (∃ d B E, e = .returned (.tuple #[d.val, .bool B, .int .i64 E]) ∧ NextR p xs node d B E) ∧ Below w.heap.size w w' := by
  by_cases hbad : NextBad p xs node
  · refine (next_bad v av p xs node w h ha hbad).mono ?_
    rintro e w' ⟨rfl, hb⟩
    exact ⟨⟨noD, false, 4, rfl, .inl ⟨hbad, rfl, rfl, rfl⟩⟩, hb⟩
  · have h0 : 0 ≤ node := by
      rcases Int.lt_or_le node 0 with h | h
      · exact absurd (.inl h) hbad
      · exact h
    obtain ⟨k, rfl⟩ : ∃ k : Nat, node = k := ⟨node.toNat, by omega⟩
    have h1 : k < p.length := by
      rcases Nat.lt_or_ge k p.length with h | h
      · exact h
      · exact absurd (.inr (.inl (by omega))) hbad
    have h2 : xs.length = p.length := by
      by_cases h : xs.length = p.length
      · exact h
      · exact absurd (.inr (.inr (.inl h))) hbad
    have hp : p[k]? = some p[k] := List.getElem?_eq_getElem _
    generalize p[k] = l at hp
    have hx : xs[k]? = some (xs[k]'(by omega)) := List.getElem?_eq_getElem _
    generalize xs[k]'(by omega) = a at hx
    have h3 : 0 ≤ a := by
      rcases Int.lt_or_le a 0 with h | h
      · exact absurd (.inr (.inr (.inr ⟨a, by simpa using hx, h⟩))) hbad
      · exact h
    refine (next_good v av p xs k a l w h ha h2 hp hx h3).mono ?_
    rintro e w' ⟨h, hb⟩
    rcases h with ⟨h4, rfl⟩ | ⟨j, d, h4, h5, rfl⟩
    · exact ⟨⟨noD, false, 0, rfl, .inr ⟨k, l, a, rfl, h2, hp, hx, h3, rfl, .inl ⟨h4, rfl, rfl⟩⟩⟩, hb⟩
    · exact ⟨⟨d, true, 0, rfl, .inr ⟨k, l, a, rfl, h2, hp, hx, h3, rfl, .inr ⟨j, h4, h5, rfl⟩⟩⟩, hb⟩

/-- What Merge gives: E is its error. -/
def MergeR (p : List (List Dd)) (picks : List Int) (E : Int) (A : Option Addr) (m c : Nat) (A2 : Option Addr) (m2 c2 : Nat) (w : World) : Prop :=
  (E ≠ 0 ∧ m = 0 ∧ m2 = 0) ∨ (E = 0 ∧ m = (mergeL p picks).1.length ∧ m2 = (mergeL p picks).2.length ∧ Ds w (.slice A m c) (mergeL p picks).1 ∧
    Sl w w.heap.size 1 (.slice A2 m2 c2) m2 ((mergeL p picks).2.map (Value.int .i64)))
theorem MergeR.call {p : List (List Dd)} {picks : List Int} {E : Int} {A : Option Addr} {m c : Nat} {A2 : Option Addr} {m2 c2 : Nat} {w w' : World} (h : MergeR p picks E A m c A2 m2 c2 w) (hb : Below w.heap.size w w') : MergeR p picks E A m c A2 m2 c2 w' := by
  rcases h with h | ⟨h1, h2, h3, h4, h5⟩
  · exact .inl h
  · exact .inr ⟨h1, h2, h3, h4.call hb, h5.call hb⟩
theorem merge_is (n s y b : Int) (v pv : Value) (p : List (List Dd)) (picks : List Int) (w : World) (h : Ps w v p) (hpk : Sl w w.heap.size 1 pv picks.length (picks.map (Value.int .i64))) :
    Calls Try.prog 6 #[cfg n s y b, v, pv] w fun e w' => (∃ A m c A2 m2 c2, e = .returned (.tuple #[.slice A m c, .slice A2 m2 c2, .int .i64 (mergeE n s y b p picks.length)]) ∧
      MergeR p picks (mergeE n s y b p picks.length) A m c A2 m2 c2 w') ∧ Below w.heap.size w w' := by
  by_cases hE : mergeE n s y b p picks.length = 0
  · refine (merge_ok n s y b v pv p picks w h hpk hE).mono ?_
    rintro e w' ⟨⟨u, v', rfl, mg⟩, hb⟩
    obtain ⟨⟨A, c, rfl⟩, A2, c2, rfl⟩ := mg.shape
    rw [hE]
    exact ⟨⟨A, _, c, A2, _, c2, rfl, .inr ⟨rfl, rfl, rfl, mg.ds, mg.sl⟩⟩, hb⟩
  · obtain ⟨_, A, c, rfl, _⟩ := hpk
    refine (merge_bad n s y b v p A picks.length c w h hE).mono ?_
    rintro e w' ⟨rfl, hb⟩
    exact ⟨⟨none, 0, 0, none, 0, 0, rfl, .inl ⟨hE, rfl, rfl⟩⟩, hb⟩

/-- What Split gives: E is its error. -/
def SplitR (n : Int) (l : List Dd) (E : Int) (A : Option Addr) (m c : Nat) (w : World) : Prop := (E ≠ 0 ∧ m = 0) ∨ (E = 0 ∧ m = n.toNat ∧ Ps w (.slice A m c) (splitL n.toNat l))
theorem SplitR.call {n : Int} {l : List Dd} {E : Int} {A : Option Addr} {m c : Nat} {w w' : World} (h : SplitR n l E A m c w) (hb : Below w.heap.size w w') : SplitR n l E A m c w' := by
  rcases h with h | ⟨h1, h2, h3⟩
  · exact .inl h
  · exact .inr ⟨h1, h2, h3.call hb⟩
theorem splitE_bad {n s y b : Int} {l : List Dd} (h : cfgB n s y b = false ∨ 200 < l.length) : splitE n s y b l ≠ 0 := by
  unfold splitE
  by_cases h1 : cfgB n s y b = false
  · rw [if_pos h1]; decide
  · rw [if_neg h1, if_pos (h.resolve_left h1)]; decide
theorem split_is (n s y b : Int) (v : Value) (l : List Dd) (w : World) (h : Ds w v l) :
    Calls Try.prog 7 #[cfg n s y b, v] w fun e w' => (∃ A m c, e = .returned (.tuple #[.slice A m c, .int .i64 (splitE n s y b l)]) ∧ SplitR n l (splitE n s y b l) A m c w') ∧ Below w.heap.size w w' := by
  by_cases hbad : cfgB n s y b = false ∨ 200 < l.length
  · refine (split_bad n s y b v l w h hbad).mono ?_
    rintro e w' ⟨rfl, hb⟩
    exact ⟨⟨none, 0, 0, rfl, .inl ⟨splitE_bad hbad, rfl⟩⟩, hb⟩
  · have hB : cfgB n s y b = true := by
      cases h : cfgB n s y b
      · exact absurd (.inl h) hbad
      · rfl
    refine (split_any n s y b v l w h hB (by rcases Nat.lt_or_ge 200 l.length with h | h; exact absurd (.inr h) hbad; exact h)).mono ?_
    rintro e w' ⟨hs, hb⟩
    rcases hs with ⟨h1, rfl⟩ | ⟨h1, v, rfl, ps⟩
    · exact ⟨⟨none, 0, 0, rfl, .inl ⟨h1, rfl⟩⟩, hb⟩
    · obtain ⟨A, c, rfl⟩ := ps.shape
      rw [h1, splitL_length] at *
      exact ⟨⟨A, _, c, rfl, .inr ⟨rfl, rfl, ps⟩⟩, hb⟩

/-- The error that the law gathers. -/
def nextS (n b : Int) (d : Dd) : Int := if b ≠ 0 then b else if deedE d ≠ 0 then deedE d else if n ≤ d.nd then 4 else 0
def runS (n b : Int) (l : List Dd) : Int := l.foldl (nextS n) b
theorem runS_snoc {n b : Int} {l : List Dd} {j : Nat} {d : Dd} (h : l[j]? = some d) : runS n b (l.take (j + 1)) = nextS n (runS n b (l.take j)) d := by
  rw [List.take_add_one, h]
  simp [runS, List.foldl_append]
theorem runS_bad {n b : Int} (hb : b ≠ 0) : ∀ (l : List Dd), runS n b l = b
  | [] => rfl
  | d :: r => by
    have : nextS n b d = b := by unfold nextS; rw [if_pos hb]
    show runS n (nextS n b d) r = b
    rw [this, runS_bad hb r]
theorem runS_zero {n : Int} : ∀ (l : List Dd), runS n 0 l = errS n l
  | [] => rfl
  | d :: r => by
    show runS n (nextS n 0 d) r = errS n (d :: r)
    unfold nextS errS
    rw [if_neg (by decide)]
    by_cases h1 : deedE d ≠ 0
    · rw [if_pos h1, if_pos h1, runS_bad h1]
    · rw [if_neg h1, if_neg h1]
      by_cases h2 : n ≤ d.nd
      · rw [if_pos h2, if_pos h2, runS_bad (by decide)]
      · rw [if_neg h2, if_neg h2, runS_zero r]
theorem runS_all (n s y b : Int) (l : List Dd) : runS n (if cfgB n s y b = false then 4 else if 200 < l.length then 2 else 0) l = splitE n s y b l := by
  unfold splitE
  by_cases h1 : cfgB n s y b = false
  · rw [if_pos h1, if_pos h1, runS_bad (by decide)]
  · rw [if_neg h1, if_neg h1]
    by_cases h2 : 200 < l.length
    · rw [if_pos h2, if_pos h2, runS_bad (by decide)]
    · rw [if_neg h2, if_neg h2, runS_zero]

/-- The law's closure: another node's operation. -/
theorem notOn_any (k : Int) (g : Nat) (x : Dd) (w : World) (h : w.cell? ⟨g, 0, none⟩ = some (.int .i64 k)) :
    Calls Try.prog 16 #[x.val, .pointer (some ⟨g, 0, none⟩)] w fun e w' => e = .returned (.bool (x.nd != k)) ∧ Below w.heap.size w w' := by
  have hg := block_lt_of_cell h
  obtain ⟨xn, xk, xa, xv⟩ := x
  have low := Below.refl w.heap.size w
  have db := boxNext low 30 #[.int .i64 xn, .int .i64 xk, .int .i64 xa, .int .u64 xv]
  replace low := gAlloc low (.cells #[.int .i64 xn, .int .i64 xk, .int .i64 xa, .int .u64 xv] 30)
  try simp only [World.size_alloc] at db
  have hk := (gAlloc (Below.refl w.heap.size w) (.cells #[.int .i64 xn, .int .i64 xk, .int .i64 xa, .int .u64 xv] 30)).cell (p := ⟨g, 0, none⟩) hg |>.trans h
  go_enter Try.func16, Try.ntmps16
  have db_0 := db.at_ 0 rfl
  have db_1 := db.at_ 1 rfl
  have db_2 := db.at_ 2 rfl
  have db_3 := db.at_ 3 rfl
  go_wp2_with fail
  go_ret
  exact ⟨rfl, low⟩
end Go.Proofs.Ytckmcfpeemkdoaa.progTells
