/-
Proved: words for copies of a line (a node and its way) and slices of them; what ownerOf and valueOf of package agree return, for every slice that can be read. No condition.
-/
import Derived.Test.YtmodajmjmdigfaaCache5
import Derived.Test.YtmodajmjmdigfaaBank
namespace Go.Proofs.Ytmodajmjmdigfaa
open Go.ChangeShapes Go.WideShapes Go.ChangeAt Go.RowKit Go.Joins

/-- The four words of a line. -/
structure L4 where
  a : Int
  b : Int
  c : Int
  d : Int
abbrev L4.val (x : L4) : Value := line x.a x.b x.c x.d
def eq4 (x y : L4) : Bool := x.a == y.a && (x.b == y.b && (x.c == y.c && x.d == y.d))
theorem eq4_iff {x y : L4} : eq4 x y = true ↔ x = y := by
  obtain ⟨a, b, c, d⟩ := x
  obtain ⟨a', b', c', d'⟩ := y
  simp [eq4]
theorem eq4_refl (x : L4) : eq4 x x = true := eq4_iff.2 rfl
theorem eqL4 (x y : L4) (w : World) : (Op.equalIn 10000 30 (line x.a x.b x.c x.d) (line y.a y.b y.c y.d)).run Try.prog w = .ok (eq4 x y) w := eqLine _ _ _ _ _ _ _ _ w
def Wy.dat (x : Wy) : L4 := ⟨x.a, x.b, x.c, x.d⟩
/-- A line of a memory. -/
def l4 (m : List Int) (k : Nat) : L4 := ⟨wd m (k * 4), wd m (k * 4 + 1), wd m (k * 4 + 2), wd m (k * 4 + 3)⟩

/-- A line in the cache of a node. -/
structure Cp where
  nd : Int
  x : Wy
def Cp.cells (c : Cp) : List Value := [.int .i64 c.nd, .int .i64 c.x.st, .int .i64 c.x.ln, .int .u64 c.x.a, .int .u64 c.x.b, .int .u64 c.x.c, .int .u64 c.x.d]
abbrev Cp.box (c : Cp) : Array Value := #[.int .i64 c.nd, .int .i64 c.x.st, .int .i64 c.x.ln, .int .u64 c.x.a, .int .u64 c.x.b, .int .u64 c.x.c, .int .u64 c.x.d]
def cpsC (l : List Cp) : List Value := l.flatMap Cp.cells

theorem cpsC_length (l : List Cp) : (cpsC l).length = l.length * 7 := by
  induction l with
  | nil => rfl
  | cons x r ih => simp only [cpsC, List.flatMap_cons, List.length_append, List.length_cons] at *; rw [ih]; simp [Cp.cells]; omega
theorem cpsC_at {l : List Cp} {k : Nat} {x : Cp} (h : l[k]? = some x) (j : Nat) (hj : j < 7) : (cpsC l)[k * 7 + j]? = x.cells[j]? := by
  induction l generalizing k with
  | nil => simp at h
  | cons y r ih =>
    have hy : y.cells.length = 7 := rfl
    simp only [cpsC, List.flatMap_cons] at *
    cases k with
    | zero =>
      simp at h
      subst h
      rw [List.getElem?_append_left (by omega)]
      simp
    | succ k =>
      rw [List.getElem?_append_right (by omega), hy]
      have : (k + 1) * 7 + j - 7 = k * 7 + j := by omega
      rw [this]
      exact ih (by simpa using h)
theorem cpsC_snoc (l : List Cp) (c : Cp) : cpsC (l ++ [c]) = cpsC l ++ c.cells := by simp [cpsC]

/-- The slice holds the copies. -/
structure Cps (w : World) (v : Value) (l : List Cp) : Prop where
  sl : Sl w w.heap.size 7 v l.length (cpsC l)
theorem Cps.call {w w' : World} {v : Value} {l : List Cp} (h : Cps w v l) (hb : Below w.heap.size w w') : Cps w' v l := ⟨Sl.call h.sl hb⟩
theorem Cps.alloc {w : World} {v : Value} {l : List Cp} (h : Cps w v l) (o : Obj) : Cps (w.alloc o) v l := h.call (gAlloc (Below.refl _ _) o)
theorem Cps.drew {w : World} {v : Value} {l : List Cp} (h : Cps w v l) : Cps w.drew v l := h.call (Below.refl _ _).drew
theorem Cps.nil (w : World) : Cps w (.slice none 0 0) [] := ⟨rfl, none, 0, rfl, Nat.le_refl _, Nat.zero_le _, fun h => absurd h (Nat.lt_irrefl 0)⟩

def CpAt (w : World) (b o : Nat) (c : Cp) : Prop :=
  w.cell? ⟨b, o, none⟩ = some (.int .i64 c.nd) ∧ w.cell? ⟨b, o + 1, none⟩ = some (.int .i64 c.x.st) ∧ w.cell? ⟨b, o + 2, none⟩ = some (.int .i64 c.x.ln) ∧
  w.cell? ⟨b, o + 3, none⟩ = some (.int .u64 c.x.a) ∧ w.cell? ⟨b, o + 4, none⟩ = some (.int .u64 c.x.b) ∧ w.cell? ⟨b, o + 5, none⟩ = some (.int .u64 c.x.c) ∧ w.cell? ⟨b, o + 6, none⟩ = some (.int .u64 c.x.d)

theorem cpAt_of {w w' : World} {b o B : Nat} {l : List Cp} {k : Nat} {x : Cp} (hc : ∀ j u, (cpsC l)[j]? = some u → w.cell? ⟨b, o + j, none⟩ = some u) (hb : b < B) (low : Below B w w') (h : l[k]? = some x) : CpAt w' b (o + k * 7) x := by
  have f : ∀ j u, j < 7 → x.cells[j]? = some u → w'.cell? ⟨b, o + k * 7 + j, none⟩ = some u := by
    intro j u hj hu
    refine (low.cell (p := ⟨b, o + k * 7 + j, none⟩) hb).trans ?_
    rw [Nat.add_assoc]
    exact hc _ _ ((cpsC_at h j hj).trans hu)
  exact ⟨f 0 _ (by omega) rfl, f 1 _ (by omega) rfl, f 2 _ (by omega) rfl, f 3 _ (by omega) rfl, f 4 _ (by omega) rfl, f 5 _ (by omega) rfl, f 6 _ (by omega) rfl⟩

/-- The node that owns the line, or -1; the line as every node would read it. -/
def ownN (l : List Cp) : Int := match l.find? (fun c => owB c.x.st) with | some c => c.nd | none => -1
def valL (l : List Cp) (d : L4) : L4 := match l with | [] => d | c :: _ => c.x.dat

theorem ownN_none {l : List Cp} (h : ∀ (j : Nat) c, l[j]? = some c → owB c.x.st = false) : ownN l = -1 := by
  have : l.find? (fun c => owB c.x.st) = none := by
    rw [List.find?_eq_none]
    intro c hc
    obtain ⟨k, hk, e⟩ := List.getElem_of_mem hc
    have := h k c (by rw [List.getElem?_eq_getElem hk, e])
    simp [this]
  rw [ownN, this]
theorem ownN_some {l : List Cp} {k : Nat} {c : Cp} (h : ∀ j y, j < k → l[j]? = some y → owB y.x.st = false) (hk : l[k]? = some c) (hp : owB c.x.st = true) : ownN l = c.nd := by
  have : l.find? (fun c => owB c.x.st) = some c := by
    rw [List.find?_eq_some_iff_getElem]
    obtain ⟨hlt, e⟩ := List.getElem?_eq_some_iff.1 hk
    refine ⟨hp, k, hlt, e, fun j hj => ?_⟩
    rw [h j _ hj (List.getElem?_eq_getElem (by omega))]
    decide
  rw [ownN, this]

set_option maxHeartbeats 1000000 in
theorem ownerOf_any (v : Value) (l : List Cp) (w : World) (h : Cps w v l) :
    Calls Try.prog 70 #[v] w fun e w' => e = .returned (.int .i64 (ownN l)) ∧ Below w.heap.size w w' := by
  obtain ⟨hl, A, c, rfl, h1, h2, h3⟩ := h
  have H3 := Lib.hid h3
  unfold maxLen at h2
  clear hl h3
  generalize hE : ownN l = E
  have HE := Lib.hid hE
  clear hE
  go_enter Try.func70, Try.ntmps70
  go_wp2_with fail
  go_loopw [7] (fun i wr => ∃ k : Nat, k ≤ l.length ∧ i = .int .i64 k ∧ Hid (∀ j x, j < k → l[j]? = some x → owB x.x.st = false) ∧ Below w.heap.size w wr) (fun i _ => l.length - (intOf i).toNat)
  case atStart => exact ⟨0, Nat.zero_le _, rfl, Lib.hid fun j x hj => absurd hj (by omega), Below.refl _ _⟩
  case round =>
    obtain ⟨k, hk, rfl, hno, low⟩ := hrel
    by_cases hlt : k < l.length
    · obtain ⟨bb, o, rfl, hb, hc⟩ := H3.out (by omega)
      have hx : l[k]? = some l[k] := List.getElem?_eq_getElem _
      generalize l[k] = x at hx
      obtain ⟨c0, c1, c2, c3, c4, c5, c6⟩ := cpAt_of hc hb low hx
      have HX := Lib.hid hx
      have OW := Lib.hid fun w => owns_any x.x.st w
      clear hx hc
      cases ho : owB x.x.st
      · rw [ho] at OW
        have HO := Lib.hid ho
        clear ho
        go_wp2_with fail
        (with_reducible refine (OW.out _).mono ?_); rintro e w2 ⟨rfl, rfl⟩
        go_wp2_with fail
        go_roundw
        case rel => exact ⟨k + 1, by omega, by go_num, Lib.hid fun j y hj hy => by
          by_cases e : j < k
          · exact hno.out j y e hy
          · obtain rfl : j = k := by omega
            rw [HX.out] at hy
            cases hy
            exact HO.out, gAlloc low _⟩
        case measure => simp [intOf]; omega
      · rw [ho] at OW
        obtain rfl : x.nd = E := (ownN_some hno.out HX.out ho).symm.trans HE.out
        clear ho
        go_wp2_with fail
        (with_reducible refine (OW.out _).mono ?_); rintro e w2 ⟨rfl, rfl⟩
        go_wp2_with fail
        go_ret
        exact ⟨rfl, gAlloc low _⟩
    · obtain rfl : -1 = E := (ownN_none (fun j c hj => hno.out j c (by have := (List.getElem?_eq_some_iff.1 hj).1; omega) hj)).symm.trans HE.out
      go_wp2_with fail
      go_ret
      exact ⟨rfl, low⟩

theorem valueOf_any (v : Value) (l : List Cp) (d : L4) (w : World) (h : Cps w v l) :
    Calls Try.prog 69 #[v, line d.a d.b d.c d.d] w fun e w' => e = .returned (line (valL l d).a (valL l d).b (valL l d).c (valL l d).d) ∧ Below w.heap.size w w' := by
  obtain ⟨hl, A, c, rfl, h1, h2, h3⟩ := h
  have low := Below.refl w.heap.size w
  cases l with
  | nil =>
    clear h3
    simp only [List.length_nil] at *
    go_enter Try.func69, Try.ntmps69
    go_wp2_with fail
    refine bodyPost_ret (v := line d.a d.b d.c d.d) (by simp [results, Try.results69, go_sem]) rfl ⟨rfl, ?_⟩
    exact gAlloc (gAlloc low _) _
  | cons x r =>
    obtain ⟨bb, o, rfl, hb, hc⟩ := h3 (by simp)
    obtain ⟨c0, c1, c2, c3, c4, c5, c6⟩ := cpAt_of hc hb low (k := 0) (x := x) rfl
    simp only [Nat.zero_mul, Nat.add_zero] at c0 c1 c2 c3 c4 c5 c6
    have hn : ((x :: r).length == 0) = false := by simp
    have hn1 : 0 < (x :: r).length := by simp
    generalize (x :: r).length = n at *
    clear hc hl h3
    show Calls _ _ _ _ fun e w' => e = .returned (line x.x.a x.x.b x.x.c x.x.d) ∧ _
    go_enter Try.func69, Try.ntmps69
    go_wp2_with fail
    refine bodyPost_ret (v := line x.x.a x.x.b x.x.c x.x.d) (by simp [results, Try.results69, go_sem]) rfl ⟨rfl, ?_⟩
    exact gAlloc (gAlloc low _) _
end Go.Proofs.Ytmodajmjmdigfaa
