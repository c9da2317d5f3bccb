/-
Proved: what Same of package bank and slices.Equal on ints return; '==' on memories; an argument that is a memory. No condition.
-/
import Derived.Test.YticagdfdbakbfaaBank
import Derived.Deep.RegionHeld3
namespace Go.Proofs.Yticagdfdbakbfaa
open Go.ChangeShapes Go.WideShapes Go.ChangeAt Go.RowKit Go.Joins

def IsMem (v : Value) : Prop := ∃ l, v = memV l ∧ l.length = 64

theorem words_of : ∀ {n : Nat} {cs : List Value}, AllOk (List.replicate n (.int .u64)) cs → ∃ l : List Int, cs = l.map (Value.int .u64) ∧ l.length = n
  | 0, [], _ => ⟨[], rfl, rfl⟩
  | 0, _ :: _, h => h.elim
  | n + 1, [], h => h.elim
  | n + 1, c :: cs, h => by
    obtain ⟨⟨a, rfl, _⟩, h2⟩ := h
    obtain ⟨l, rfl, hl⟩ := words_of h2
    exact ⟨a :: l, rfl, by simp [hl]⟩

section
variable {H : Type} {enc : TypeId × Value → H} {W : World} {base : Nat} {v : Value} {d : DataW H} {p : List MemPlace}
set_option maxRecDepth 10000 in
theorem openMem (hv : Value.okWide Try.prog W .any base 26 v) (h : DataW.Trod enc Try.prog W 0 (fun _ => true) true 26 v d p) : IsMem v := by
  obtain ⟨cs, rfl, hk⟩ := flat_value (n := 3) (ks := List.replicate 64 (.int .u64)) (by kernel_rfl) (.inr ⟨_, _, Try.underlying26⟩) hv h
  obtain ⟨l, rfl, hl⟩ := words_of hk
  exact ⟨l, rfl, hl⟩
end

/-- Two memories are the same. -/
def sameM (l m : List Int) : Bool := decide (l = m)

theorem eqCells_words : ∀ (l m : List Int), l.length = m.length → eqCells (l.map (Value.int .u64)) (m.map (Value.int .u64)) = sameM l m
  | [], [], _ => rfl
  | [], _ :: _, h => by cases h
  | _ :: _, [], h => by cases h
  | a :: l, b :: m, h => by
    have ih := eqCells_words l m (by simpa using h)
    simp only [List.map_cons, eqCells, scEq, ih, sameM]
    rw [Bool.eq_iff_iff]
    simp

theorem allK_words : ∀ (l : List Int), AllK (List.replicate l.length (.int .u64)) (l.map (Value.int .u64))
  | [] => trivial
  | a :: l => ⟨⟨a, rfl⟩, allK_words l⟩

/-- '==' on memories. -/
theorem eqMem (l m : List Int) (hl : l.length = 64) (hm : m.length = 64) (w : World) : (Op.equalIn 10000 26 (memV l) (memV m)).run Try.prog w = .ok (sameM l m) w := by
  have al := allK_words l
  have am := allK_words m
  rw [hl] at al
  rw [hm] at am
  have := equal_flat (P := Try.prog) 3 26 (List.replicate 64 (.int .u64)) (by kernel_rfl) (by kernel_rfl) 10000 (by omega) w _ _ (memV l) (memV m) al am (by simp [ValIs, Try.underlying26, memA]) (by simp [ValIs, Try.underlying26, memA])
  rwa [eqCells_words l m (by rw [hl, hm])] at this

/-- The addresses below k at which two memories differ. -/
def diffL (l m : List Int) : Nat → List Int
  | 0 => []
  | k + 1 => if wd l k = wd m k then diffL l m k else diffL l m k ++ [(k : Int)]

theorem diffL_length (l m : List Int) : ∀ k, (diffL l m k).length ≤ k
  | 0 => Nat.le_refl _
  | k + 1 => by
    have := diffL_length l m k
    unfold diffL
    split <;> simp <;> omega

theorem info_int : (Try.prog.info? 3).map (fun i => (i.zero, i.size, i.bytes)) = some (some (.int .i64 0), 1, 8) := by kernel_rfl

/-- Two slices that hold the same ints. -/
theorem equalInts_yes (v v' : Value) (n : Nat) (xs : List Int) (w : World) (h : Sl w w.heap.size 1 v n (xs.map (Value.int .i64))) (h' : Sl w w.heap.size 1 v' n (xs.map (Value.int .i64))) :
    Calls Try.prog 10 #[v, v'] w fun e w' => e = .returned (.bool true) ∧ Below w.heap.size w w' := by
  obtain ⟨hl, A, c, rfl, h1, h2, h3⟩ := h
  obtain ⟨hl', A', c', rfl, h1', h2', h3'⟩ := h'
  simp only [List.length_map, Nat.mul_one] at hl
  have HL := Lib.hid hl
  have H3 := Lib.hid h3
  have H3' := Lib.hid h3'
  unfold maxLen at h2
  clear hl h3 hl' h3' h2'
  go_enter Try.func10, Try.ntmps10
  go_wp2_with fail
  go_loopw [13] (fun i wr => ∃ k : Nat, k ≤ n ∧ i = .int .i64 k ∧ Below w.heap.size w wr) (fun i _ => n - (intOf i).toNat)
  case atStart => exact ⟨0, Nat.zero_le _, rfl, Below.refl _ _⟩
  case round =>
    obtain ⟨k, hk, rfl, low⟩ := hrel
    by_cases hlt : k < n
    · obtain ⟨b, o, rfl, hb, hc⟩ := H3.out (by omega)
      obtain ⟨b', o', rfl, hb', hc'⟩ := H3'.out (by omega)
      have hx : xs[k]? = some (xs[k]'(by have := HL.out; omega)) := List.getElem?_eq_getElem _
      generalize xs[k]'(by have := HL.out; omega) = x at hx
      have e1 : wr.cell? ⟨b, o + k, none⟩ = some (.int .i64 x) := (low.cell (p := ⟨b, o + k, none⟩) hb).trans (hc k _ (by rw [List.getElem?_map, hx]; rfl))
      have e2 : wr.cell? ⟨b', o' + k, none⟩ = some (.int .i64 x) := (low.cell (p := ⟨b', o' + k, none⟩) hb').trans (hc' k _ (by rw [List.getElem?_map, hx]; rfl))
      clear hx hc hc'
      go_wp2_with fail
      go_quiet (fail)
      go_wp2_with fail
      go_roundw
      case rel => exact ⟨k + 1, by omega, by go_num, gDrewN low _⟩
      case measure => simp [intOf]; omega
    · go_wp2_with fail
      go_ret
      exact ⟨rfl, low⟩

/-- One word of Same. -/
theorem diffL_same {l m : List Int} {k : Nat} (h : wd l k = wd m k) : diffL l m (k + 1) = diffL l m k := if_pos h
theorem diffL_other {l m : List Int} {k : Nat} (h : wd l k ≠ wd m k) : diffL l m (k + 1) = diffL l m k ++ [(k : Int)] := if_neg h

set_option maxHeartbeats 2000000 in
theorem bankSame_any (l m : List Int) (hl : l.length = 64) (hm : m.length = 64) (w : World) :
    Calls Try.prog 11 #[memV l, memV m] w fun e w' => (∃ v, e = .returned v ∧ Sl w' w'.heap.size 1 v (diffL l m 64).length ((diffL l m 64).map (Value.int .i64))) ∧ Below w.heap.size w w' := by
  obtain ⟨i0, hi, hz0, hz1, hz2⟩ := info_parts info_int
  have HI := Lib.hid hi
  have HZ := Lib.hid (And.intro hz0 (And.intro hz1 hz2))
  clear hi hz0 hz1 hz2
  have HL := Lib.hid hl
  have HM := Lib.hid hm
  clear hl hm
  have low := Below.refl w.heap.size w
  have mb := boxNext low 26 (memA l)
  replace low := gAlloc low (.cells (memA l) 26)
  try simp only [World.size_alloc] at mb
  have nb := boxNext low 26 (memA m)
  replace low := gAlloc low (.cells (memA m) 26)
  replace mb := mb.alloc (.cells (memA m) 26)
  try simp only [World.size_alloc] at nb
  go_enter Try.func11, Try.ntmps11
  go_wp2_with fail
  go_loopw [5, 8] (fun s i wr => ∃ q : Nat, q ≤ 16 ∧ i = .int .i64 q ∧ wr.ownsRow (w.heap.size + 2) 3 1 s (diffL l m (q * 4)).length ((diffL l m (q * 4)).map (Value.int .i64)) ∧ Box wr w.heap.size 26 (memA l) ∧ Box wr (w.heap.size + 1) 26 (memA m) ∧ Below w.heap.size w wr) (fun _ i _ => 16 - (intOf i).toNat)
  case atStart => exact ⟨0, by omega, rfl, World.ownsRow_nil _ _ _ _, mb, nb, low⟩
  case round =>
    clear mb nb low
    obtain ⟨q, hq, rfl, own, mb, nb, low⟩ := hrel
    by_cases hlt : q < 16
    · have hqi : (q : Int) < 16 := by omega
      have hq0 : (0 : Int) ≤ q := by omega
      have OWN := Lib.hid own
      clear own
      go_wp2_with fail
      go_loopw [5, 11] (fun s i wr => ∃ r : Nat, r ≤ 4 ∧ i = .int .i64 r ∧ wr.ownsRow (w.heap.size + 2) 3 1 s (diffL l m (q * 4 + r)).length ((diffL l m (q * 4 + r)).map (Value.int .i64)) ∧ Box wr w.heap.size 26 (memA l) ∧ Box wr (w.heap.size + 1) 26 (memA m) ∧ Below w.heap.size w wr) (fun _ i _ => 4 - (intOf i).toNat)
      case atStart => exact ⟨0, by omega, rfl, OWN.out, mb, nb, low⟩
      case round =>
        clear mb nb low OWN
        obtain ⟨r, hr, rfl, own, mb, nb, low⟩ := hrel
        by_cases hlt2 : r < 4
        · have hri : (r : Int) < 4 := by omega
          have hr0 : (0 : Int) ≤ r := by omega
          have c0 := mb.at_ (q * 4 + r) (memA_at (l := l) (q * 4 + r) (by have := HL.out; omega))
          have c1 := nb.at_ (q * 4 + r) (memA_at (l := m) (q * 4 + r) (by have := HM.out; omega))
          have hlen := diffL_length l m (q * 4 + r)
          have OWN := Lib.hid own
          clear own
          by_cases he : wd l (q * 4 + r) = wd m (q * 4 + r)
          · have E := Lib.hid (diffL_same he)
            have he' : (wd l (q * 4 + r) != wd m (q * 4 + r)) = false := by simpa using he
            clear he
            go_wp2_with fail
            go_quiet (fail)
            go_wp2_with fail
            go_roundw
            case rel => exact ⟨r + 1, by omega, by go_num, by rw [← Nat.add_assoc, E.out]; exact OWN.out, mb.drewN _, nb.drewN _, gDrewN low _⟩
            case measure => simp [intOf]; omega
          · have E := Lib.hid (diffL_other he)
            have he' : (wd l (q * 4 + r) != wd m (q * 4 + r)) = true := by simpa using he
            clear he
            go_wp2_with fail
            go_quiet (fail)
            replace OWN := Lib.hid (show (wr.drewN nq).ownsRow _ _ _ _ _ _ from OWN.out)
            replace mb := mb.drewN nq
            replace nb := nb.drewN nq
            replace low := gDrewN low nq
            clear c0 c1
            generalize wr.drewN nq = wx at *
            have hv : ((q : Int) * 4 + r) = ((q * 4 + r : Nat) : Int) := by omega
            have HV := Lib.hid hv
            clear hv
            go_wp2_with (at_builtin; refine wpList_append_own _ rfl _ _ 35 rfl (w.heap.size + 2) 3 i0 (.int .i64 0) 1 8 Try.underlying35 HI.out HZ.out.1 HZ.out.2.1 HZ.out.2.2 rfl (by decide) _ _ _ rfl (OWN.out.alloc _) ⟨wx.heap.size, 0, none⟩ 1 1 [.int .i64 ((q : Int) * 4 + r)] rfl rfl ?c1 ?c2 ?c3 ?c4 ?c5 ?_)
            case c1 =>
              intro j u hj
              match j, hj with
              | 0, hj => simp at hj; subst hj; simp [Addr.add]
            case c2 => intro u hu; simp at hu; subst hu; rfl
            case c3 => unfold maxLen; omega
            case c4 => omega
            case c5 => have := nb.lt; simp; omega
            intro v4 w4 own4 grow4 _
            have mb4 := (mb.alloc (.cells #[.int .i64 ((q : Int) * 4 + r)] 3)).grown grow4 (fun e => by have := OWN.out.lt _ e.symm; omega)
            have nb4 := (nb.alloc (.cells #[.int .i64 ((q : Int) * 4 + r)] 3)).grown grow4 (fun e => by have := OWN.out.lt _ e.symm; omega)
            have low4 : Below w.heap.size w w4 := (gAlloc low _).grown grow4 (by have := nb.lt; simp; omega) (fun g e => by have := OWN.out.lt _ e; omega)
            have O4 := Lib.hid own4
            clear grow4 own4 OWN mb nb low
            go_wp2_with fail
            go_roundw
            case rel =>
              refine ⟨r + 1, by omega, by go_num, ?_, mb4, nb4, low4⟩
              have := O4.out
              rw [HV.out] at this
              rw [← Nat.add_assoc, E.out, List.map_append, List.length_append]
              exact this
            case measure => simp [intOf]; omega
        · obtain rfl : r = 4 := by omega
          go_wp2_with fail
          go_roundw
          case rel => exact ⟨q + 1, by omega, by go_num, by rw [Nat.succ_mul]; exact own, mb, nb, low⟩
          case measure => simp [intOf]; omega
    · obtain rfl : q = 16 := by omega
      go_wp2_with fail
      go_ret
      exact ⟨⟨_, rfl, Sl.ofOwn own⟩, low⟩
end Go.Proofs.Yticagdfdbakbfaa
