/-
Proved: what the bound of the second form gives of a machine: how large its parts are. No condition.
-/
import Derived.Test.YtgdacpcifnpojaaGreatOwnMach
import Derived.Test.YtgdacpcifnpojaaGreatWoBulk
namespace Go.Proofs.YtgdacpcifnpojaaGreat
open Go.ChangeShapes Go.WideShapes Go.ChangeAt Go.RowKit Go.Joins
section
variable {H : Type} {enc : TypeId × Value → H} {W : World}
theorem ints_bulk {fuel : Nat} {A : Option Addr} {n c : Nat} {x : DataW H × List MemPlace} (h : DataW.trod enc Tryz.prog W 0 (fun _ => true) true fuel 35 [.slice A n c] = some x) : n + 1 ≤ Rows.uptoBulk x.1 := by
 rcases Go.Deep.open_slice Tryz.underlying35 h with ⟨e, rfl⟩ | ⟨a, len, cap, m, k, D, Pl, e, _, _, _, _, rfl, _⟩
 ·simp only [List.cons.injEq, and_true, Value.slice.injEq] at e
  obtain ⟨_, rfl, _⟩ := e
  exact bulk_one _
 ·simp only [List.cons.injEq, and_true, Value.slice.injEq] at e
  obtain ⟨_, rfl, _⟩ := e
  have := bulk_sum D (fun _ => 1) n fun i _ => bulk_one _
  simp only [Rows.uptoBulk]
  have e2 := ones n
  omega
theorem ring_bulk {fuel : Nat} {A : Option Addr} {n c : Nat} {x : DataW H × List MemPlace} (h : DataW.trod enc Tryz.prog W 0 (fun _ => true) true fuel 33 [.slice A n c] = some x) : n + 1 ≤ Rows.uptoBulk x.1 := by
 rcases Go.Deep.open_slice Tryz.underlying33 h with ⟨e, rfl⟩ | ⟨a, len, cap, m, k, D, Pl, e, _, _, _, _, rfl, _⟩
 ·simp only [List.cons.injEq, and_true, Value.slice.injEq] at e
  obtain ⟨_, rfl, _⟩ := e
  exact bulk_one _
 ·simp only [List.cons.injEq, and_true, Value.slice.injEq] at e
  obtain ⟨_, rfl, _⟩ := e
  have := bulk_sum D (fun _ => 1) n fun i _ => bulk_one _
  simp only [Rows.uptoBulk]
  have e2 := ones n
  omega
theorem deeds_bulk {fuel : Nat} {A : Option Addr} {n c : Nat} {x : DataW H × List MemPlace} (h : DataW.trod enc Tryz.prog W 0 (fun _ => true) true fuel 52 [.slice A n c] = some x) : n + 1 ≤ Rows.uptoBulk x.1 := by
 rcases Go.Deep.open_slice Tryz.underlying52 h with ⟨e, rfl⟩ | ⟨a, len, cap, m, k, D, Pl, e, _, _, _, _, rfl, _⟩
 ·simp only [List.cons.injEq, and_true, Value.slice.injEq] at e
  obtain ⟨_, rfl, _⟩ := e
  exact bulk_one _
 ·simp only [List.cons.injEq, and_true, Value.slice.injEq] at e
  obtain ⟨_, rfl, _⟩ := e
  have := bulk_sum D (fun _ => 1) n fun i _ => bulk_one _
  simp only [Rows.uptoBulk]
  have e2 := ones n
  omega
theorem progs_bulk {fuel : Nat} {v : Value} {pr : List (List Dd)} {x : DataW H × List MemPlace} (ps : Ps W v pr) (h : DataW.trod enc Tryz.prog W 0 (fun _ => true) true fuel 34 [v] = some x) : (pr.map fun l => l.length + 1).sum + 1 ≤ Rows.uptoBulk x.1 := by
 obtain ⟨A, cp, rfl, g1, g2, g3⟩ := ps
 rcases Go.Deep.open_slice Tryz.underlying34 h with ⟨e, rfl⟩ | ⟨a, len, cap, m, k, D, Pl, e, _, _, _, hm, rfl, hi⟩
 ·simp only [List.cons.injEq, and_true, Value.slice.injEq] at e
  obtain rfl : pr = [] := List.eq_nil_of_length_eq_zero e.2.1
  exact bulk_one _
 ·simp only [List.cons.injEq, and_true, Value.slice.injEq] at e
  obtain ⟨rfl, rfl, rfl⟩ := e
  have lm : pr.length ≤ m := by rw [hm]; split <;> omega
  have := bulk_sum D (fun i => (pr.getD i []).length + 1) pr.length fun i hlt => by
   obtain ⟨b, o, e, hb, lies⟩ := g3 (by omega)
   cases e
   have hx : pr[i]? = some pr[i] := List.getElem?_eq_getElem _
   obtain ⟨A', c', r0, _⟩ := lies i _ hx
   obtain ⟨cs', h1, h2⟩ := hi i (by omega)
   rw [cells_list] at h1
   obtain ⟨_, h3, h4⟩ := World.cells?_some h1
   have h5 := h4 0 (by omega)
   rw [add_at rfl, Nat.add_zero, Nat.mul_one, r0] at h5
   match cs', h3, h5 with
   | [c0], _, h5 =>
    simp only [List.getElem?_cons_zero, Option.some.injEq] at h5
    subst h5
    have := deeds_bulk h2
    simpa [List.getD, hx] using this
  rw [sum_index pr (fun l => l.length + 1) []]
  simp only [Rows.uptoBulk]
  omega
theorem sum_least : ∀ pr : List (List Dd), pr.length ≤ (pr.map fun l => l.length + 1).sum
 | [] => Nat.le_refl _
 | a :: r => by
  have := sum_least r
  simp only [List.map_cons, List.sum_cons, List.length_cons]
  omega
theorem mcL_world {n s y b : Int} {u : Value} {m : List Int} {rv pv av tv : Value} {h : Int} (hm : m.length = 64) : ((mcL n s y b u m rv pv av tv h).drop 4).take 65 = u :: m.map (Value.int .u64) := by
 unfold mcL
 rw [List.append_assoc]
 show (((u :: m.map (Value.int .u64)) ++ [rv, pv, av, tv, .int .i64 h]).take 65) = _
 exact List.take_left' (by simp [hm])
theorem mcL_late {n s y b : Int} {u : Value} {m : List Int} {rv pv av tv : Value} {h : Int} (hm : m.length = 64) (j : Nat) (x : Value) (hx : [rv, pv, av, tv, Value.int .i64 h][j]? = some x) : ((mcL n s y b u m rv pv av tv h).drop (69 + j)).take 1 = [x] := by
 have e := mcA_tail (n := n) (s := s) (y := y) (b := b) (u := u) (rv := rv) (pv := pv) (av := av) (tv := tv) (h := h) hm j
 unfold mcA at e
 rw [List.getElem?_toArray, hx] at e
 generalize mcL n s y b u m rv pv av tv h = l at e
 obtain ⟨hl, rfl⟩ := List.getElem?_eq_some_iff.1 e
 rw [List.drop_eq_getElem_cons hl]
 rfl
set_option maxRecDepth 10000 in
theorem mach_bulk {fuel : Nat} {v : Value} {M : Mc} {x : DataW H × List MemPlace} (h : MRead W v M) (ht : DataW.trod enc Tryz.prog W 0 (fun _ => true) true fuel 37 v.cells.toList = some x) (hb : Rows.uptoBulk x.1 ≤ 1048576) : FitM M := by
 have m64 := h.m64
 obtain ⟨A0, c0, A1, c1, A2, c2, A3, c3, A4, c4, rfl, k0, k1, k2, k3, k4⟩ := h.shape
 obtain ⟨xs, n, _, rfl, hl, hxl, hf⟩ := DataW.trod_struct Tryz.underlying37 ht
 have hf' : ∀ (i : Nat) (f : Field), _ → _ := fun i f hi => hf i f (by rw [← Array.getElem?_toList]; exact hi)
 have h1 := hf' 1 _ rfl
 have h2 := hf' 2 _ rfl
 have h3 := hf' 3 _ rfl
 have h4 := hf' 4 _ rfl
 have h5 := hf' 5 _ rfl
 dsimp only at h1 h2 h3 h4 h5
 have ec : (Value.agg (mcA M.n M.s M.y M.b (.slice A0 M.css.length c0) M.mem (.slice A1 M.ring.length c1) (.slice A2 M.pr.length c2) (.slice A3 M.at_.length c3) (.slice A4 M.wts.length c4) M.had)).cells.toList = mcL M.n M.s M.y M.b (.slice A0 M.css.length c0) M.mem (.slice A1 M.ring.length c1) (.slice A2 M.pr.length c2) (.slice A3 M.at_.length c3) (.slice A4 M.wts.length c4) M.had := rfl
 rw [ec] at h1 h2 h3 h4 h5
 rw [List.getElem?_eq_getElem (by simp at hxl; omega)] at h1 h2 h3 h4 h5
 rw [cells_world, mcL_world m64] at h1
 rw [cells_ringv, mcL_late m64 0 _ rfl] at h2
 rw [cells_progsv, mcL_late m64 1 _ rfl] at h3
 rw [cells_intsv, mcL_late m64 2 _ rfl] at h4
 rw [cells_intsv, mcL_late m64 3 _ rfl] at h5
 have part : ∀ (i : Nat) (hi : i < xs.length), Rows.uptoBulk xs[i].1 ≤ Rows.uptoBulkAll (xs.map (·.1)) := fun i hi => bulk_part (List.mem_map.2 ⟨_, List.getElem_mem _, rfl⟩)
 have b1 := world_bulk k0 h1
 have b2 := ring_bulk h2
 have b3 := progs_bulk k2 h3
 have b4 := ints_bulk h4
 have b5 := ints_bulk h5
 have p1 := part 1 (by simp at hxl; omega)
 have p2 := part 2 (by simp at hxl; omega)
 have p3 := part 3 (by simp at hxl; omega)
 have p4 := part 4 (by simp at hxl; omega)
 have p5 := part 5 (by simp at hxl; omega)
 simp only [Rows.uptoBulk] at hb
 have sp := sum_least M.pr
 refine ⟨⟨?_, fun j ss hj => ⟨?_, fun q t hq => ?_⟩⟩, by omega, by omega, by omega, by omega, fun k l hk => ?_⟩
 ·omega
 ·have := szC_length ss
  have := szW_at hj
  omega
 ·have := szC_at hq
  have := szW_at hj
  omega
 ·have := le_sum (l := M.pr.map fun l => l.length + 1) (List.mem_map.2 ⟨l, List.mem_of_getElem? hk, rfl⟩)
  omega
set_option maxRecDepth 10000 in
theorem openMB {base : Nat} {v : Value} {d : DataW H} {p : List MemPlace} (hv : Value.okWide Tryz.prog W .any base 37 v) (h : DataW.Trod enc Tryz.prog W 0 (fun _ => true) true 37 v d p) : ∃ M, MRead W v M ∧ (Rows.uptoBulk d ≤ 1048576 → FitM M) := by
 obtain ⟨M, hM, _⟩ := openMach hv h
 obtain ⟨k, ht⟩ := h
 exact ⟨M, hM, fun hb => mach_bulk hM ht hb⟩
end
end Go.Proofs.YtgdacpcifnpojaaGreat
