/-
Proved: what the reference's Explained returns, for all logs without an error that can be read, at most twelve observations together; it changes nothing that was there. Conditions: the memory has 64 words, at most 200 logs, no observation has an error.
-/
import Derived.Test.YtgoaedbhcldmiaaRefOrder
import Derived.Laws.EntriesVeiled
namespace Go.Proofs.Ytgoaedbhcldmiaa
open Go.ChangeShapes Go.WideShapes Go.ChangeAt Go.RowKit Go.Joins

theorem own_more {w : World} {base base' size n : Nat} {e : TypeId} {v : Value} {xs : List Value} (h : w.ownsRow base' e size v n xs) (hb : base ≤ base') : w.ownsRow base e size v n xs := by
  refine ⟨h.1, ?_⟩
  rcases h.2 with h2 | ⟨g, cap, cur, e1, hg, r⟩
  · exact .inl h2
  · exact .inr ⟨g, cap, cur, e1, by omega, r⟩
/-- How many observations logs have. -/
def totL (logs : List (List Td)) : Nat := (logs.map List.length).sum
theorem totL_succ {logs : List (List Td)} {k : Nat} {l : List Td} (h : logs[k]? = some l) : totL (logs.take (k + 1)) = totL (logs.take k) + l.length := by
  unfold totL
  rw [List.take_add_one, h]
  simp
theorem totL_le (logs : List (List Td)) : ∀ k, totL (logs.take k) ≤ totL logs := by
  intro k
  have : totL logs = totL (logs.take k) + totL (logs.drop k) := by
    unfold totL
    rw [← List.sum_append, ← List.map_append, List.take_append_drop]
  omega
theorem make_at (n : Nat) (hn : n ≤ 200) (w : World) : (Instr.makeSlice 45 (.int .i64 n) (.int .i64 n)).run Try.prog w = .ok (.slice (some ⟨w.heap.size, 0, none⟩) n n) (w.alloc (.cells (atA (List.replicate n 0)) 3)) := by
  obtain ⟨i0, hi, hz0, hz1, hz2⟩ := info_parts info_int1
  have := run_make w 45 3 i0 (.int .i64 0) Try.underlying45 hi hz0 .i64 .i64 n n (by omega) (Int.le_refl _) (by rw [hz2]; omega) (by omega)
  rw [this, hz1]
  have e : madeCells (Value.int .i64 0).cells n = atA (List.replicate n 0) := by
    apply Array.ext_getElem?
    intro i
    simp [madeCells, atA, Value.cells]
    by_cases h : i < n <;> simp [h, Nat.mod_one]
  simp [e]

set_option maxRecDepth 10000 in
set_option maxHeartbeats 4000000 in
theorem explained_any (m : List Int) (v : Value) (logs : List (List Td)) (w : World) (h : elT.RR w v logs) (hm : m.length = 64) (hL : logs.length ≤ 200) (hT : totL logs ≤ 12) (hok : ∀ l ∈ logs, ∀ t ∈ l, deedE t.d = 0) :
    Calls Try.prog 12 #[memV m, v] w fun e w' =>
      (∃ u, e = .returned (.tuple #[u, .bool (explO logs (totL logs) m (List.replicate logs.length 0)).isSome]) ∧
        w'.ownsRow w.heap.size 3 1 u ((explO logs (totL logs) m (List.replicate logs.length 0)).getD []).length (((explO logs (totL logs) m (List.replicate logs.length 0)).getD []).map fun (k : Nat) => Value.int .i64 (k : Int))) ∧ Below w.heap.size w w' := by
  obtain ⟨A, c, rfl, h1, h2, h3⟩ := h.ex
  have H3 := Lib.hid h3
  have HH := Lib.hid h
  unfold maxLen at h2
  have MK := fun w => make_at logs.length hL w
  have hT' : (totL logs : Int) ≤ 12 := by omega
  have TT := Lib.hid (totL_le logs)
  have TS := Lib.hid fun k l (h : logs[k]? = some l) => totL_succ h
  have REC := Lib.hid fun gl ga gf g => explained_rec w logs A c gl ga gf g h hok
  clear h h3
  have low := Below.refl w.heap.size w
  have mb := boxNext low 26 (memA m)
  replace low := gAlloc low (.cells (memA m) 26)
  try simp only [World.size_alloc] at mb
  have lb := boxNext low 44 #[.slice A logs.length c]
  replace low := gAlloc low (.cells #[.slice A logs.length c] 44)
  replace mb := mb.alloc (.cells #[.slice A logs.length c] 44)
  try simp only [World.size_alloc] at lb
  have ib := boxNext low 3 (atA (List.replicate logs.length 0))
  replace low := gAlloc low (.cells (atA (List.replicate logs.length 0)) 3)
  replace mb := mb.alloc (.cells (atA (List.replicate logs.length 0)) 3)
  replace lb := lb.alloc (.cells (atA (List.replicate logs.length 0)) 3)
  try simp only [World.size_alloc] at ib
  have ab := boxNext low 45 #[.slice (some ⟨w.heap.size + 1 + 1, 0, none⟩) logs.length logs.length]
  replace low := gAlloc low (.cells #[.slice (some ⟨w.heap.size + 1 + 1, 0, none⟩) logs.length logs.length] 45)
  replace mb := mb.alloc (.cells #[.slice (some ⟨w.heap.size + 1 + 1, 0, none⟩) logs.length logs.length] 45)
  replace lb := lb.alloc (.cells #[.slice (some ⟨w.heap.size + 1 + 1, 0, none⟩) logs.length logs.length] 45)
  replace ib := ib.alloc (.cells #[.slice (some ⟨w.heap.size + 1 + 1, 0, none⟩) logs.length logs.length] 45)
  try simp only [World.size_alloc] at ab
  have MB : Mb _ w.heap.size m := ⟨mb, hm⟩
  clear mb
  go_enter Try.func12, Try.ntmps12
  have lb_0 := lb.at_ 0 rfl
  go_wp2_with (first | (with_reducible refine wp_newMem ?_))
  clear lb_0
  clear MK
  go_loop [7, 16] (fun nv i => ∃ k : Nat, k ≤ logs.length ∧ i = .int .i64 k ∧ nv = .int .i64 (totL (logs.take k) : Nat)) (fun _ i => logs.length - (intOf i).toNat)
  case atStart => exact ⟨0, Nat.zero_le _, rfl, rfl⟩
  case round =>
    obtain ⟨k, hk, rfl, rfl⟩ := hrel
    by_cases hlt : k < logs.length
    · obtain ⟨b, o, rfl, hb, hc⟩ := H3.out (by omega)
      have hx : logs[k]? = some logs[k] := List.getElem?_eq_getElem _
      generalize logs[k] = l at hx
      obtain ⟨A1, c1, ce, _⟩ := hc k l hx
      replace ce := (low.cell (p := ⟨b, o + k, none⟩) hb).trans ce
      have E := Lib.hid (TS.out k l hx)
      have t1 := TT.out (k + 1)
      have t2 : totL (logs.take k) + l.length ≤ 12 := by rw [← E.out]; omega
      have k0 : (0 : Int) ≤ k := by omega
      have k1 : (k : Int) < logs.length := by omega
      have t3 : (totL (logs.take k) : Int) + (l.length : Int) ≤ 12 := by omega
      have t4 : (0 : Int) ≤ (totL (logs.take k) : Int) := by omega
      clear hx hc t1
      go_wp2_with fail
      go_round
      case rel => exact ⟨k + 1, by omega, by go_num, by rw [E.out]; go_num⟩
      case measure => simp [intOf]; omega
    · obtain rfl : k = logs.length := by omega
      rw [List.take_length]
      have fb := boxNext low 64 #[recF (w.heap.size + 1) (w.heap.size + 1 + 1 + 1) (w.heap.size + 1 + 1 + 1 + 1)]
      replace low := gAlloc low (.cells #[recF (w.heap.size + 1) (w.heap.size + 1 + 1 + 1) (w.heap.size + 1 + 1 + 1 + 1)] 64)
      replace MB := MB.alloc (.cells #[recF (w.heap.size + 1) (w.heap.size + 1 + 1 + 1) (w.heap.size + 1 + 1 + 1 + 1)] 64)
      replace lb := lb.alloc (.cells #[recF (w.heap.size + 1) (w.heap.size + 1 + 1 + 1) (w.heap.size + 1 + 1 + 1 + 1)] 64)
      replace ib := ib.alloc (.cells #[recF (w.heap.size + 1) (w.heap.size + 1 + 1 + 1) (w.heap.size + 1 + 1 + 1 + 1)] 64)
      replace ab := ab.alloc (.cells #[recF (w.heap.size + 1) (w.heap.size + 1 + 1 + 1) (w.heap.size + 1 + 1 + 1 + 1)] 64)
      simp only [World.size_alloc] at fb
      have st : Stand w _ logs A c (w.heap.size + 1) (w.heap.size + 1 + 1 + 1) (w.heap.size + 1 + 1 + 1 + 1) (w.heap.size + 1 + 1) (List.replicate logs.length 0) := ⟨low, lb, ab, fb, ib, by omega⟩
      have CALL := Lib.hid (REC.out _ _ _ _ (totL logs) (totL logs : Nat) m (List.replicate logs.length 0) _ rfl hm hT (by simp) (fun k l j _ hj => by
        rw [List.getElem?_replicate] at hj
        split at hj
        · cases hj; omega
        · cases hj) st)
      clear REC st
      have fb0 : World.cell? _ ⟨w.heap.size + 1 + 1 + 1 + 1, 0, none⟩ = some (recF (w.heap.size + 1) (w.heap.size + 1 + 1 + 1) (w.heap.size + 1 + 1 + 1 + 1)) := fb.at_ 0 rfl
      go_wp2_with (first | ((with_reducible refine wp_loadMem (MB) ?_ ?_ ?_); rfl; rfl))
      (with_reducible refine CALL.out.mono ?_); rintro e w2 ⟨⟨u, rfl, own⟩, hb⟩
      replace low := gCall low hb
      have OWN := Lib.hid own
      have lz := Lib.hid (show w.heap.size ≤ _ from low.size)
      clear hb own CALL MB lb ib ab fb fb0
      have O2 := Lib.hid (own_more OWN.out (base := w.heap.size) (by simp only [World.size_alloc]; omega))
      clear OWN lz
      go_wp2_with fail
      go_ret2
      exact ⟨⟨_, rfl, O2.out⟩, low⟩
end Go.Proofs.Ytgoaedbhcldmiaa
