/-
Proved: what count and checkLogs of package order return, for all logs that can be read; they change nothing that was there. Condition: no log has more than 2^47 observations.
-/
import Derived.Test.YtcegjehoejgofaaGreatOrderFns
namespace Go.Proofs.YtcegjehoejgofaaGreat
open Go.ChangeShapes Go.WideShapes Go.ChangeAt Go.RowKit Go.Joins
theorem totL_take {logs : List (List Td)} {j : Nat} {l : List Td} (h : logs[j]? = some l) : totL (logs.take (j + 1)) = totL (logs.take j) + l.length := by
 rw [List.take_add_one, h]
 simp [totL]
theorem totL_bound {B : Nat} : ∀ {logs : List (List Td)}, (∀ l ∈ logs, l.length ≤ B) → totL logs ≤ logs.length * B
 | [], _ => by simp [totL]
 | x :: r, h => by
  have ih := totL_bound (B := B) (logs := r) (fun l hl => h l (by simp [hl]))
  have hx := h x (by simp)
  have e : totL (x :: r) = x.length + totL r := by simp [totL]
  rw [e, List.length_cons, Nat.succ_mul]
  omega
set_option maxHeartbeats 1000000 in
theorem count_any (v : Value) (logs : List (List Td)) (w : World) (h : elT.RR w v logs) (h8 : logs.length ≤ 8) (hfew : ∀ l ∈ logs, l.length ≤ 140737488355328) :
  Calls Tryz.prog 65 #[v] w fun e w' => e = .returned (.int .i64 (totL logs)) ∧ Below w.heap.size w w' := by
 have BD := Lib.hid (fun j => totL_bound (B := 140737488355328) (logs := logs.take j) (fun l hl => hfew l (List.mem_of_mem_take hl)))
 obtain ⟨A, c, rfl, g1, g2, g3⟩ := h.ex
 have H3 := Lib.hid g3
 unfold maxLen at g2
 clear h g3
 have FEW := Lib.hid hfew
 clear hfew
 have low := Below.refl w.heap.size w
 go_enter Tryz.func65, Tryz.ntmps65
 go_wp2_with fail
 go_loopw [3, 8] (fun nv i wr => ∃ j : Nat, j ≤ logs.length ∧ i = .int .i64 j ∧ nv = .int .i64 (totL (logs.take j)) ∧ Below w.heap.size w wr) (fun _ i _ => logs.length - (intOf i).toNat)
 case atStart => exact ⟨0, Nat.zero_le _, rfl, rfl, low⟩
 case round =>
  clear low
  obtain ⟨j, hj, rfl, rfl, low⟩ := hrel
  by_cases hlt : j < logs.length
  ·obtain ⟨b, o, rfl, hb, hc⟩ := H3.out (by omega)
   have hx : logs[j]? = some logs[j] := List.getElem?_eq_getElem _
   generalize logs[j] = l at hx
   obtain ⟨A1, c1, ce, _⟩ := hc j l hx
   replace ce := (low.cell (p := ⟨b, o + j, none⟩) hb).trans ce
   have NT := Lib.hid (totL_take hx)
   have lb := FEW.out l (List.mem_of_getElem? hx)
   have tb : totL (logs.take j) ≤ 8 * 140737488355328 := Nat.le_trans (BD.out j) (Nat.mul_le_mul_right _ (by rw [List.length_take]; omega))
   generalize totL (logs.take j) = T at *
   have j0 : (0 : Int) ≤ j := by omega
   have j1 : (j : Int) < logs.length := by omega
   clear hx hc
   go_wp2_with fail
   go_roundw
   case rel => exact ⟨j + 1, by omega, by go_num, by rw [NT.out]; go_num, low⟩
   case measure => simp [intOf]; omega
  ·obtain rfl : j = logs.length := by omega
   rw [List.take_length]
   go_wp2_with fail
   go_ret
   exact ⟨rfl, low⟩
set_option maxHeartbeats 2000000 in
theorem checkLogs_any (v : Value) (logs : List (List Td)) (w : World) (h : elT.RR w v logs) (hfew : ∀ l ∈ logs, l.length ≤ 140737488355328) :
  Calls Tryz.prog 34 #[v] w fun e w' => e = .returned (.int .i64 (explE logs)) ∧ Below w.heap.size w w' := by
 have CN := Lib.hid fun w h h8 => count_any v logs w h h8 hfew
 have HL := Lib.hid h
 obtain ⟨A, c, rfl, g1, g2, g3⟩ := h.ex
 have H3 := Lib.hid g3
 unfold maxLen at g2
 clear h g3 hfew
 have low := Below.refl w.heap.size w
 by_cases h8 : 8 < logs.length
 ·have h8' : (8 : Int) < logs.length := by omega
  rw [show explE logs = 2 by unfold explE; rw [if_pos (.inl h8)]]
  go_enter Tryz.func34, Tryz.ntmps34
  go_wp2_with fail
  go_ret
  exact ⟨rfl, low⟩
 ·have h8' : ¬ (8 : Int) < logs.length := by omega
  have CT := Lib.hid (CN.out w HL.out (by omega))
  by_cases h12 : 12 < totL logs
  ·have h12' : (12 : Int) < totL logs := by omega
   rw [show explE logs = 2 by unfold explE; rw [if_pos (.inr h12)]]
   clear CN
   go_enter Tryz.func34, Tryz.ntmps34
   go_wp2_with fail
   (with_reducible refine CT.out.mono ?_); rintro e w2 ⟨rfl, hb⟩
   replace low := gCall low hb
   clear hb
   go_wp2_with fail
   go_ret
   exact ⟨rfl, low⟩
  ·have h12' : ¬ (12 : Int) < totL logs := by omega
   have EE := Lib.hid (show explE logs = logsE logs by unfold explE; rw [if_neg (by omega)])
   rw [EE.out]
   generalize hT : logsE logs = T
   have HT := Lib.hid hT
   clear CN EE hT
   go_enter Tryz.func34, Tryz.ntmps34
   go_wp2_with fail
   (with_reducible refine CT.out.mono ?_); rintro e w2 ⟨rfl, hb⟩
   replace low := gCall low hb
   clear hb CT
   go_wp2_with fail
   go_loopw [16] (fun i wr => ∃ j : Nat, j ≤ logs.length ∧ i = .int .i64 j ∧ Hid (logsE (logs.drop j) = T) ∧ Below w.heap.size w wr) (fun i _ => logs.length - (intOf i).toNat)
   case atStart => exact ⟨0, Nat.zero_le _, rfl, Lib.hid (by rw [List.drop_zero]; exact HT.out), low⟩
   case round =>
    clear low
    obtain ⟨j, hj, rfl, hs, low⟩ := hrel
    by_cases hlt : j < logs.length
    ·obtain ⟨b, o, rfl, hb, hc⟩ := H3.out (by omega)
     have hx : logs[j]? = some logs[j] := List.getElem?_eq_getElem _
     generalize logs[j] = l at hx
     obtain ⟨A1, c1, ce, ds⟩ := hc j l hx
     replace ce := (low.cell (p := ⟨b, o + j, none⟩) hb).trans ce
     have CD := Lib.hid (checkDeeds_any (.slice A1 l.length c1) l wr (ds.call low))
     have e := hs.out
     rw [logsE_at hx] at e
     have E := Lib.hid e
     generalize runE (l.map Td.d) = de at CD E
     have j0 : (0 : Int) ≤ j := by omega
     have j1 : (j : Int) < logs.length := by omega
     clear hx hc hs e ds
     go_wp2_with fail
     (with_reducible refine CD.out.mono ?_); rintro e w3 ⟨rfl, hb3⟩
     replace low := gCall low hb3
     clear hb3 CD
     by_cases h0 : de = 0
     ·subst h0
      have NX : Hid (logsE (logs.drop (j + 1)) = T) := Lib.hid (by
       have := E.out
       simpa using this)
      clear E
      go_wp2_with fail
      go_roundw
      case rel => exact ⟨j + 1, by omega, by go_num, NX, low⟩
      case measure => simp [intOf]; omega
     ·obtain rfl : de = T := by
       have := E.out
       simpa [h0] using this
      have h0' : (de != 0) = true := by simpa using h0
      clear h0 E
      go_wp2_with fail
      go_ret
      exact ⟨rfl, low⟩
    ·obtain rfl : j = logs.length := by omega
     obtain rfl : 0 = T := by
      have := hs.out
      rw [List.drop_length] at this
      exact this
     go_wp2_with fail
     go_ret
     exact ⟨rfl, low⟩
end Go.Proofs.YtcegjehoejgofaaGreat
