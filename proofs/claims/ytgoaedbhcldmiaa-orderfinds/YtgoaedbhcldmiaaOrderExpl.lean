/-
Proved: the law 'OrderExplains' returns true for every argument, and changes nothing that was there. Conditions: what Explain of package order gives (handed in); no log has more than 2^47 observations.
-/
import Derived.Test.YtgoaedbhcldmiaaExplFacts
import Derived.Test.YtgoaedbhcldmiaaIntsEqual
namespace Go.Proofs.Ytgoaedbhcldmiaa.orderExplains
open Go.ChangeShapes Go.WideShapes Go.ChangeAt Go.RowKit Go.Joins

/-- The contract of Explain. -/
def ExplainIs : Prop := ∀ (m : List Int) (v : Value) (logs : List (List Td)) (w : World), m.length = 64 → (∀ l ∈ logs, l.length ≤ 140737488355328) → elT.RR w v logs →
  Calls Try.prog 11 #[memV m, v] w fun e w' => (∃ A n c B, e = .returned (.tuple #[.slice A n c, .bool B, .int .i64 (explE logs)]) ∧ ExplR m logs (explE logs) A n c B w') ∧ Below w.heap.size w w'

set_option maxRecDepth 10000 in
set_option maxHeartbeats 4000000 in
theorem walk_many (EXI : ExplainIs) (m : List Int) (v : Value) (logs : List (List Td)) (w : World) (hm : m.length = 64) (hfew : ∀ l ∈ logs, l.length ≤ 140737488355328) (h : elT.RR w v logs) (h8 : 8 < logs.length) :
    Calls Try.prog 4 #[memV m, v] w fun e w' => e = .returned (.bool true) ∧ Below w.heap.size w w' := by
  have EX := Lib.hid fun w h => EXI m v logs w hm hfew h
  have HL := Lib.hid h
  rw [show explE logs = 2 by unfold explE; rw [if_pos (.inl h8)]] at EX
  obtain ⟨A, c, rfl, g1, g2, g3⟩ := h.ex
  have H3 := Lib.hid g3
  unfold maxLen at g2
  have h8' : (8 : Int) < logs.length := by omega
  clear h g3
  have low := Below.refl w.heap.size w
  have mb := boxNext low 26 (memA m)
  replace low := gAlloc low (.cells (memA m) 26)
  try simp only [World.size_alloc] at mb
  have MB : Mb _ _ m := ⟨mb, hm⟩
  clear mb
  go_enter Try.func4, Try.ntmps4
  go_wp2_with ((with_reducible refine wp_loadMem (MB) ?_ ?_ ?_); rfl; rfl)
  (with_reducible refine (EX.out _ (HL.out.call low)).mono ?_); rintro e w1 ⟨⟨Ae, ne, ce, Be, rfl, ex⟩, hb⟩
  replace MB := MB.call hb
  replace low := gCall low hb
  have XR := Lib.hid ex
  clear ex hb EX
  go_wp2_with fail
  rcases XR.out with ⟨_, rfl, rfl⟩ | ⟨h, _⟩
  rotate_left
  · cases h
  clear XR
  go_loop [8, 25] (fun nv i => ∃ (k : Nat) (x : Int), k ≤ logs.length ∧ i = .int .i64 k ∧ nv = .int .i64 x) (fun _ i => logs.length - (intOf i).toNat)
  case atStart => exact ⟨0, 0, Nat.zero_le _, rfl, rfl⟩
  case round =>
    obtain ⟨k, x, hk, rfl, rfl⟩ := hrel
    by_cases hlt : k < logs.length
    · obtain ⟨b, o, rfl, hb, hc⟩ := H3.out (by omega)
      have hx : logs[k]? = some logs[k] := List.getElem?_eq_getElem _
      generalize logs[k] = l at hx
      obtain ⟨A1, c1, ce, _⟩ := hc k l hx
      replace ce := (low.cell (p := ⟨b, o + k, none⟩) hb).trans ce
      have k0 : (0 : Int) ≤ k := by omega
      have k1 : (k : Int) < logs.length := by omega
      clear hx hc
      go_wp2_with fail
      go_round
      case rel => exact ⟨k + 1, _, by omega, by go_num, rfl⟩
      case measure => simp [intOf]; omega
    · obtain rfl : k = logs.length := by omega
      go_wp2_with fail
      go_ret
      exact ⟨rfl, low⟩

set_option maxRecDepth 10000 in
set_option maxHeartbeats 8000000 in
theorem walk_few (EXI : ExplainIs) (m : List Int) (v : Value) (logs : List (List Td)) (w : World) (hm : m.length = 64) (hfew : ∀ l ∈ logs, l.length ≤ 140737488355328) (h : elT.RR w v logs) (h8 : logs.length ≤ 8) :
    Calls Try.prog 4 #[memV m, v] w fun e w' => e = .returned (.bool true) ∧ Below w.heap.size w w' := by
  have EX := Lib.hid fun w h => EXI m v logs w hm hfew h
  have HL := Lib.hid h
  have FEW := Lib.hid hfew
  have EE := Lib.hid (show explE logs = if 12 < totL logs then 2 else logsE logs by
    unfold explE
    by_cases h1 : 12 < totL logs
    · rw [if_pos (.inr h1), if_pos h1]
    · rw [if_neg (by omega), if_neg h1])
  generalize explE logs = E at *
  have TS := Lib.hid fun k l (h : logs[k]? = some l) => totL_succ h
  obtain ⟨A, c, rfl, g1, g2, g3⟩ := h.ex
  have H3 := Lib.hid g3
  unfold maxLen at g2
  have h8' : ¬ (8 : Int) < logs.length := by omega
  clear h g3 hfew
  have low := Below.refl w.heap.size w
  have mb := boxNext low 26 (memA m)
  replace low := gAlloc low (.cells (memA m) 26)
  try simp only [World.size_alloc] at mb
  have MB : Mb _ _ m := ⟨mb, hm⟩
  clear mb
  go_enter Try.func4, Try.ntmps4
  go_wp2_with ((with_reducible refine wp_loadMem (MB) ?_ ?_ ?_); rfl; rfl)
  (with_reducible refine (EX.out _ (HL.out.call low)).mono ?_); rintro e w1 ⟨⟨Ae, ne, ce, Be, rfl, ex⟩, hb⟩
  replace MB := MB.call hb
  replace low := gCall low hb
  have XR := Lib.hid ex
  clear ex hb EX
  go_wp2_with fail
  go_loop [8, 25] (fun nv i => ∃ k : Nat, k ≤ logs.length ∧ i = .int .i64 k ∧ nv = .int .i64 (totL (logs.take k) : Nat) ∧ totL (logs.take k) ≤ k * 140737488355328) (fun _ i => logs.length - (intOf i).toNat)
  case atStart => exact ⟨0, Nat.zero_le _, rfl, rfl, Nat.zero_le _⟩
  case round =>
    obtain ⟨k, hk, rfl, rfl, hs⟩ := hrel
    by_cases hlt : k < logs.length
    · obtain ⟨b, o, rfl, hb, hc⟩ := H3.out (by omega)
      have hx : logs[k]? = some logs[k] := List.getElem?_eq_getElem _
      generalize logs[k] = l at hx
      obtain ⟨A1, c1, ce, _⟩ := hc k l hx
      replace ce := (low.cell (p := ⟨b, o + k, none⟩) hb).trans ce
      have S := Lib.hid (TS.out k l hx)
      have lf := FEW.out l (List.mem_of_getElem? hx)
      have s2 : totL (logs.take (k + 1)) ≤ (k + 1) * 140737488355328 := by rw [S.out]; omega
      have s3 : (totL (logs.take k) : Int) + (l.length : Int) ≤ 1266637395197952 := by omega
      have s4 : (0 : Int) ≤ (totL (logs.take k) : Int) := by omega
      have k0 : (0 : Int) ≤ k := by omega
      have k1 : (k : Int) < logs.length := by omega
      have S2 := Lib.hid s2
      clear hx hc hs lf s2
      go_wp2_with fail
      go_round
      case rel => exact ⟨k + 1, by omega, by go_num, by rw [S.out]; go_num, S2.out⟩
      case measure => simp [intOf]; omega
    · obtain rfl : k = logs.length := by omega
      rw [List.take_length] at hs ⊢
      by_cases h12 : 12 < totL logs
      · have h12' : (12 : Int) < (totL logs : Int) := by omega
        have e2 : E = 2 := by rw [EE.out, if_pos h12]
        subst e2
        clear EE hs h12
        rcases XR.out with ⟨_, rfl, rfl⟩ | ⟨h, _⟩
        · clear XR
          go_wp2_with fail
          go_ret
          exact ⟨rfl, low⟩
        · exact absurd h (by decide)
      · have h12' : ¬ (12 : Int) < (totL logs : Int) := by omega
        replace EE := Lib.hid (EE.out.trans (if_neg h12))
        generalize hT : logsE logs = T at EE
        have HT := Lib.hid hT
        obtain rfl : E = T := EE.out
        have h12n : totL logs ≤ 12 := by omega
        clear hT hs h12 EE TS
        go_wp2_with fail
        go_loopw [54] (fun i wr => ∃ k : Nat, k ≤ logs.length ∧ i = .int .i64 k ∧ Hid (logsE (logs.drop k) = E) ∧ Below w1.heap.size w1 wr) (fun i _ => logs.length - (intOf i).toNat)
        case atStart => exact ⟨0, Nat.zero_le _, rfl, Lib.hid (by rw [List.drop_zero]; exact HT.out), Below.refl _ _⟩
        case round =>
          obtain ⟨k, hk2, rfl, hs, near⟩ := hrel
          by_cases hlt2 : k < logs.length
          · obtain ⟨b, o, rfl, hb, hc⟩ := H3.out (by omega)
            have hx : logs[k]? = some logs[k] := List.getElem?_eq_getElem _
            generalize logs[k] = l at hx
            obtain ⟨A1, c1, ce, rs⟩ := hc k l hx
            replace ce := ((gCall low near).cell (p := ⟨b, o + k, none⟩) hb).trans ce
            replace rs := rs.call (gCall low near)
            have e := hs.out
            rw [logsE_at hx] at e
            have EQ := Lib.hid e
            have lt := totL_in (List.mem_of_getElem? hx)
            have TF := Lib.hid (toldFault_any _ l 12 _ rs)
            rw [show toldE 12 l = runE (l.map Td.d) by unfold toldE; rw [if_neg (by omega)]] at TF
            generalize runE (l.map Td.d) = de at TF EQ
            have k0 : (0 : Int) ≤ k := by omega
            have k1 : (k : Int) < logs.length := by omega
            clear hx hc hs e lt rs
            go_wp2_with fail
            (with_reducible refine TF.out.mono ?_); rintro e w2 ⟨rfl, hb2⟩
            replace near := gCall near hb2
            clear hb2 ce TF
            by_cases h0 : de = 0
            · subst h0
              have NX : Hid (logsE (logs.drop (k + 1)) = E) := Lib.hid (by
                have := EQ.out
                simpa using this)
              clear EQ
              go_wp2_with fail
              go_roundw
              case rel => exact ⟨k + 1, by omega, by go_num, NX, near⟩
              case measure => simp [intOf]; omega
            · obtain rfl : de = E := by
                have := EQ.out
                simpa [h0] using this
              have h0' : (de != 0) = true := by simpa using h0
              replace low := gCall low near
              clear EQ
              rcases XR.out with ⟨_, rfl, rfl⟩ | ⟨h, _⟩
              · clear XR
                go_wp2_with fail
                go_ret
                exact ⟨rfl, low⟩
              · exact absurd h h0
          · obtain rfl : k = logs.length := by omega
            obtain rfl : 0 = E := by
              have := hs.out
              rw [List.drop_length] at this
              exact this
            rcases XR.out with ⟨h, _⟩ | ⟨_, rfl, rfl, sl⟩
            · exact absurd rfl h
            replace low := gCall low near
            by_cases h7 : 7 < totL logs
            · have h7' : (7 : Int) < (totL logs : Int) := by omega
              clear XR
              go_wp2_with fail
              go_ret
              exact ⟨rfl, low⟩
            · have h7' : ¬ (7 : Int) < (totL logs : Int) := by omega
              have OKS := logsE_zero.1 HT.out
              have SL := Lib.hid (sl.call near)
              have MB2 := MB.call near
              have RX := Lib.hid (explained_any m _ logs _ (HL.out.call low) hm (by omega) h12n OKS)
              rw [show explO logs (totL logs) m (List.replicate logs.length 0) = explR m logs from rfl] at RX
              clear XR near hs OKS sl MB
              generalize explR m logs = R at *
              simp only [natI_map] at SL RX
              generalize hr : (R.getD []).map (fun (k : Nat) => (k : Int)) = r at *
              generalize (R.getD []).length = q at *
              clear hr
              go_wp2_with ((with_reducible refine wp_loadMem (MB2) ?_ ?_ ?_); rfl; rfl)
              (with_reducible refine RX.out.mono ?_); rintro e w3 ⟨⟨u, rfl, own⟩, hb3⟩
              replace low := gCall low hb3
              have S1 := Lib.hid (SL.out.call hb3)
              have S2 := Lib.hid (Sl.ofOwn own)
              clear hb3 RX own SL MB2
              go_wp2_with fail
              (with_reducible refine (equalInts_yes _ _ q r _ S1.out S2.out).mono ?_); rintro e w4 ⟨rfl, hb4⟩
              replace low := gCall low hb4
              clear hb4 S1 S2
              go_wp2_with fail
              go_ret
              exact ⟨rfl, low⟩
end Go.Proofs.Ytgoaedbhcldmiaa.orderExplains
