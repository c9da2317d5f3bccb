/-
Proved: what Explain of package order gives, for all logs that can be read; it changes nothing that was there. Condition: no log has more than 2^47 observations.
-/
import Derived.Test.YtcegjehoejgofaaGreatSearch
import Derived.Test.YtcegjehoejgofaaGreatOrderExpl
namespace Go.Proofs.YtcegjehoejgofaaGreat.orderExplains
open Go.ChangeShapes Go.WideShapes Go.ChangeAt Go.RowKit Go.Joins
set_option maxRecDepth 10000 in
set_option maxHeartbeats 4000000 in
theorem explain_is : ExplainIs := by
 intro m v logs w hm hfew h
 have CL := Lib.hid fun w h => checkLogs_any v logs w h hfew
 have HL := Lib.hid h
 obtain ⟨A, c, rfl⟩ := h.shape
 by_cases hE : explE logs = 0
 ·obtain ⟨l8, t12, le0⟩ := explE_right hE
  have SR := Lib.hid fun w h => search_any m (.slice A logs.length c) logs w hm h l8 t12 hfew (logsE_zero.1 le0)
  rw [hE] at CL ⊢
  clear h hfew hE le0 l8 t12
  have low := Below.refl w.heap.size w
  have mb := boxNext low 29 (memA m)
  replace low := gAlloc low (.cells (memA m) 29)
  try simp only [World.size_alloc] at mb
  have MB : Mb _ _ m := ⟨mb, hm⟩
  clear mb
  go_enter Tryz.func16, Tryz.ntmps16
  go_wp2_with fail
  (with_reducible refine (CL.out _ (HL.out.call low)).mono ?_); rintro e w1 ⟨rfl, hb⟩
  replace MB := MB.call hb
  replace low := gCall low hb
  clear hb CL
  go_wp2_with ((with_reducible refine wp_loadMem (MB) ?_ ?_ ?_); rfl; rfl)
  (with_reducible refine (SR.out _ (HL.out.call low)).mono ?_); rintro e w2 ⟨⟨A2, n2, c2, B2, rfl, fi⟩, hb⟩
  replace low := gCall low hb
  have FI := Lib.hid fi
  clear hb SR MB fi
  go_wp2_with fail
  go_ret3
  exact ⟨⟨_, _, _, _, rfl, .inr ⟨rfl, FI.out⟩⟩, low⟩
 ·generalize explE logs = E at *
  have hE' : (E != 0) = true := by simpa using hE
  have ER := Lib.hid hE
  clear h hfew hE
  have low := Below.refl w.heap.size w
  have mb := boxNext low 29 (memA m)
  replace low := gAlloc low (.cells (memA m) 29)
  try simp only [World.size_alloc] at mb
  clear mb
  go_enter Tryz.func16, Tryz.ntmps16
  go_wp2_with fail
  (with_reducible refine (CL.out _ (HL.out.call low)).mono ?_); rintro e w1 ⟨rfl, hb⟩
  replace low := gCall low hb
  clear hb CL
  go_wp2_with fail
  go_ret3
  exact ⟨⟨_, _, _, _, rfl, .inl ⟨ER.out, rfl, rfl⟩⟩, low⟩
end Go.Proofs.YtcegjehoejgofaaGreat.orderExplains
