/-
Proved: what Step and Run of package machine give, in one form for every case. No walk. No condition.
-/
import Derived.Test.YtcegjehoejgofaaGreatJoined8
import Derived.Test.YtcegjehoejgofaaGreatJoined6
namespace Go.Proofs.YtcegjehoejgofaaGreat
open Go.ChangeShapes Go.WideShapes Go.ChangeAt Go.RowKit Go.Joins

theorem arr_read {w : World} {v : Value} {M : Mc} (h : MRead w v M) : ∃ XA : Array Value, v = .agg XA ∧ XA.size = mc0A.size ∧ XA.all (·.oneCell') = true := by
  have m64 := h.m64
  obtain ⟨A0, c0, A1, c1, A2, c2, A3, c3, A4, c4, rfl, _⟩ := h.shape
  exact ⟨_, rfl, by rw [mcA_size m64, mcA_size zeroL_length], mcA_one⟩
def noMc : Mc := ⟨0, 0, 0, 0, [], zeroL, [], [], [], [], 0⟩
theorem noMc_read (w : World) : MRead w mc0 noMc := by
  refine ⟨zeroL_length, _, _, _, _, _, rfl, ?_, ?_, ?_, ?_, ?_⟩
  · exact ⟨none, 0, rfl, Nat.le_refl _, Nat.zero_le _, fun h => absurd h (Nat.lt_irrefl 0)⟩
  · exact ⟨rfl, none, 0, rfl, Nat.le_refl _, Nat.zero_le _, fun h => absurd h (Nat.lt_irrefl 0)⟩
  · exact ⟨none, 0, rfl, Nat.le_refl _, Nat.zero_le _, fun h => absurd h (Nat.lt_irrefl 0)⟩
  · exact sl_nil w
  · exact sl_nil w
/-- What a call gives, in one form. -/
theorem gives {E : Int} {X : Mc × List Ev} {e : Ending} {w' : World} (h : GivesM E X e w') : ∃ XA Au nu cu, e = .returned (.tuple #[.agg XA, .slice Au nu cu, .int .i64 E]) ∧ XA.size = mc0A.size ∧ XA.all (·.oneCell') = true ∧ (E ≠ 0 → nu = 0) ∧
    (∃ M1, MRead w' (.agg XA) M1 ∧ (E = 0 → M1 = X.1)) ∧ (E = 0 → elE.R w' (.slice Au nu cu) X.2 ∧ nu = X.2.length) := by
  obtain ⟨v, u, rfl, ⟨h0, rfl, rfl⟩ | ⟨rfl, rd, el⟩⟩ := h
  · refine ⟨mc0A, none, 0, 0, rfl, rfl, mcA_one, fun _ => rfl, ⟨noMc, noMc_read _, fun h => absurd h h0⟩, fun h => absurd h h0⟩
  · obtain ⟨XA, rfl, h1, h2⟩ := arr_read rd
    obtain ⟨A, c, rfl⟩ := el.shape
    exact ⟨XA, A, _, c, rfl, h1, h2, fun h => absurd rfl h, ⟨_, rd, fun _ => rfl⟩, fun _ => ⟨el, rfl⟩⟩
/-- What a variable that holds the machine is read for. -/
theorem machView {w : World} {v : Value} {M : Mc} (h : MRead w v M) : ∃ (XA : Array Value) (A : Option Addr) (c : Nat), v = .agg XA ∧ XA.size = mc0A.size ∧ XA.all (·.oneCell') = true ∧ Ks w (.slice A M.css.length c) M.css ∧
    ∀ (W : World) (g : Nat), Box W g 37 XA → (W.cell? ⟨g, 0, none⟩ = some (.int .i64 M.n) ∧ W.cell? ⟨g, 1, none⟩ = some (.int .i64 M.s) ∧ W.cell? ⟨g, 2, none⟩ = some (.int .i64 M.y) ∧ W.cell? ⟨g, 3, none⟩ = some (.int .i64 M.b)) ∧
      W.rangeAt g 4 (wldA (.slice A M.css.length c) M.mem).toList := by
  have m64 := h.m64
  obtain ⟨A0, c0, A1, c1, A2, c2, A3, c3, A4, c4, rfl, k, _⟩ := h.shape
  exact ⟨_, A0, c0, rfl, by rw [mcA_size m64, mcA_size zeroL_length], mcA_one, k, fun W g hb => ⟨(mach_cells hb m64).1, mach_wld hb⟩⟩
end Go.Proofs.YtcegjehoejgofaaGreat
