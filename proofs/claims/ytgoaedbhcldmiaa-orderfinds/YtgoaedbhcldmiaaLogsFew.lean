/-
Proved: an argument that is logs: no log has more than 2^47 observations, since no slice that is read takes more bytes than the form's reach. No other condition.
-/
import Derived.Test.YtgoaedbhcldmiaaTolds
import Derived.SizedLaws
import Derived.Deep.Slices
namespace Go.Proofs.Ytgoaedbhcldmiaa
open Go.ChangeShapes Go.WideShapes Go.ChangeAt Go.RowKit Go.Joins

theorem weights_all {H : Type} {P : Program} {e : TypeId} {d : DataW H} : ∀ {ds : List (DataW H)}, d ∈ ds → ∀ n ∈ d.weights P e, n ∈ DataW.weightsAll P e ds
  | [], h, _, _ => by cases h
  | x :: r, h, n, hn => by
    simp only [DataW.weightsAll, List.mem_append]
    rcases List.mem_cons.1 h with rfl | h
    · exact .inl hn
    · exact .inr (weights_all h n hn)

/-- Logs, none of which is greater than a machine. -/
def IsLogsFew (w : World) (v : Value) : Prop := ∃ p, elT.RR w v p ∧ ∀ l ∈ p, l.length ≤ 140737488355328
section
variable {H : Type} {enc : TypeId × Value → H} {W : World} {base : Nat} {v : Value} {d : DataW H} {q : List MemPlace}
theorem bytes_told : Try.prog.bytesOf 38 = 40 := by kernel_rfl
theorem logs_few {p : List (List Td)} (hr : elT.RR W v p) (h : DataW.Trod enc Try.prog W 0 (fun _ => true) true 44 v d q) (hw : ∀ n ∈ d.weights Try.prog 44, n ≤ reachBytes) : ∀ l ∈ p, l.length ≤ 140737488355328 := by
  intro l hl
  obtain ⟨k, hk⟩ := List.mem_iff_getElem?.1 hl
  have hkp := (List.getElem?_eq_some_iff.1 hk).1
  obtain ⟨A, c, rfl, h1, h2, h3⟩ := hr.ex
  obtain ⟨b, o, rfl, hb, hc⟩ := h3 (by omega)
  obtain ⟨A', c', hcell, _⟩ := hc k l hk
  obtain ⟨m0, h⟩ := h
  rcases Go.Deep.open_slice Try.underlying44 h with ⟨e, _⟩ | ⟨a, len, cap, m, n, D, Pl, e, _, hlc, _, hmm, hx, hi⟩
  · simp [Value.cells] at e
  · simp [Value.cells] at e
    obtain ⟨rfl, rfl, rfl⟩ := e
    have hlm : p.length ≤ m := by rw [hmm]; split <;> omega
    obtain ⟨cs', g1, g2⟩ := hi k (by omega)
    rw [cells_log] at g1
    obtain ⟨_, g3, g4⟩ := World.cells?_some g1
    have g5 := g4 0 (by omega)
    have ea : ((⟨b, o, none⟩ : Addr).add (k * 1)).add 0 = ⟨b, o + k, none⟩ := by cases k <;> simp [Addr.add]
    rw [ea, hcell] at g5
    have hcs : cs' = [.slice A' l.length c'] := by
      match cs', g3 with
      | [u], _ => simp at g5; rw [← g5]
    subst hcs
    have hd : d = .slice ((List.range p.length).map D) ((List.range (m - p.length)).map fun j => D (p.length + j)) := congrArg Prod.fst hx
    have hD : D k ∈ (List.range p.length).map D := List.mem_map.2 ⟨k, by simpa using hkp, rfl⟩
    rcases Go.Deep.open_slice Try.underlying28 g2 with ⟨e2, _⟩ | ⟨a2, len2, cap2, m2, n2, D2, Pl2, e2, _, hlc2, _, hmm2, hx2, _⟩
    · have : l.length = 0 := by simp at e2; simp [e2.2.1]
      omega
    · obtain rfl : l.length = len2 := by simp at e2; exact e2.2.1
      have hDk : D k = .slice ((List.range l.length).map D2) ((List.range (m2 - l.length)).map fun j => D2 (l.length + j)) := congrArg Prod.fst hx2
      have hn : (((List.range l.length).map D2).length + ((List.range (m2 - l.length)).map fun j => D2 (l.length + j)).length) * 40 ∈ (D k).weights Try.prog 28 := by
        rw [hDk]
        simp [DataW.weights, Try.underlying28, bytes_told]
      have := hw _ (by
        rw [hd]
        simp only [DataW.weights, Try.underlying44, List.mem_cons, List.mem_append]
        exact .inr (.inl (weights_all hD _ hn)))
      simp only [List.length_map, List.length_range] at this
      have := reachBytes_lt
      omega
theorem openLogsFew (hv : Value.okWide Try.prog W .any base 44 v) (h : DataW.Trod enc Try.prog W 0 (fun _ => true) true 44 v d q) (hw : ∀ n ∈ d.weights Try.prog 44, n ≤ reachBytes) : IsLogsFew W v := by
  obtain ⟨p, hp⟩ := openLogs hv h
  exact ⟨p, hp, logs_few hp h hw⟩
end
end Go.Proofs.Ytgoaedbhcldmiaa
