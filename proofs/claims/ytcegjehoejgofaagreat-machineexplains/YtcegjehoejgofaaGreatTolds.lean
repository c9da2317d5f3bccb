/-
Proved: words for observations (an operation and its result), lists of them, and lists of such lists; arguments that are such. No walk. No condition.
-/
import Derived.Test.YtcegjehoejgofaaGreatJoined1
import Derived.Test.YtcegjehoejgofaaGreatJoined5
namespace Go.Proofs.YtcegjehoejgofaaGreat
open Go.ChangeShapes Go.WideShapes Go.ChangeAt Go.RowKit Go.Joins
structure El.RR {α : Type} (E : El α) (w : World) (v : Value) (p : List (List α)) : Prop where
 ex : ∃ A c, v = .slice A p.length c ∧ p.length ≤ c ∧ c ≤ maxLen ∧ (0 < p.length → ∃ b o, A = some ⟨b, o, none⟩ ∧ b < w.heap.size ∧ ∀ (k : Nat) l, p[k]? = some l → ∃ A' c', w.cell? ⟨b, o + k, none⟩ = some (.slice A' l.length c') ∧ E.R w (.slice A' l.length c') l)
section
variable {α : Type} {E : El α} {w w' : World} {v : Value} {p : List (List α)}
theorem El.RR.call (h : E.RR w v p) (hb : Below w.heap.size w w') : E.RR w' v p := by
 obtain ⟨A, c, e, h1, h2, h3⟩ := h
 refine ⟨A, c, e, h1, h2, fun h0 => ?_⟩
 obtain ⟨b, o, eA, hlt, hl⟩ := h3 h0
 refine ⟨b, o, eA, Nat.lt_of_lt_of_le hlt hb.size, fun k ss hk => ?_⟩
 obtain ⟨A', c', k1, k2⟩ := hl k ss hk
 exact ⟨A', c', (hb.cell (p := ⟨b, o + k, none⟩) hlt).trans k1, k2.call hb⟩
theorem El.RR.shape (h : E.RR w v p) : ∃ A c, v = .slice A p.length c := by
 obtain ⟨A, c, e, _⟩ := h.ex
 exact ⟨A, c, e⟩
end
structure Td where
 d : Dd
 v : Int
abbrev Td.cells (x : Td) : List Value := [.int .i64 x.d.nd, .int .i64 x.d.kd, .int .i64 x.d.ad, .int .u64 x.d.vl, .int .u64 x.v]
abbrev Td.arr (x : Td) : Array Value := #[.int .i64 x.d.nd, .int .i64 x.d.kd, .int .i64 x.d.ad, .int .u64 x.d.vl, .int .u64 x.v]
abbrev Td.val (x : Td) : Value := .agg x.arr
theorem info_told : (Tryz.prog.info? 53).map (fun i => (i.zero, i.size, i.bytes)) = some (some (.agg #[.int .i64 0, .int .i64 0, .int .i64 0, .int .u64 0, .int .u64 0]), 5, 40) := by kernel_rfl
def elT : El Td where
 F := Td.cells
 sz := 5
 t := 53
 len := fun _ => rfl
 pos := by decide
 one := fun x u hu => by
  simp at hu
  rcases hu with rfl | rfl | rfl | rfl | rfl <;> rfl
 size := by kernel_rfl
structure ToldAt (w : World) (b o : Nat) (x : Td) : Prop where
 c0 : w.cell? ⟨b, o, none⟩ = some (.int .i64 x.d.nd)
 c1 : w.cell? ⟨b, o + 1, none⟩ = some (.int .i64 x.d.kd)
 c2 : w.cell? ⟨b, o + 2, none⟩ = some (.int .i64 x.d.ad)
 c3 : w.cell? ⟨b, o + 3, none⟩ = some (.int .u64 x.d.vl)
 c4 : w.cell? ⟨b, o + 4, none⟩ = some (.int .u64 x.v)
theorem toldAt_of {w w' : World} {b o B : Nat} {l : List Td} {k : Nat} {x : Td} (hc : ∀ j u, (elT.C l)[j]? = some u → w.cell? ⟨b, o + j, none⟩ = some u) (hb : b < B) (low : Below B w w') (h : l[k]? = some x) : ToldAt w' b (o + k * 5) x :=
 ⟨El.R.at_ hc hb low h 0 _ (show 0 < 5 by omega) rfl, El.R.at_ hc hb low h 1 _ (show 1 < 5 by omega) rfl, El.R.at_ hc hb low h 2 _ (show 2 < 5 by omega) rfl,
  El.R.at_ hc hb low h 3 _ (show 3 < 5 by omega) rfl, El.R.at_ hc hb low h 4 _ (show 4 < 5 by omega) rfl⟩
end Go.Proofs.YtcegjehoejgofaaGreat
