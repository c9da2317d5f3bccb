/-
Proved: what slices.Clone returns for a slice of ways of any length up to a million; it changes nothing that was there, and what it returns is new. No other condition.
-/
import Derived.Test.YtahoadfofleacaaJoined1
namespace Go.Proofs.Ytahoadfofleacaa
open Go.ChangeShapes Go.WideShapes Go.ChangeAt Go.RowKit Go.Joins

theorem nilWays2 (n c : Nat) : ∀ w, (binOp .eql 59 (.slice none n c) (.slice none 0 0)).run Try.prog w = .ok (.bool true) w := fun w => by kernel_rfl
theorem nilWays3 (A : Addr) (n c : Nat) : ∀ w, (binOp .eql 59 (.slice (some A) n c) (.slice none 0 0)).run Try.prog w = .ok (.bool false) w := fun w => by kernel_rfl

theorem clone_gen (v : Value) (l : List Wy) (w : World) (h : Ws w v l) (h20 : l.length ≤ 1048576) :
    Calls Try.prog 23 #[v] w fun e w' => (∃ A c, e = .returned (.slice A l.length c) ∧ Fr w' w.heap.size w'.heap.size (.slice A l.length c) l) ∧ Below w.heap.size w w' := by
  obtain ⟨hl, A, c, rfl, h1, h2, h3⟩ := h
  cases A with
  | none =>
    have l0 : l.length = 0 := by
      rcases Nat.eq_zero_or_pos l.length with e | e
      · exact e
      · obtain ⟨b, o, e2, _⟩ := h3 e
        cases e2
    obtain rfl : l = [] := List.eq_nil_of_length_eq_zero l0
    clear h3 hl
    have en := nilWays2 0 c
    simp only [List.length_nil] at *
    go_enter Try.func23, Try.ntmps23
    go_wp2_with fail
    go_ret
    exact ⟨⟨none, 0, rfl, Fr.nil _ _ _⟩, Below.refl _ _⟩
  | some a =>
    have HC := Lib.hid (show ∀ j u, (waysC l)[j]? = some u → w.cell? (a.add j) = some u ∧ a.block < w.heap.size from fun j u hu => by
      have h0 : 0 < l.length := by
        have := (List.getElem?_eq_some_iff.1 hu).1
        rw [waysC_length] at this
        omega
      obtain ⟨b, o, e, hb, hc⟩ := h3 h0
      cases e
      have e : (⟨b, o, none⟩ : Addr).add j = ⟨b, o + j, none⟩ := by cases j <;> simp [Addr.add]
      rw [e]
      exact ⟨hc j u hu, hb⟩)
    have HL := Lib.hid hl
    obtain ⟨i0, hi, hz0, hz1, hz2⟩ := info_parts info_way
    have HI := Lib.hid hi
    have HZ := Lib.hid (And.intro hz0 (And.intro hz1 hz2))
    clear hl h3 hi hz0 hz1 hz2
    have en := nilWays3 a l.length c
    go_enter Try.func23, Try.ntmps23
    go_wp2_with (at_builtin; refine wpList_append_own _ rfl _ _ 59 rfl w.heap.size 51 i0 wy0.val 6 48 Try.underlying59 HI.out HZ.out.1 HZ.out.2.1 HZ.out.2.2 rfl (by decide) _ 0 [] rfl ?c0 a l.length c (waysC l) rfl HL.out ?c1 (waysC_one l) ?c3 ?c4 ?c5 ?_)
    case c0 => exact ⟨rfl, .inr ⟨w.heap.size, 0, #[], rfl, Nat.le_refl _, Box.new w 51 #[], Nat.le_refl _, Nat.zero_le _, rfl, rfl⟩⟩
    case c1 =>
      intro j u hu
      obtain ⟨k, hb⟩ := HC.out j u hu
      have hb2 : (a.add j).block < w.heap.size := block_lt_of_cell k
      exact (((Below.refl w.heap.size w).alloc (Nat.le_refl _) _).cell hb2).trans k
    case c3 => unfold maxLen; omega
    case c4 => omega
    case c5 => simp
    intro v' w1 own grow _
    have low : Below w.heap.size w w1 := (gAlloc (Below.refl _ _) _).grown grow (by simp) (fun g e => by simp [Value.ownBlock] at e; omega)
    try simp only [Nat.zero_add, List.nil_append] at own
    obtain ⟨o1, o2⟩ := own
    rcases o2 with ⟨e1, o2⟩ | ⟨g, cap, cur, rfl, hg, hh, hn, hm, hs, ht⟩
    · obtain rfl : l = [] := List.eq_nil_of_length_eq_zero (by omega)
      subst e1
      clear o1 grow HC
      go_wp2_with fail
      go_ret
      exact ⟨⟨none, 0, rfl, Fr.nil _ _ _⟩, low⟩
    have O := Lib.hid (show Own w1 g (.slice (some ⟨g, 0, none⟩) l.length cap) l from ⟨cap, cur, rfl, hh, hn, hm, hs, fun q y h r hr => own_at ht h r hr⟩)
    clear hh hs ht o1 grow
    go_wp2_with fail
    go_ret
    exact ⟨⟨_, _, rfl, fr_of_own O.out hg⟩, low⟩
end Go.Proofs.Ytahoadfofleacaa
