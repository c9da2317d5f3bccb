/-
Proved: '==' on two values of a flat type (ints and bools in structs and arrays) compares their cells one by one. Condition: the values have cells of the type's kinds.
-/
import Derived.Test.YtcegjehoejgofaaFlat
import Derived.ChangeKeysEq
namespace Go.Proofs.Ytcegjehoejgofaa

/-- A cell is of its kind, whatever its number. -/
def KOk : Sc → Value → Prop
  | .bool, v => ∃ b, v = .bool b
  | .int k, v => ∃ a, v = .int k a

def AllK : List Sc → List Value → Prop
  | [], [] => True
  | k :: ks, c :: cs => KOk k c ∧ AllK ks cs
  | _, _ => False

theorem AllK.length : ∀ {ks : List Sc} {cs : List Value}, AllK ks cs → cs.length = ks.length
  | [], [], _ => rfl
  | [], _ :: _, h => h.elim
  | _ :: _, [], h => h.elim
  | _ :: _, _ :: _, h => by simp [AllK.length h.2]

theorem AllOk.kinds : ∀ {ks : List Sc} {cs : List Value}, AllOk ks cs → AllK ks cs
  | [], [], _ => trivial
  | [], _ :: _, h => h.elim
  | _ :: _, [], h => h.elim
  | .bool :: _, _ :: _, h => ⟨h.1, AllOk.kinds h.2⟩
  | .int _ :: _, _ :: _, h => ⟨by obtain ⟨a, e, _⟩ := h.1; exact ⟨a, e⟩, AllOk.kinds h.2⟩

theorem AllK.parts : ∀ {k1 k2 : List Sc} {cs : List Value}, AllK (k1 ++ k2) cs → AllK k1 (cs.take k1.length) ∧ AllK k2 (cs.drop k1.length)
  | [], _, _, h => ⟨trivial, h⟩
  | _ :: _, _, [], h => h.elim
  | _ :: k1, k2, _ :: cs, h => by
    obtain ⟨h1, h2⟩ := AllK.parts (k1 := k1) (k2 := k2) h.2
    exact ⟨⟨h.1, h1⟩, h2⟩

/-- One cell compared. -/
def scEq : Value → Value → Bool
  | .bool a, .bool b => a == b
  | .int _ a, .int _ b => a == b
  | _, _ => false

/-- Cells compared one by one. -/
def eqCells : List Value → List Value → Bool
  | [], [] => true
  | x :: xs, y :: ys => scEq x y && eqCells xs ys
  | _, _ => false

theorem eqCells_append : ∀ {a c b d : List Value}, a.length = c.length → eqCells (a ++ b) (c ++ d) = (eqCells a c && eqCells b d)
  | [], [], _, _, _ => by simp [eqCells]
  | [], _ :: _, _, _, h => by simp at h
  | _ :: _, [], _, _, h => by simp at h
  | _ :: a, _ :: c, b, d, h => by
    have := eqCells_append (a := a) (c := c) (b := b) (d := d) (by simpa using h)
    simp [eqCells, this, Bool.and_assoc]

/-- A value and its cells. -/
def ValIs (P : Program) (t : TypeId) (cs : List Value) (v : Value) : Prop :=
  match P.underlying t with
  | some (.struct _) | some (.array _ _) => v = .agg ⟨cs⟩
  | _ => cs = [v]

section
variable {P : Program} {w : World}

theorem part_flat {n off : Nat} {t : TypeId} {ks : List Sc} {xs : List Value} (hk : flatK P n t = some ks) (hc : P.cellsOf t = ks.length) (ha : AllK ks ((xs.drop off).take ks.length)) :
    ∃ v, (part t ⟨xs⟩ off).run P w = .ok v w ∧ ValIs P t ((xs.drop off).take ks.length) v := by
  cases n with
  | zero => cases hk
  | succ n =>
    have agg : (∃ fs, P.underlying t = some (.struct fs)) ∨ (∃ m e, P.underlying t = some (.array m e)) → ∃ v, (part t ⟨xs⟩ off).run P w = .ok v w ∧ ValIs P t ((xs.drop off).take ks.length) v := by
      intro hu
      have he : (Array.mk xs).extract off (off + ks.length) = ⟨(xs.drop off).take ks.length⟩ := by simp
      rcases hu with ⟨fs, hu⟩ | ⟨m, e, hu⟩
      all_goals
        obtain ⟨i, hi⟩ := info_of_underlying hu
        refine ⟨.agg ⟨(xs.drop off).take ks.length⟩, ?_, by simp [ValIs, hu]⟩
        simp [part, isAgg, run_underlying hu, run_sizeOf w hi, hc]
    have cell : ∀ k : Sc, ks = [k] → ∃ v, (xs.drop off).take ks.length = [v] ∧ (Array.mk xs)[off]? = some v := by
      rintro k rfl
      cases hx : xs.drop off with
      | nil => rw [hx] at ha; exact ha.elim
      | cons v r =>
        refine ⟨v, by simp, ?_⟩
        have : (xs.drop off)[0]? = some v := by rw [hx]; rfl
        simpa using this
    unfold flatK at hk
    split at hk
    · rename_i hu
      obtain ⟨v, h1, h2⟩ := cell .bool (by cases hk; rfl)
      exact ⟨v, by simp only [List.getElem?_toArray] at h2; simp [part, isAgg, run_underlying hu, h2], by simp only [ValIs, hu]; exact h1⟩
    · rename_i k hu
      obtain ⟨v, h1, h2⟩ := cell (.int k) (by cases hk; rfl)
      exact ⟨v, by simp only [List.getElem?_toArray] at h2; simp [part, isAgg, run_underlying hu, h2], by simp only [ValIs, hu]; exact h1⟩
    · rename_i fs hu
      exact agg (.inl ⟨fs, hu⟩)
    · rename_i m e hu
      exact agg (.inr ⟨m, e, hu⟩)
    · cases hk

/-- What the induction gives for the parts. -/
def EqT (P : Program) (d : Nat) (t : TypeId) (ks : List Sc) : Prop :=
  ∀ (w : World) (cs cs' : List Value) (v v' : Value), AllK ks cs → AllK ks cs' → ValIs P t cs v → ValIs P t cs' v' → (Op.equalIn d t v v').run P w = .ok (eqCells cs cs') w

theorem eq_fields {n d : Nat} {xs ys : List Value} (IH : ∀ t ks, flatK P n t = some ks → P.keyTypeAt n t = true → EqT P d t ks) :
    ∀ (fs : List Field) (off : Nat) (l : List Sc), flatFields P (flatK P n) off fs = some l → (∀ f ∈ fs, f.name ≠ "_" ∧ P.keyTypeAt n f.type = true) → AllK l ((xs.drop off).take l.length) → AllK l ((ys.drop off).take l.length) →
      (Op.eqFields d ⟨xs⟩ ⟨ys⟩ fs).run P w = .ok (eqCells ((xs.drop off).take l.length) ((ys.drop off).take l.length)) w
  | [], off, l, h, _, _, _ => by
    simp [flatFields] at h
    subst h
    simp [Op.eqFields, eqCells]
  | f :: fs, off, l, h, hf, hx, hy => by
    unfold flatFields at h
    split at h
    · cases h
    · rename_i l1 h1
      split at h
      · rename_i hc
        cases h2 : flatFields P (flatK P n) (off + l1.length) fs with
        | none => rw [h2] at h; cases h
        | some l2 =>
          rw [h2] at h
          simp at h
          subst h
          obtain ⟨hn, hkt⟩ := hf f (by simp)
          obtain ⟨x1, x2⟩ := AllK.parts hx
          obtain ⟨y1, y2⟩ := AllK.parts hy
          rw [List.take_take, List.length_append, Nat.min_eq_left (by omega)] at x1 y1
          rw [List.length_append, List.take_add, List.drop_drop] at x2 y2
          have lx : ((xs.drop off).take l1.length).length = l1.length := x1.length
          have ly : ((ys.drop off).take l1.length).length = l1.length := y1.length
          rw [List.drop_append_of_le_length (by omega), List.drop_of_length_le (by omega), List.nil_append] at x2 y2
          obtain ⟨a, pa, va⟩ := part_flat (w := w) (off := off) h1 hc.2 x1
          obtain ⟨b, pb, vb⟩ := part_flat (w := w) (off := off) h1 hc.2 y1
          have e1 := IH f.type l1 h1 hkt w _ _ a b x1 y1 va vb
          have e2 := eq_fields IH fs (off + l1.length) l2 h2 (fun g hg => hf g (by simp [hg])) x2 y2
          rw [List.length_append, List.take_add, List.drop_drop, List.take_add, List.drop_drop, eqCells_append (by omega)]
          simp only [Op.eqFields, hn, ne_eq, not_false_eq_true, if_true, Sem.run_bind, hc.1, pa, pb, e1, Result.andThen_ok]
          cases eqCells ((xs.drop off).take l1.length) ((ys.drop off).take l1.length)
          · simp
          · simpa using e2
      · cases h

theorem eq_items {n d : Nat} {e : TypeId} {l : List Sc} {xs ys : List Value} (hl : flatK P n e = some l) (hc : P.cellsOf e = l.length) (IH : EqT P d e l) :
    ∀ (m j : Nat), AllK (List.replicate m l).flatten ((xs.drop (j * l.length)).take (m * l.length)) → AllK (List.replicate m l).flatten ((ys.drop (j * l.length)).take (m * l.length)) →
      (Op.eqItems d e l.length ⟨xs⟩ ⟨ys⟩ (List.range' j m)).run P w = .ok (eqCells ((xs.drop (j * l.length)).take (m * l.length)) ((ys.drop (j * l.length)).take (m * l.length))) w
  | 0, j, _, _ => by simp [Op.eqItems, eqCells]
  | m + 1, j, hx, hy => by
    rw [List.replicate_succ, List.flatten_cons] at hx hy
    obtain ⟨x1, x2⟩ := AllK.parts hx
    obtain ⟨y1, y2⟩ := AllK.parts hy
    have hm : (m + 1) * l.length = l.length + m * l.length := by rw [Nat.succ_mul]; omega
    rw [List.take_take, hm, Nat.min_eq_left (by omega)] at x1 y1
    have lx : ((xs.drop (j * l.length)).take l.length).length = l.length := x1.length
    have ly : ((ys.drop (j * l.length)).take l.length).length = l.length := y1.length
    rw [hm, List.take_add, List.drop_drop, List.drop_append_of_le_length (by omega), List.drop_of_length_le (by omega), List.nil_append] at x2 y2
    have hj : j * l.length + l.length = (j + 1) * l.length := by rw [Nat.succ_mul]
    rw [hj] at x2 y2
    obtain ⟨a, pa, va⟩ := part_flat (w := w) (off := j * l.length) hl hc x1
    obtain ⟨b, pb, vb⟩ := part_flat (w := w) (off := j * l.length) hl hc y1
    have e1 := IH w _ _ a b x1 y1 va vb
    have e2 := eq_items hl hc IH m (j + 1) x2 y2
    rw [hm, List.take_add, List.drop_drop, List.take_add, List.drop_drop, eqCells_append (by omega), hj]
    simp only [List.range'_succ, Op.eqItems, Sem.run_bind, pa, pb, e1, Result.andThen_ok]
    cases eqCells ((xs.drop (j * l.length)).take l.length) ((ys.drop (j * l.length)).take l.length)
    · simp
    · simpa using e2

/-- '==' on a flat type. -/
theorem equal_flat : ∀ (n : Nat) (t : TypeId) (ks : List Sc), flatK P n t = some ks → P.keyTypeAt n t = true → ∀ d, n ≤ d → EqT P d t ks
  | 0, t, ks, hk, _, d, _ => by cases hk
  | n + 1, t, ks, hk, hkt, 0, hd => by omega
  | n + 1, t, ks, hk, hkt, d + 1, hd => by
    intro w cs cs' v v' hx hy hv hv'
    unfold flatK at hk
    unfold Program.keyTypeAt at hkt
    split at hk
    · rename_i hu
      cases hk
      simp only [ValIs, hu] at hv hv'
      subst hv hv'
      obtain ⟨⟨a, rfl⟩, _⟩ := hx
      obtain ⟨⟨b, rfl⟩, _⟩ := hy
      rw [run_equalIn_bool' w d t a b hu]
      simp [eqCells, scEq]
    · rename_i k hu
      cases hk
      simp only [ValIs, hu] at hv hv'
      subst hv hv'
      obtain ⟨⟨a, rfl⟩, _⟩ := hx
      obtain ⟨⟨b, rfl⟩, _⟩ := hy
      rw [run_equalIn_int w d t k k a b hu]
      simp [eqCells, scEq]
    · rename_i fs hu
      simp only [ValIs, hu] at hv hv'
      subst hv hv'
      cases hl : flatFields P (flatK P n) 0 fs.toList with
      | none => rw [hl] at hk; cases hk
      | some l =>
        rw [hl] at hk
        simp only [Option.bind_some] at hk
        split at hk
        · obtain rfl : l = ks := Option.some.inj hk
          rw [hu] at hkt
          simp only [Bool.and_eq_true, Array.all_eq_true', bne_iff_ne, ne_eq, Bool.not_eq_true'] at hkt
          have hfs : P.fieldsOf t = fs := by simp [Program.fieldsOf, hu]
          rw [run_equalIn_struct w d t ⟨cs⟩ ⟨cs'⟩ (by rw [hfs]; exact hu) hkt.2, hfs]
          have lx := hx.length
          have ly := hy.length
          have := eq_fields (w := w) (xs := cs) (ys := cs') (fun t ks h1 h2 => equal_flat n t ks h1 h2 d (by omega)) fs.toList 0 l hl (fun f hf => hkt.1.1 f (by simpa using hf)) (by rw [List.drop_zero, List.take_of_length_le (by omega)]; exact hx) (by rw [List.drop_zero, List.take_of_length_le (by omega)]; exact hy)
          rw [List.drop_zero, List.drop_zero, List.take_of_length_le (by omega), List.take_of_length_le (by omega)] at this
          exact this
        · cases hk
    · rename_i m e hu
      simp only [ValIs, hu] at hv hv'
      subst hv hv'
      cases hl : flatK P n e with
      | none => rw [hl] at hk; cases hk
      | some l =>
        rw [hl] at hk
        simp only [Option.bind_some] at hk
        split at hk
        · rename_i hc
          cases hk
          rw [hu] at hkt
          have hie : ∃ i, P.info? e = some i := by
            cases n with
            | zero => cases hl
            | succ n =>
              unfold flatK at hl
              split at hl
              all_goals first | (rename_i h; exact info_of_underlying h) | (cases hl; done) | (rename_i _ h; exact info_of_underlying h) | (rename_i _ _ h; exact info_of_underlying h)
          obtain ⟨i, hi⟩ := hie
          rw [run_equalIn_array w d ⟨cs⟩ ⟨cs'⟩ hu hi, hc.1, List.range_eq_range']
          have hlen : (List.replicate m l).flatten.length = m * l.length := by simp
          have lx := hx.length
          have ly := hy.length
          have := eq_items (w := w) (xs := cs) (ys := cs') hl hc.1 (equal_flat n e l hl hkt d (by omega)) m 0 (by rw [Nat.zero_mul, List.drop_zero, List.take_of_length_le (by omega)]; exact hx) (by rw [Nat.zero_mul, List.drop_zero, List.take_of_length_le (by omega)]; exact hy)
          rw [Nat.zero_mul, List.drop_zero, List.drop_zero, List.take_of_length_le (by omega), List.take_of_length_le (by omega)] at this
          exact this
        · cases hk
    · cases hk
end
end Go.Proofs.Ytcegjehoejgofaa
