/-
Proved: slices.DeleteFunc of at most eight ints that a call owns keeps those of which the test does not hold, and changes nothing else. Condition: the test is a function that reads what lies below a bound and makes nothing; the ints lie from the bound on.
-/
import Derived.Test.YtiefeeondeablaaSorted
import Derived.Lib.SliceRun
namespace Go.Proofs.Ytiefeeondeablaa
open Go.ChangeShapes Go.WideShapes Go.ChangeAt Go.RowKit Go.Joins

theorem SortedTo.refl (w : World) (base : Nat) : SortedTo w base w := ⟨fun h _ => h, fun h _ => h, rfl⟩
theorem SortedTo.of {w w' : World} {g base : Nat} {v : Value} {l : List Int} (own : OwnI w g v l) (hg : base ≤ g) (st : Stored w g w') : SortedTo w base w' := by
  refine ⟨fun {h t cs} hb ht => ?_, fun {B z} hb hB => st.low hb (by omega), st.size⟩
  refine st.box hb fun e => ?_
  subst e
  obtain ⟨_, _, _, hb2, _⟩ := own
  unfold Box at hb hb2
  rw [hb] at hb2
  cases hb2
  exact ht rfl

theorem setCells_own {g : Nat} {t : TypeId} : ∀ (vs : List Value) (o : Nat) {w : World} {cur : Array Value}, Box w g t cur → ∃ cur', Box (w.setCells g o vs) g t cur' ∧ cur'.size = cur.size ∧ (∀ q, q < o → cur'[q]? = cur[q]?) ∧ Stored w g (w.setCells g o vs)
  | [], o, w, cur, h => ⟨cur, h, rfl, fun _ _ => rfl, Stored.refl w g⟩
  | v :: vs, o, w, cur, h => by
    obtain ⟨cur', h1, h2, h3, h4⟩ := setCells_own vs (o + 1) (h.set o v)
    refine ⟨cur', h1, by rw [h2]; simp, fun q hq => ?_, (Stored.cell1 w ⟨g, o, none⟩ v).trans h4⟩
    rw [h3 q (by omega), Array.getElem?_setIfInBounds, if_neg (by omega)]

/-- What is left: the first of it in place. -/
theorem OwnI.cut {w : World} {g n c i : Nat} {xs : List Int} (h : OwnI w g (.slice (some ⟨g, 0, none⟩) n c) xs) (hn : xs.length = n) (hi : i ≤ n) (vs : List Value) :
    OwnI (w.setCells g i vs) g (.slice (some ⟨g, 0, none⟩) (xs.take i).length c) (xs.take i) ∧ Stored w g (w.setCells g i vs) := by
  obtain ⟨cap, cur, e, hb, h1, h2, h3, h4⟩ := h
  obtain ⟨_, rfl⟩ : xs.length = xs.length ∧ c = cap := by injection e with e1 e2 e3; exact ⟨rfl, e3⟩
  obtain ⟨cur', k1, k2, k3, k4⟩ := setCells_own vs i hb
  have hl : (xs.take i).length = i := by rw [List.length_take]; omega
  refine ⟨⟨c, cur', rfl, k1, by omega, h2, by omega, fun q y hq => ?_⟩, k4⟩
  have hq2 := (List.getElem?_eq_some_iff.1 hq).1
  rw [k3 q (by omega)]
  refine h4 q y ?_
  rw [List.getElem?_take, if_pos (by omega)] at hq
  exact hq

/-- The place of the first of which the test holds, or -1. -/
def idxI (p : Int → Bool) (l : List Int) : Int := match l.findIdx? p with | some k => k | none => -1
theorem idxI_none {p : Int → Bool} {l : List Int} (h : ∀ (k : Nat) x, l[k]? = some x → p x = false) : idxI p l = -1 := by
  have : l.findIdx? p = none := by
    rw [List.findIdx?_eq_none_iff]
    intro x hx
    obtain ⟨k, hk, e⟩ := List.getElem_of_mem hx
    exact h k x (by rw [List.getElem?_eq_getElem hk, e])
  rw [idxI, this]
theorem idxI_some {p : Int → Bool} {l : List Int} {k : Nat} {x : Int} (h : ∀ j y, j < k → l[j]? = some y → p y = false) (hk : l[k]? = some x) (hp : p x = true) : idxI p l = k := by
  have : l.findIdx? p = some k := by
    rw [List.findIdx?_eq_some_iff_getElem]
    obtain ⟨hlt, e⟩ := List.getElem?_eq_some_iff.1 hk
    refine ⟨hlt, by rw [e]; exact hp, fun j hj => ?_⟩
    rw [h j _ hj (List.getElem?_eq_getElem (by omega))]
    decide
  rw [idxI, this]
theorem idxI_cases (p : Int → Bool) (l : List Int) : (idxI p l = -1 ∧ ∀ x ∈ l, p x = false) ∨ ∃ k x, idxI p l = (k : Nat) ∧ l[k]? = some x ∧ p x = true ∧ ∀ j y, j < k → l[j]? = some y → p y = false := by
  cases e : l.findIdx? p with
  | none =>
    refine .inl ⟨by rw [idxI, e], ?_⟩
    rw [List.findIdx?_eq_none_iff] at e
    exact e
  | some k =>
    refine .inr ?_
    have e' := e
    rw [List.findIdx?_eq_some_iff_getElem] at e
    obtain ⟨hk, e1, e2⟩ := e
    refine ⟨k, l[k], by rw [idxI, e'], List.getElem?_eq_getElem hk, e1, fun j y hj hy => ?_⟩
    obtain ⟨hlt, rfl⟩ := List.getElem?_eq_some_iff.1 hy
    simpa using e2 j hj

theorem indexInts (F : Nat) (eg : ∀ args w, (callFunc F args).run Try.prog w = .ok (.enter F args) w) (g : Nat) (p : Int → Bool) (v : Value) (l : List Int) (w : World) (h : Sl w w.heap.size 1 v l.length (l.map (Value.int .i64)))
    (C : ∀ x, Calls Try.prog F #[.int .i64 x, .pointer (some ⟨g, 0, none⟩)] w fun e w' => e = .returned (.bool (p x)) ∧ w = w') :
    Calls Try.prog 38 #[v, .func (.func F) #[] #[.pointer (some ⟨g, 0, none⟩)]] w fun e w' => e = .returned (.int .i64 (idxI p l)) ∧ w = w' := by
  obtain ⟨_, A, c, rfl, h1, h2, h3⟩ := h
  have H3 := Lib.hid h3
  have CC := Lib.hid C
  unfold maxLen at h2
  clear h3 C
  go_enter Try.func38, Try.ntmps38
  go_wp2_with fail
  go_loop [8] (fun i => ∃ j : Nat, j ≤ l.length ∧ i = .int .i64 j ∧ Hid (∀ q y, q < j → l[q]? = some y → p y = false)) (fun i => l.length - (intOf i).toNat)
  case atStart => exact ⟨0, Nat.zero_le _, rfl, Lib.hid fun q y hq => absurd hq (by omega)⟩
  case round =>
    obtain ⟨j, hj, rfl, hno⟩ := hrel
    by_cases hlt : j < l.length
    · obtain ⟨b, o, rfl, hb, hc⟩ := H3.out (by omega)
      have hx : l[j]? = some l[j] := List.getElem?_eq_getElem _
      generalize l[j] = x at hx
      have hcell : w.cell? ⟨b, o + j, none⟩ = some (.int .i64 x) := hc j _ (by rw [List.getElem?_map, hx]; rfl)
      have HX := Lib.hid hx
      have S := Lib.hid (CC.out x)
      have j0 : (0 : Int) ≤ j := by omega
      have j1 : (j : Int) < l.length := by omega
      clear hx hc
      cases hp : p x
      · rw [hp] at S
        have HP := Lib.hid hp
        clear hp
        go_wp2_with fail
        (with_reducible refine S.out.mono ?_); rintro e w2 ⟨rfl, rfl⟩
        go_wp2_with fail
        go_round
        case rel => exact ⟨j + 1, by omega, by go_num, Lib.hid fun q y hq hy => by
          by_cases e : q < j
          · exact hno.out q y e hy
          · obtain rfl : q = j := by omega
            rw [HX.out] at hy
            cases hy
            exact HP.out⟩
        case measure => simp [intOf]; omega
      · rw [hp] at S
        have HP := Lib.hid hp
        clear hp
        go_wp2_with fail
        (with_reducible refine S.out.mono ?_); rintro e w2 ⟨rfl, rfl⟩
        go_wp2_with fail
        go_ret
        exact ⟨by rw [idxI_some hno.out HX.out HP.out]; rfl, rfl⟩
    · go_wp2_with fail
      go_ret
      exact ⟨by rw [idxI_none (fun q y hy => hno.out q y (by have := (List.getElem?_eq_some_iff.1 hy).1; omega) hy)]; rfl, rfl⟩

/-- Where the deletion stands: the kept of the first j lie in front, the rest is as it was. -/
structure Del (p : Int → Bool) (l : List Int) (i j : Nat) (xs : List Int) : Prop where
  len : xs.length = l.length
  lt : i < j
  le : j ≤ l.length
  front : xs.take i = (l.take j).filter fun x => !p x
  rest : xs.drop j = l.drop j

theorem Del.size {p : Int → Bool} {l xs : List Int} {i j : Nat} (h : Del p l i j xs) : ((l.take j).filter fun x => !p x).length = i := by
  rw [← h.front, List.length_take, h.len]
  have := h.lt
  have := h.le
  omega
theorem Del.start {p : Int → Bool} {l : List Int} {k : Nat} {x : Int} (hx : l[k]? = some x) (hp : p x = true) (hno : ∀ j y, j < k → l[j]? = some y → p y = false) : Del p l k (k + 1) l := by
  have hk := (List.getElem?_eq_some_iff.1 hx).1
  refine ⟨rfl, by omega, hk, ?_, rfl⟩
  rw [List.take_add_one, hx, List.filter_append]
  have e : (l.take k).filter (fun x => !p x) = l.take k := by
    rw [List.filter_eq_self]
    intro y hy
    obtain ⟨j, hj, rfl⟩ := List.getElem_of_mem hy
    rw [List.length_take] at hj
    rw [List.getElem_take, hno j _ (by omega) (List.getElem?_eq_getElem (by omega))]
    rfl
  simp [e, hp]
theorem Del.at_ {p : Int → Bool} {l xs : List Int} {i j : Nat} (h : Del p l i j xs) {x : Int} (hx : l[j]? = some x) : xs[j]? = some x := by
  have := congrArg (fun z => z[0]?) h.rest
  simp only [List.getElem?_drop, Nat.add_zero] at this
  rw [this, hx]
theorem Del.drop {p : Int → Bool} {l xs : List Int} {i j : Nat} (h : Del p l i j xs) {x : Int} (hx : l[j]? = some x) (hp : p x = true) : Del p l i (j + 1) xs := by
  have hj := (List.getElem?_eq_some_iff.1 hx).1
  refine ⟨h.len, by have := h.lt; omega, hj, ?_, ?_⟩
  · rw [h.front, List.take_add_one, hx, List.filter_append]
    simp [hp]
  · have := congrArg (fun z => z.drop 1) h.rest
    simpa [List.drop_drop] using this
theorem Del.keep {p : Int → Bool} {l xs : List Int} {i j : Nat} (h : Del p l i j xs) {x : Int} (hx : l[j]? = some x) (hp : p x = false) : Del p l (i + 1) (j + 1) (xs.set i x) := by
  have hj := (List.getElem?_eq_some_iff.1 hx).1
  have hi := h.lt
  have hl := h.len
  refine ⟨by rw [List.length_set]; exact hl, by omega, hj, ?_, ?_⟩
  · rw [List.take_add_one, List.getElem?_set_self (by omega), List.take_set, List.set_eq_of_length_le (by rw [List.length_take]; omega), h.front, List.take_add_one, hx, List.filter_append]
    simp [hp]
  · rw [List.drop_set_of_lt (by omega)]
    have := congrArg (fun z => z.drop 1) h.rest
    simpa [List.drop_drop] using this

set_option maxHeartbeats 2000000 in
theorem deleteInts (F : Nat) (eg : ∀ args w, (callFunc F args).run Try.prog w = .ok (.enter F args) w) (gp : Nat) (p : Int → Bool) (base B : Nat) (w0 : World) (v : Value) (l : List Int) (w : World) (hB : B ≤ base) (low0 : Below B w0 w)
    (h : w.ownsRow base 3 1 v l.length (l.map (Value.int .i64))) (hl : l.length ≤ 8)
    (C : ∀ x W, Below B w0 W → Calls Try.prog F #[.int .i64 x, .pointer (some ⟨gp, 0, none⟩)] W fun e w' => e = .returned (.bool (p x)) ∧ W = w') :
    Calls Try.prog 22 #[v, .func (.func F) #[] #[.pointer (some ⟨gp, 0, none⟩)]] w fun e w' =>
      (∃ dv, e = .returned dv ∧ Sl w' w'.heap.size 1 dv (l.filter fun x => !p x).length ((l.filter fun x => !p x).map (Value.int .i64))) ∧ SortedTo w base w' := by
  have IX := Lib.hid (indexInts F eg gp p v l w (Sl.ofOwn h) fun x => C x w low0)
  have IC := Lib.hid (idxI_cases p l)
  have CC := Lib.hid C
  generalize idxI p l = r at IX IC
  clear C
  rcases IC.out with ⟨rfl, hall⟩ | ⟨k, x, rfl, hx, hp, hno⟩
  · have E := Lib.hid (show (l.filter fun x => !p x) = l by
      rw [List.filter_eq_self]
      intro y hy
      rw [hall y hy]; rfl)
    have R := Lib.hid (Sl.ofOwn h)
    rw [E.out]
    obtain ⟨A, c, rfl⟩ : ∃ A c, v = .slice A l.length c := by obtain ⟨_, A, c, e, _⟩ := R.out; exact ⟨A, c, e⟩
    clear IC hall h CC E
    go_enter Try.func22, Try.ntmps22
    go_wp2_with fail
    (with_reducible refine IX.out.mono ?_); rintro e w2 ⟨rfl, rfl⟩
    go_wp2_with fail
    go_ret
    exact ⟨⟨_, rfl, R.out⟩, SortedTo.refl w base⟩
  · have D0 := Lib.hid (Del.start hx hp hno)
    have hk := (List.getElem?_eq_some_iff.1 hx).1
    obtain ⟨g, hg, own⟩ := OwnI.of h (by omega)
    obtain ⟨c, rfl, hc⟩ := own.shape
    have O0 := Lib.hid own
    have LOW := Lib.hid low0
    have k1 : ((k : Int) == -1) = false := beq_false_of_ne (by omega)
    clear IC hx hp hno h own low0
    go_enter Try.func22, Try.ntmps22
    go_wp2_with fail
    (with_reducible refine IX.out.mono ?_); rintro e w2 ⟨rfl, rfl⟩
    go_wp2_with fail
    go_loopw [5, 6] (fun vi vj wr => ∃ i j : Nat, vi = .int .i64 i ∧ vj = .int .i64 j ∧ Hid (∃ xs, Del p l i j xs ∧ OwnI wr g (.slice (some ⟨g, 0, none⟩) l.length c) xs) ∧ Hid (Stored w g wr)) (fun _ vj _ => l.length - (intOf vj).toNat)
    case atStart => exact ⟨k, k + 1, rfl, by go_num, Lib.hid ⟨l, D0.out, O0.out⟩, Lib.hid (Stored.refl w g)⟩
    case round =>
      obtain ⟨i, j, rfl, rfl, hd, st⟩ := hrel
      obtain ⟨xs, del, own⟩ := hd.out
      have DEL := Lib.hid del
      have OW := Lib.hid own
      have hij := del.lt
      have hjl := del.le
      have HX := Lib.hid del.len
      have L2 := Lib.hid (st.out.low LOW.out (by omega))
      clear hd del own
      by_cases hlt : j < l.length
      · have hy : l[j]? = some l[j] := List.getElem?_eq_getElem _
        generalize l[j] = y at hy
        have c0 := OW.out.at_ (DEL.out.at_ hy)
        have f0 := OW.out.free i
        obtain ⟨u, cu⟩ : ∃ u, wr.cell? ⟨g, i, none⟩ = some u := ⟨_, OW.out.at_ (List.getElem?_eq_getElem (by rw [HX.out]; omega))⟩
        have S := Lib.hid (CC.out y wr L2.out)
        have HY := Lib.hid hy
        have j1 : (j : Int) < l.length := by omega
        have i1 : (i : Int) < l.length := by omega
        clear hy
        cases hp : p y
        · rw [hp] at S
          have DK := Lib.hid (DEL.out.keep HY.out hp)
          have OK := Lib.hid (OW.out.set i y)
          clear hp DEL OW
          go_wp2_with fail
          (with_reducible refine S.out.mono ?_); rintro e w3 ⟨rfl, rfl⟩
          go_wp2_with fail
          go_roundw
          case rel => exact ⟨i + 1, j + 1, by go_num, by go_num, Lib.hid ⟨_, DK.out, OK.out⟩, Lib.hid (st.out.cellTo _ _)⟩
          case measure => simp [intOf]; omega
        · rw [hp] at S
          have DK := Lib.hid (DEL.out.drop HY.out hp)
          clear hp DEL
          go_wp2_with fail
          (with_reducible refine S.out.mono ?_); rintro e w3 ⟨rfl, rfl⟩
          go_wp2_with fail
          go_roundw
          case rel => exact ⟨i, j + 1, rfl, by go_num, Lib.hid ⟨_, DK.out, OW.out⟩, st⟩
          case measure => simp [intOf]; omega
      · obtain rfl : j = l.length := by omega
        have i1 : i < l.length := by omega
        have CL : ∀ ty, (Builtin.clear_ #[31] ty #[.slice (some ⟨g, i, none⟩) (l.length - i) (c - i)]).run Try.prog wr = .ok (.tuple #[]) (wr.setCells g i (List.replicate (l.length - i) (.int .i64 0))) := fun ty =>
          Lib.run_clear_slice wr 31 3 ty (.int .i64 0) Try.underlying31 (fun w => by kernel_rfl) rfl rfl g i (l.length - i) (c - i) (by omega)
            (fun q hq => by rw [OW.out.at_ (List.getElem?_eq_getElem (by rw [HX.out]; omega))]; rfl) (fun q _ => OW.out.free _)
        have FR := Lib.hid DEL.out.front
        rw [List.take_length] at FR
        obtain ⟨CO, CS⟩ := OW.out.cut (i := i) HX.out (by omega) (List.replicate (l.length - i) (.int .i64 0))
        have ro := CO.row (base := base) hg
        rw [FR.out] at ro
        have SZ := Lib.hid (by have := DEL.out.size; rw [List.take_length] at this; exact this)
        have OUT := Lib.hid (Sl.ofOwn ro)
        have ST := Lib.hid (SortedTo.of O0.out hg (st.out.trans CS))
        clear CO CS ro OW DEL L2 HX st
        go_wp2_with fail
        go_ret
        refine ⟨⟨.slice (some ⟨g, 0, none⟩) (l.filter fun x => !p x).length c, ?_, OUT.out⟩, ST.out⟩
        rw [SZ.out]
        rfl
end Go.Proofs.Ytiefeeondeablaa
