/-
Proved: slices.Clone of operations gives them anew; slices.IndexFunc and slices.DeleteFunc of operations that a call owns, with a test through a function value. Conditions: at most 200 operations; the test keeps what was there.
-/
import Derived.Test.YtckmcfpeemkdoaaOps
import Derived.Test.YtckmcfpeemkdoaaCells2
namespace Go.Proofs.Ytckmcfpeemkdoaa
open Go.ChangeShapes Go.WideShapes Go.ChangeAt Go.RowKit Go.Joins

theorem info_deed : (Try.prog.info? 30).map (fun i => (i.zero, i.size, i.bytes)) = some (some (.agg #[.int .i64 0, .int .i64 0, .int .i64 0, .int .u64 0]), 4, 32) := by kernel_rfl
/-- Operations as elements. -/
def elD : El Dd where
  F := Dd.cells
  sz := 4
  t := 30
  len := fun _ => rfl
  pos := by decide
  one := fun x u hu => by
    simp at hu
    rcases hu with rfl | rfl | rfl | rfl <;> rfl
  size := by kernel_rfl
theorem Ds.el {w : World} {v : Value} {l : List Dd} (h : Ds w v l) : elD.R w v l := h.sl
theorem Ds.of {w : World} {v : Value} {l : List Dd} (h : elD.R w v l) : Ds w v l := ⟨h⟩

theorem cloneDeeds_any (v : Value) (l : List Dd) (w : World) (h : Ds w v l) (h8 : l.length ≤ 200) :
    Calls Try.prog 15 #[v] w fun e w' => (∃ v', e = .returned v' ∧ w'.ownsRow w.heap.size 30 4 v' l.length (deedsC l)) ∧ Below w.heap.size w w' := by
  obtain ⟨hl, A, c, rfl, h1, h2, h3⟩ := h
  obtain ⟨i0, hi, hz0, hz1, hz2⟩ := info_parts info_deed
  have HI := Lib.hid hi
  have HZ := Lib.hid (And.intro hz0 (And.intro hz1 hz2))
  have HL := Lib.hid hl
  have H3 := Lib.hid h3
  clear hl h3 hi hz0 hz1 hz2
  cases A with
  | none =>
    have e0 : l = [] := by
      cases l with
      | nil => rfl
      | cons x r =>
        obtain ⟨b, o, e, _⟩ := H3.out (by simp)
        cases e
    subst e0
    have en : ∀ w, (binOp .eql 26 (.slice none 0 c) (.slice none 0 0)).run Try.prog w = .ok (.bool true) w := fun w => by kernel_rfl
    clear HL H3 HI HZ
    go_enter Try.func15, Try.ntmps15
    try simp only [List.length_nil]
    go_wp2_with fail
    go_ret
    exact ⟨⟨_, rfl, World.ownsRow_nil _ _ _ _⟩, Below.refl _ _⟩
  | some ad =>
    have HC := Lib.hid (show ∀ j u, (deedsC l)[j]? = some u → w.cell? (ad.add j) = some u from fun j u hu => by
      have hj := (List.getElem?_eq_some_iff.1 hu).1
      rw [deedsC_length] at hj
      obtain ⟨b, o, e, _, hc⟩ := H3.out (by omega)
      cases e
      have ee : (⟨b, o, none⟩ : Addr).add j = ⟨b, o + j, none⟩ := by cases j <;> simp [Addr.add]
      rw [ee]
      exact hc j u hu)
    have HB := Lib.hid (show ∀ j u, (deedsC l)[j]? = some u → (ad.add j).block < w.heap.size from fun j u hu => block_lt_of_cell (HC.out j u hu))
    have en : ∀ w, (binOp .eql 26 (.slice (some ad) l.length c) (.slice none 0 0)).run Try.prog w = .ok (.bool false) w := fun w => by kernel_rfl
    clear H3
    go_enter Try.func15, Try.ntmps15
    go_wp2_with (at_builtin; refine wpList_append_own _ rfl _ _ 26 rfl w.heap.size 30 i0 (.agg #[.int .i64 0, .int .i64 0, .int .i64 0, .int .u64 0]) 4 32 Try.underlying26 HI.out HZ.out.1 HZ.out.2.1 HZ.out.2.2 rfl (by decide) _ 0 [] rfl ?c0 ad l.length c (deedsC l) rfl HL.out ?c1 (elD.C_one l) ?c3 ?c4 ?c5 ?_)
    case c0 => exact ⟨rfl, .inr ⟨w.heap.size, 0, #[], rfl, Nat.le_refl _, Box.new w 30 #[], Nat.le_refl _, Nat.zero_le _, rfl, rfl⟩⟩
    case c1 =>
      intro j u hu
      exact ((Below.refl w.heap.size w).alloc (Nat.le_refl _) _).cell (HB.out j u hu) |>.trans (HC.out j u hu)
    case c3 => unfold maxLen; omega
    case c4 => omega
    case c5 => simp
    intro v' w1 own grow _
    have low : Below w.heap.size w w1 := (gAlloc (Below.refl _ _) _).grown grow (by simp) (fun g e => by simp [Value.ownBlock] at e; omega)
    try simp only [Nat.zero_add, List.nil_append] at own
    have O := Lib.hid own
    clear own grow
    go_wp2_with fail
    go_ret
    exact ⟨⟨_, rfl, O.out⟩, low⟩

theorem indexDeeds (F : Nat) (eg : ∀ args w, (callFunc F args).run Try.prog w = .ok (.enter F args) w) (g : Nat) (p : Dd → Bool) (v : Value) (l : List Dd) (w : World) (h : Ds w v l)
    (C : ∀ x W, Below w.heap.size w W → Calls Try.prog F #[x.val, .pointer (some ⟨g, 0, none⟩)] W fun e w' => e = .returned (.bool (p x)) ∧ Below W.heap.size W w') :
    Calls Try.prog 23 #[v, .func (.func F) #[] #[.pointer (some ⟨g, 0, none⟩)]] w fun e w' => e = .returned (.int .i64 (idxG p l)) ∧ Below w.heap.size w w' := by
  obtain ⟨_, A, c, rfl, h1, h2, h3⟩ := h
  have H3 := Lib.hid h3
  have CC := Lib.hid C
  unfold maxLen at h2
  clear h3 C
  have low := Below.refl w.heap.size w
  go_enter Try.func23, Try.ntmps23
  go_wp2_with fail
  go_loopw [8] (fun i wr => ∃ j : Nat, j ≤ l.length ∧ i = .int .i64 j ∧ Hid (∀ q y, q < j → l[q]? = some y → p y = false) ∧ Below w.heap.size w wr) (fun i _ => l.length - (intOf i).toNat)
  case atStart => exact ⟨0, Nat.zero_le _, rfl, Lib.hid fun q y hq => absurd hq (by omega), low⟩
  case round =>
    clear low
    obtain ⟨j, hj, rfl, hno, low⟩ := hrel
    by_cases hlt : j < l.length
    · obtain ⟨b, o, rfl, hb, hc⟩ := H3.out (by omega)
      have hx : l[j]? = some l[j] := List.getElem?_eq_getElem _
      generalize l[j] = x at hx
      obtain ⟨c0, c1, c2, c3⟩ := deedAt_of hc hb low hx
      have HX := Lib.hid hx
      have S := Lib.hid (CC.out x wr low)
      have j0 : (0 : Int) ≤ j := by omega
      have j1 : (j : Int) < l.length := by omega
      clear hx hc
      generalize hp : p x = B at S
      have HP := Lib.hid hp
      clear hp
      go_wp2_with fail
      (with_reducible refine S.out.mono ?_); rintro e w2 ⟨rfl, hb2⟩
      replace low := gCall low hb2
      clear hb2 c0 c1 c2 c3
      cases B
      · go_wp2_with fail
        go_roundw
        case rel => exact ⟨j + 1, by omega, by go_num, Lib.hid fun q y hq hy => by
          by_cases e : q < j
          · exact hno.out q y e hy
          · obtain rfl : q = j := by omega
            rw [HX.out] at hy
            cases hy
            exact HP.out, low⟩
        case measure => simp [intOf]; omega
      · go_wp2_with fail
        go_ret
        exact ⟨by rw [idxG_some hno.out HX.out HP.out]; rfl, low⟩
    · go_wp2_with fail
      go_ret
      exact ⟨by rw [idxG_none (fun q y hy => hno.out q y (by have := (List.getElem?_eq_some_iff.1 hy).1; omega) hy)]; rfl, low⟩

/-- What is left behind a cut: the first of it in place. -/
theorem El.Own.cut {α : Type} {E : El α} {w : World} {g n c i : Nat} {xs : List α} (h : E.Own w g (.slice (some ⟨g, 0, none⟩) n c) xs) (hn : xs.length = n) (hi : i ≤ n) (vs : List Value) (hv : i * E.sz + vs.length ≤ n * E.sz) :
    E.Own (w.setCells g (i * E.sz) vs) g (.slice (some ⟨g, 0, none⟩) (xs.take i).length c) (xs.take i) ∧ Stored w g (w.setCells g (i * E.sz) vs) := by
  obtain ⟨cap, cur, e, hb, h1, h2, h3, h4⟩ := h
  obtain rfl : c = cap := by injection e with e1 e2 e3
  have hm : n * E.sz ≤ c * E.sz := Nat.mul_le_mul_right _ (by omega)
  obtain ⟨cur', k1, k2, k3, _, k5⟩ := setCells_box vs (i * E.sz) hb (by omega)
  have hl : (xs.take i).length = i := by rw [List.length_take]; omega
  refine ⟨⟨c, cur', rfl, k1, by omega, h2, by omega, fun q y hq r hr => ?_⟩, k5⟩
  have hq2 := (List.getElem?_eq_some_iff.1 hq).1
  have hlt : q * E.sz + r < i * E.sz := by
    have : (q + 1) * E.sz ≤ i * E.sz := Nat.mul_le_mul_right _ (by omega)
    rw [Nat.succ_mul] at this
    omega
  rw [k3 _ (.inl hlt)]
  refine h4 q y ?_ r hr
  rw [List.getElem?_take, if_pos (by omega)] at hq
  exact hq

set_option maxHeartbeats 2000000 in
theorem deleteDeeds (F : Nat) (eg : ∀ args w, (callFunc F args).run Try.prog w = .ok (.enter F args) w) (gp : Nat) (p : Dd → Bool) (base : Nat) (v : Value) (l : List Dd) (w0 w : World) (hbase : base ≤ w.heap.size) (low0 : Below base w0 w)
    (h : w.ownsRow base 30 4 v l.length (deedsC l)) (hl : l.length ≤ 200)
    (C : ∀ x W, Below base w0 W → Calls Try.prog F #[x.val, .pointer (some ⟨gp, 0, none⟩)] W fun e w' => e = .returned (.bool (p x)) ∧ Below W.heap.size W w') :
    Calls Try.prog 14 #[v, .func (.func F) #[] #[.pointer (some ⟨gp, 0, none⟩)]] w fun e w' =>
      (∃ dv, e = .returned dv ∧ Ds w' dv (l.filter fun x => !p x)) ∧ Below base w w' := by
  have IX := Lib.hid (indexDeeds F eg gp p v l w ⟨Sl.ofOwn h⟩ fun x W hW => C x W (low0.trans (hW.mono hbase)))
  have IC := Lib.hid (idxG_cases p l)
  have CC := Lib.hid C
  generalize idxG p l = r at IX IC
  clear C
  rcases IC.out with ⟨rfl, hall⟩ | ⟨k, x, rfl, hx, hp, hno⟩
  · have E := Lib.hid (show (l.filter fun x => !p x) = l by
      rw [List.filter_eq_self]
      intro y hy
      rw [hall y hy]; rfl)
    have R := Lib.hid (show Ds w v l from ⟨Sl.ofOwn h⟩)
    rw [E.out]
    obtain ⟨A, c, rfl⟩ := R.out.el.shape
    clear IC hall h CC E
    go_enter Try.func14, Try.ntmps14
    go_wp2_with fail
    (with_reducible refine IX.out.mono ?_); rintro e w2 ⟨rfl, hb⟩
    replace R := Lib.hid (R.out.call hb)
    have LL := hb.mono hbase
    clear hb
    go_wp2_with fail
    go_ret
    exact ⟨⟨_, rfl, R.out⟩, LL⟩
  · have D0 := Lib.hid (DelG.start hx hp hno)
    have hk := (List.getElem?_eq_some_iff.1 hx).1
    obtain ⟨g, hg, own⟩ := El.Own.of (E := elD) (l := l) (n := l.length) h rfl (by omega)
    obtain ⟨c, rfl⟩ := own.shape
    have hc : l.length ≤ c ∧ c ≤ maxLen := by
      obtain ⟨cap, _, e, _, h1, h2, _⟩ := own
      injection e with _ _ e3
      subst e3
      exact ⟨h1, h2⟩
    obtain ⟨hc1, hc2⟩ := hc
    unfold maxLen at hc2
    have k1 : ((k : Int) == -1) = false := beq_false_of_ne (by omega)
    have OW := Lib.hid own
    clear IC hx hp hno h own
    go_enter Try.func14, Try.ntmps14
    go_wp2_with fail
    (with_reducible refine IX.out.mono ?_); rintro e w2 ⟨rfl, hb⟩
    replace OW := Lib.hid (OW.out.call hb)
    have low := hb.mono hbase
    clear hb IX
    go_wp2_with fail
    go_loopw [5, 6] (fun vi vj wr => ∃ i j : Nat, vi = .int .i64 i ∧ vj = .int .i64 j ∧ Hid (∃ xs, DelG p l i j xs ∧ elD.Own wr g (.slice (some ⟨g, 0, none⟩) l.length c) xs) ∧ Below base w wr) (fun _ vj _ => l.length - (intOf vj).toNat)
    case atStart => exact ⟨k, k + 1, rfl, by go_num, Lib.hid ⟨l, D0.out, OW.out⟩, low⟩
    case round =>
      clear OW low
      obtain ⟨i, j, rfl, rfl, hd, low⟩ := hrel
      obtain ⟨xs, del, own⟩ := hd.out
      have DEL := Lib.hid del
      have OW := Lib.hid own
      have hij := del.lt
      have hjl := del.le
      have HX := Lib.hid del.len
      have hsz : base ≤ wr.heap.size := Nat.le_trans hbase low.size
      clear hd del own
      by_cases hlt : j < l.length
      · have hy : l[j]? = some l[j] := List.getElem?_eq_getElem _
        generalize l[j] = y at hy
        obtain ⟨c0, c1, c2, c3⟩ : DeedAt wr g (0 + j * 4) y := by
          obtain ⟨_, A2, cc, e2, _, _, h3⟩ := OW.out.r
          obtain ⟨b2, o2, e3, hb2, hc2⟩ := h3 (by rw [HX.out]; omega)
          subst e3
          simp only [Value.slice.injEq, Option.some.injEq, Addr.mk.injEq] at e2
          obtain ⟨⟨rfl, rfl, _⟩, _⟩ := e2
          exact deedAt_of hc2 hb2 (Below.refl _ _) (DEL.out.at_ hy)
        have HY := Lib.hid hy
        have S := Lib.hid (CC.out y)
        obtain ⟨dn, dk, da, dv⟩ := y
        simp only [Nat.zero_add] at c0 c1 c2 c3
        have j1 : (j : Int) < l.length := by omega
        have i1 : (i : Int) < l.length := by omega
        have i2 : i < xs.length := by rw [HX.out]; omega
        have I2 := Lib.hid i2
        clear hy i2
        have vb := Box.new wr 30 #[.int .i64 dn, .int .i64 dk, .int .i64 da, .int .u64 dv]
        replace low := low.alloc hsz (.cells #[.int .i64 dn, .int .i64 dk, .int .i64 da, .int .u64 dv] 30)
        replace OW := Lib.hid (OW.out.alloc (.cells #[.int .i64 dn, .int .i64 dk, .int .i64 da, .int .u64 dv] 30))
        have S2 := Lib.hid (S.out _ (low0.trans low))
        clear S
        generalize hp : p ⟨dn, dk, da, dv⟩ = B at S2
        have HP := Lib.hid hp
        clear hp
        go_wp2_with fail
        (with_reducible refine S2.out.mono ?_); rintro e w3 ⟨rfl, hb3⟩
        replace vb := vb.call hb3
        replace OW := Lib.hid (OW.out.call hb3)
        replace low := low.trans (hb3.mono (by simp; omega))
        clear hb3 c0 c1 c2 c3 S2
        cases B
        · have DK := Lib.hid (DEL.out.keep HY.out HP.out)
          have vb_0 := vb.at_ 0 rfl
          have vb_1 := vb.at_ 1 rfl
          have vb_2 := vb.at_ 2 rfl
          have vb_3 := vb.at_ 3 rfl
          clear DEL
          go_wp2_with (refine wpList_put (E := elD) rfl (.tmp 33) (.tmp 32) rfl i ⟨dn, dk, da, dv⟩ OW.out I2.out rfl rfl ?_)
          intro w7 own7 st7
          replace low := st7.low low hg
          have OW7 := Lib.hid own7
          clear own7 st7 OW vb
          clear vb_0 vb_1 vb_2 vb_3
          go_wp2_with fail
          go_roundw
          case rel => exact ⟨i + 1, j + 1, by go_num, by go_num, Lib.hid ⟨_, DK.out, OW7.out⟩, low⟩
          case measure => simp [intOf]; omega
        · have DK := Lib.hid (DEL.out.drop HY.out HP.out)
          clear DEL
          go_wp2_with fail
          go_roundw
          case rel => exact ⟨i, j + 1, rfl, by go_num, Lib.hid ⟨_, DK.out, OW.out⟩, low⟩
          case measure => simp [intOf]; omega
      · obtain rfl : j = l.length := by omega
        have i1 : i < l.length := by omega
        have hp4 : ∀ q, q < (l.length - i) * 4 → ∃ u, wr.cell? ⟨g, i * 4 + q, none⟩ = some u := fun q hq => by
          obtain ⟨cap, cur, e, hb, h1, h2, h3, h4⟩ := OW.out
          have e1 := h4 (i + q / 4) _ (List.getElem?_eq_getElem (by rw [HX.out]; omega)) (q % 4) (show q % 4 < 4 by omega)
          have e2 : (i + q / 4) * elD.sz + q % 4 = i * 4 + q := by show (i + q / 4) * 4 + q % 4 = _; omega
          rw [e2, List.getElem?_eq_getElem (show q % 4 < 4 by omega)] at e1
          exact ⟨_, (hb.cell _).trans e1⟩
        have CL : ∀ ty, (Builtin.clear_ #[26] ty #[.slice (some ⟨g, i * 4, none⟩) (l.length - i) (c - i)]).run Try.prog wr = .ok (.tuple #[]) (wr.setCells g (i * 4) (Builtin.zeroCells (Value.agg #[.int .i64 0, .int .i64 0, .int .i64 0, .int .u64 0]).cells (l.length - i)).toList) := fun ty =>
          run_clear_many wr 26 30 ty (.agg #[.int .i64 0, .int .i64 0, .int .i64 0, .int .u64 0]) Try.underlying26 (fun w => by kernel_rfl) g (i * 4) (l.length - i) (c - i) (by omega)
            (fun u hu => by
              obtain ⟨q, hq, rfl⟩ := List.getElem_of_mem hu
              have hm : q % 4 < 4 := by omega
              simp only [Builtin.zeroCells, Array.getElem_toList, Array.getElem_map, Array.getElem_range, Value.cells]
              match q % 4, hm with
              | 0, _ | 1, _ | 2, _ | 3, _ => simp [Value.oneCell'])
            (fun q hq => by obtain ⟨u, hu⟩ := hp4 q hq; rw [hu]; rfl)
            (fun q _ => by obtain ⟨_, _, _, hb, _⟩ := OW.out; exact hb.frozen _)
        have FR := Lib.hid DEL.out.front
        rw [List.take_length] at FR
        obtain ⟨CO, CS⟩ := OW.out.cut (i := i) HX.out (by omega) (Builtin.zeroCells (Value.agg #[.int .i64 0, .int .i64 0, .int .i64 0, .int .u64 0]).cells (l.length - i)).toList (by
          rw [Array.length_toList, size_zeroCells]
          show i * 4 + (l.length - i) * 4 ≤ l.length * 4
          omega)
        have ro := CO.r
        rw [FR.out] at ro
        have SZ := Lib.hid (by have := DEL.out.size; rw [List.take_length] at this; exact this)
        have OUT := Lib.hid (Ds.of ro)
        have ST := Lib.hid (CS.low low hg)
        clear CO CS ro OW DEL HX low hp4
        go_wp2_with fail
        go_ret
        refine ⟨⟨.slice (some ⟨g, 0, none⟩) (l.filter fun x => !p x).length c, ?_, OUT.out⟩, ST.out⟩
        rw [SZ.out]
        rfl
end Go.Proofs.Ytckmcfpeemkdoaa
