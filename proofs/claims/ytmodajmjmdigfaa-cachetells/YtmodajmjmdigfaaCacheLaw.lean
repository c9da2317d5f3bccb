/-
Proved: the law 'CacheTells' returns true where the calls that it makes return what is told. Conditions: the contracts of these calls.
-/
import Derived.Test.YtmodajmjmdigfaaRefCache3
import Derived.Test.YtmodajmjmdigfaaCacheSpec
import Derived.Test.YtmodajmjmdigfaaCacheOpen
namespace Go.Proofs.Ytmodajmjmdigfaa.cacheTells
open Go.ChangeShapes Go.WideShapes Go.ChangeAt Go.RowKit Go.Joins

/-- Behind a call that gives a cache, a way and an error; a cache and an error; ways and an error. -/
abbrev GaveP (w : World) (sa : List St) (z : Wy) (E : Int) (e : Ending) (w' : World) : Prop :=
  (∃ A c, e = .returned (.tuple #[.slice A sa.length c, z.val, .int .i64 E]) ∧ Cs w' (.slice A sa.length c) sa) ∧ Below w.heap.size w w'
abbrev GaveS (w : World) (sa : List St) (E : Int) (e : Ending) (w' : World) : Prop :=
  (∃ A c, e = .returned (.tuple #[.slice A sa.length c, .int .i64 E]) ∧ Cs w' (.slice A sa.length c) sa) ∧ Below w.heap.size w w'
abbrev GaveL (w : World) (l : List Wy) (E : Int) (e : Ending) (w' : World) : Prop :=
  (∃ A c, e = .returned (.tuple #[.slice A l.length c, .int .i64 E]) ∧ Ws w' (.slice A l.length c) l) ∧ Below w.heap.size w w'

/-- The cases of the line. -/
def LineCase (n s y b : Int) (v : Value) (ss : List St) (m : Int) (zf : Wy) (pf : Bool) (Ef : Int) (sb : List St) (took : Wy) (ET : Int) : Prop :=
  (lnB m = false ∧ zf = wy0 ∧ pf = false ∧ Ef = 4 ∧ sb = [] ∧ took = wy0 ∧ ET = 4) ∨
  (lnB m = true ∧ pf = false ∧ zf = wy0 ∧ Ef = 0 ∧ sb = [] ∧ took = wy0 ∧ ET = 5) ∨
  (lnB m = true ∧ pf = true ∧ Ef = 0 ∧ ET = 0 ∧ ∀ w, Cs w v ss → Calls Try.prog 28 #[cfg n s y b, v, .int .i64 m] w (fun e w' => (∃ A c, e = .returned (.tuple #[.slice A sb.length c, took.val]) ∧ Cs w' (.slice A sb.length c) sb) ∧ Below w.heap.size w w'))
/-- The cases of the way. -/
def WayCase (n s y b : Int) (v : Value) (ss : List St) (x : Wy) (pr : Bool) (sa : List St) (old : Wy) (EP : Int) (sd : List St) (ES : Int) : Prop :=
  (hlB x = false ∧ sa = [] ∧ old = wy0 ∧ EP = 4 ∧ sd = [] ∧ ES = 4) ∨
  (hlB x = true ∧ pr = true ∧ sa = [] ∧ old = wy0 ∧ EP = 6 ∧ ES = 0 ∧ ∀ w, Cs w v ss → Calls Try.prog 30 #[cfg n s y b, v, x.val, .bool true] w (fun e w' => (∃ A c, e = .returned (.slice A sd.length c) ∧ Cs w' (.slice A sd.length c) sd) ∧ Below w.heap.size w w')) ∨
  (hlB x = true ∧ pr = false ∧ EP = 0 ∧ ES = 5 ∧ sd = [] ∧ ∀ w, Cs w v ss → Calls Try.prog 31 #[cfg n s y b, v, x.val] w (fun e w' => (∃ A c, e = .returned (.tuple #[.slice A sa.length c, old.val]) ∧ Cs w' (.slice A sa.length c) sa) ∧ Below w.heap.size w w'))

theorem wayF_bad {x : Wy} (h : hlB x = false) : (wayF x != 0) = true ∨ ((wayF x != 0) = false ∧ (x.st == 0) = true) := by
  unfold wayF
  by_cases hs : stB x.st = true ∧ lnB x.ln = true
  · rw [if_pos hs]
    refine .inr ⟨rfl, ?_⟩
    have h1 : 0 ≤ x.st ∧ x.st ≤ 4 := by simpa [stB] using hs.1
    simp only [hlB, hs.2, Bool.and_true] at h
    have h2 : ¬ (1 ≤ x.st ∧ x.st ≤ 4) := by simpa [rdB] using h
    simp
    omega
  · rw [if_neg hs]
    exact .inl rfl

theorem wayF_good {x : Wy} (h : hlB x = true) : wayF x = 0 ∧ (x.st == 0) = false := by
  obtain ⟨_, h0⟩ := wayE_of h
  simp only [hlB, Bool.and_eq_true] at h
  have h1 : 1 ≤ x.st ∧ x.st ≤ 4 := by simpa [rdB] using h.1
  have hs : stB x.st = true := decide_eq_true (by omega)
  refine ⟨by unfold wayF; rw [if_pos ⟨hs, h.2⟩], by simpa using h0⟩



set_option maxRecDepth 100000 in
set_option maxHeartbeats 8000000 in
theorem walk_all (n s y b : Int) (v : Value) (ss : List St) (m : Int) (x : Wy) (w : World) (h : Cs w v ss) (sf : List St) (e1 : Int) (zf : Wy) (pf : Bool) (Ef : Int) (sa : List St) (old : Wy) (EP : Int) (sb : List St) (took : Wy) (ET : Int) (sd : List St) (ES : Int) (sl : List Wy) (EL : Int)
    (N : ∀ w, Calls Try.prog 14 #[cfg n s y b] w (GaveS w sf e1))
    (F : ∀ w, Cs w v ss → Calls Try.prog 15 #[cfg n s y b, v, .int .i64 m] w fun e w' => e = .returned (.tuple #[zf.val, .bool pf, .int .i64 Ef]) ∧ Below w.heap.size w w')
    (P : ∀ w, Cs w v ss → Calls Try.prog 16 #[cfg n s y b, v, x.val] w (GaveP w sa old EP))
    (T : ∀ w, Cs w v ss → Calls Try.prog 17 #[cfg n s y b, v, .int .i64 m] w (GaveP w sb took ET))
    (S : ∀ w, Cs w v ss → Calls Try.prog 18 #[cfg n s y b, v, x.val] w (GaveS w sd ES))
    (L : ∀ w, Cs w v ss → Calls Try.prog 19 #[cfg n s y b, v] w (GaveL w sl EL))
    (E : Int) (hE : cacheE n s y b ss = E)
    (hcfg : (cfgB n s y b = false ∧ sf = [] ∧ e1 = 4 ∧ E = 4) ∨ (cfgB n s y b = true ∧ e1 = 0 ∧ ∀ w, Calls Try.prog 22 #[cfg n s y b] w (fun e w' => (∃ A c, e = .returned (.slice A sf.length c) ∧ Cs w' (.slice A sf.length c) sf) ∧ Below w.heap.size w w')))
    (hbody : (E ≠ 0 ∧ zf = wy0 ∧ pf = false ∧ Ef = E ∧ sa = [] ∧ old = wy0 ∧ EP = E ∧ sb = [] ∧ took = wy0 ∧ ET = E ∧ sd = [] ∧ ES = E ∧ sl = [] ∧ EL = E) ∨
      (E = 0 ∧ sl = allW ss ∧ EL = 0 ∧ GoodC n s y b ss ∧ (∃ pt zt, (lnB m = true → pt = pf ∧ zt = zf) ∧ ∀ w, Cs w v ss → Calls Try.prog 26 #[v, .int .i64 m] w fun e w' => e = .returned (.tuple #[Wy.val zt, .bool pt]) ∧ Below w.heap.size w w') ∧
        LineCase n s y b v ss m zf pf Ef sb took ET ∧ ∃ pr zr, (∀ w, Cs w v ss → Calls Try.prog 26 #[v, .int .i64 x.ln] w fun e w' => e = .returned (.tuple #[Wy.val zr, .bool pr]) ∧ Below w.heap.size w w') ∧ WayCase n s y b v ss x pr sa old EP sd ES)) :
    Calls Try.prog 4 #[cfg n s y b, v, .int .i64 m, x.val] w fun e w' => e = .returned (.bool true) ∧ Below w.heap.size w w' := by
  have CK := Lib.hid fun w h => cacheCheck_any n s y b v ss w h
  have CF := Lib.hid fun w h => cacheFault_any n s y b v ss w h
  rw [hE] at CK CF
  replace N := Lib.hid N
  replace F := Lib.hid F
  replace P := Lib.hid P
  replace T := Lib.hid T
  replace S := Lib.hid S
  replace L := Lib.hid L
  have HCF := Lib.hid hcfg
  have HB := Lib.hid hbody
  clear hE hcfg hbody
  obtain ⟨A, cp, rfl⟩ : ∃ A cp, v = .slice A ss.length cp := by obtain ⟨A, c, e, _⟩ := h; exact ⟨A, c, e⟩
  have eqW0 := fun w => eqWay wy0 wy0 w
  simp only [Wy.val, wy0, show eqW ⟨0, 0, 0, 0, 0, 0⟩ ⟨0, 0, 0, 0, 0, 0⟩ = true from rfl] at eqW0
  have low := Below.refl w.heap.size w
  have cb := boxNext low 44 (cfgA n s y b)
  replace low := gAlloc low (.cells (cfgA n s y b) 44)
  replace h := h.alloc (.cells (cfgA n s y b) 44)
  try simp only [World.size_alloc] at cb
  have xb := boxNext low 32 x.arr
  replace low := gAlloc low (.cells x.arr 32)
  replace h := h.alloc (.cells x.arr 32)
  replace cb := cb.alloc (.cells x.arr 32)
  try simp only [World.size_alloc] at xb
  simp only [Wy.arr] at xb
  go_enter Try.func4, Try.ntmps4
  go_wp2_with fail
  (with_reducible refine (N.out _).mono ?_); rintro e w1 ⟨⟨Af, cf, rfl, hf⟩, hb⟩
  replace h := h.call hb
  replace cb := cb.call hb
  replace xb := xb.call hb
  replace low := gCall low hb
  clear hb N
  have cb_0 := cb.at_ 0 rfl
  have cb_1 := cb.at_ 1 rfl
  have cb_2 := cb.at_ 2 rfl
  have cb_3 := cb.at_ 3 rfl
  go_wp2_with fail
  (with_reducible refine (F.out _ h).mono ?_); rintro e w2 ⟨rfl, hb⟩
  replace h := h.call hb
  replace cb := cb.call hb
  replace xb := xb.call hb
  replace hf := hf.call hb
  replace low := gCall low hb
  clear hb cb_0 cb_1 cb_2 cb_3
  have fb := boxNext low 32 zf.arr
  replace low := gAlloc low (.cells zf.arr 32)
  replace h := h.alloc (.cells zf.arr 32)
  replace cb := cb.alloc (.cells zf.arr 32)
  replace xb := xb.alloc (.cells zf.arr 32)
  replace hf := hf.alloc (.cells zf.arr 32)
  try simp only [World.size_alloc] at fb
  simp only [Wy.arr] at fb
  have cb_0 := cb.at_ 0 rfl
  have cb_1 := cb.at_ 1 rfl
  have cb_2 := cb.at_ 2 rfl
  have cb_3 := cb.at_ 3 rfl
  have xb_0 := xb.at_ 0 rfl
  have xb_1 := xb.at_ 1 rfl
  have xb_2 := xb.at_ 2 rfl
  have xb_3 := xb.at_ 3 rfl
  have xb_4 := xb.at_ 4 rfl
  have xb_5 := xb.at_ 5 rfl
  go_wp2_with fail
  (with_reducible refine (P.out _ h).mono ?_); rintro e w3 ⟨⟨Aa, ca, rfl, ha⟩, hb⟩
  clear cb_0 cb_1 cb_2 cb_3 xb_0 xb_1 xb_2 xb_3 xb_4 xb_5
  replace h := h.call hb
  replace cb := cb.call hb
  replace xb := xb.call hb
  replace hf := hf.call hb
  replace low := gCall low hb
  replace fb := fb.call hb
  clear hb F P
  have ob := boxNext low 32 old.arr
  replace low := gAlloc low (.cells old.arr 32)
  replace h := h.alloc (.cells old.arr 32)
  replace cb := cb.alloc (.cells old.arr 32)
  replace xb := xb.alloc (.cells old.arr 32)
  replace hf := hf.alloc (.cells old.arr 32)
  replace fb := fb.alloc (.cells old.arr 32)
  replace ha := ha.alloc (.cells old.arr 32)
  try simp only [World.size_alloc] at ob
  simp only [Wy.arr] at ob
  have cb_0 := cb.at_ 0 rfl
  have cb_1 := cb.at_ 1 rfl
  have cb_2 := cb.at_ 2 rfl
  have cb_3 := cb.at_ 3 rfl
  go_wp2_with fail
  (with_reducible refine (T.out _ h).mono ?_); rintro e w4 ⟨⟨Ab, cb', rfl, hbb⟩, hb⟩
  clear cb_0 cb_1 cb_2 cb_3
  replace h := h.call hb
  replace cb := cb.call hb
  replace xb := xb.call hb
  replace hf := hf.call hb
  replace low := gCall low hb
  replace fb := fb.call hb
  replace ob := ob.call hb
  replace ha := ha.call hb
  clear hb T
  have tb := boxNext low 32 took.arr
  replace low := gAlloc low (.cells took.arr 32)
  replace h := h.alloc (.cells took.arr 32)
  replace cb := cb.alloc (.cells took.arr 32)
  replace xb := xb.alloc (.cells took.arr 32)
  replace hf := hf.alloc (.cells took.arr 32)
  replace fb := fb.alloc (.cells took.arr 32)
  replace ha := ha.alloc (.cells took.arr 32)
  replace ob := ob.alloc (.cells took.arr 32)
  replace hbb := hbb.alloc (.cells took.arr 32)
  try simp only [World.size_alloc] at tb
  simp only [Wy.arr] at tb
  have cb_0 := cb.at_ 0 rfl
  have cb_1 := cb.at_ 1 rfl
  have cb_2 := cb.at_ 2 rfl
  have cb_3 := cb.at_ 3 rfl
  have xb_0 := xb.at_ 0 rfl
  have xb_1 := xb.at_ 1 rfl
  have xb_2 := xb.at_ 2 rfl
  have xb_3 := xb.at_ 3 rfl
  have xb_4 := xb.at_ 4 rfl
  have xb_5 := xb.at_ 5 rfl
  go_wp2_with fail
  (with_reducible refine (S.out _ h).mono ?_); rintro e w5 ⟨⟨Ad, cd, rfl, hd⟩, hb⟩
  clear cb_0 cb_1 cb_2 cb_3 xb_0 xb_1 xb_2 xb_3 xb_4 xb_5
  replace h := h.call hb
  replace cb := cb.call hb
  replace xb := xb.call hb
  replace hf := hf.call hb
  replace low := gCall low hb
  replace fb := fb.call hb
  replace ob := ob.call hb
  replace ha := ha.call hb
  replace tb := tb.call hb
  replace hbb := hbb.call hb
  clear hb S
  have cb_0 := cb.at_ 0 rfl
  have cb_1 := cb.at_ 1 rfl
  have cb_2 := cb.at_ 2 rfl
  have cb_3 := cb.at_ 3 rfl
  go_wp2_with fail
  (with_reducible refine (L.out _ h).mono ?_); rintro e w6 ⟨⟨Al, cl, rfl, hl⟩, hb⟩
  clear cb_0 cb_1 cb_2 cb_3
  replace h := h.call hb
  replace cb := cb.call hb
  replace xb := xb.call hb
  replace hf := hf.call hb
  replace low := gCall low hb
  replace fb := fb.call hb
  replace ob := ob.call hb
  replace ha := ha.call hb
  replace tb := tb.call hb
  replace hbb := hbb.call hb
  replace hd := hd.call hb
  clear hb L
  rcases HCF.out with ⟨c1, rfl, rfl, rfl⟩ | ⟨c1, rfl, ec⟩
  · have CG := Lib.hid fun w => configFault_bad n s y b w c1
    rcases HB.out with ⟨_, rfl, rfl, rfl, rfl, rfl, rfl, rfl, rfl, rfl, rfl, rfl, rfl, rfl⟩ | ⟨e, _⟩
    rotate_left
    · cases e
    clear c1 HCF HB
    simp only [Wy.arr, wy0] at fb ob tb
    have cb_0 := cb.at_ 0 rfl
    have cb_1 := cb.at_ 1 rfl
    have cb_2 := cb.at_ 2 rfl
    have cb_3 := cb.at_ 3 rfl
    go_wp2_with fail
    (with_reducible refine (CG.out _).mono ?_); rintro e w7 ⟨rfl, hb⟩
    replace h := h.call hb
    replace cb := cb.call hb
    replace xb := xb.call hb
    replace fb := fb.call hb
    replace ob := ob.call hb
    replace tb := tb.call hb
    replace low := gCall low hb
    clear hb cb_0 cb_1 cb_2 cb_3
    have cb_0 := cb.at_ 0 rfl
    have cb_1 := cb.at_ 1 rfl
    have cb_2 := cb.at_ 2 rfl
    have cb_3 := cb.at_ 3 rfl
    go_wp2_with fail
    (with_reducible refine (CF.out _ h).mono ?_); rintro e w8 ⟨rfl, hb⟩
    replace h := h.call hb
    replace cb := cb.call hb
    replace xb := xb.call hb
    replace fb := fb.call hb
    replace ob := ob.call hb
    replace tb := tb.call hb
    replace low := gCall low hb
    clear hb cb_0 cb_1 cb_2 cb_3
    have cb_0 := cb.at_ 0 rfl
    have cb_1 := cb.at_ 1 rfl
    have cb_2 := cb.at_ 2 rfl
    have cb_3 := cb.at_ 3 rfl
    go_wp2_with fail
    (with_reducible refine (CK.out _ h).mono ?_); rintro e w9 ⟨rfl, hb⟩
    replace h := h.call hb
    replace cb := cb.call hb
    replace xb := xb.call hb
    replace fb := fb.call hb
    replace ob := ob.call hb
    replace tb := tb.call hb
    replace low := gCall low hb
    clear hb cb_0 cb_1 cb_2 cb_3
    have fb_0 := fb.at_ 0 rfl
    have fb_1 := fb.at_ 1 rfl
    have fb_2 := fb.at_ 2 rfl
    have fb_3 := fb.at_ 3 rfl
    have fb_4 := fb.at_ 4 rfl
    have fb_5 := fb.at_ 5 rfl
    have ob_0 := ob.at_ 0 rfl
    have ob_1 := ob.at_ 1 rfl
    have ob_2 := ob.at_ 2 rfl
    have ob_3 := ob.at_ 3 rfl
    have ob_4 := ob.at_ 4 rfl
    have ob_5 := ob.at_ 5 rfl
    have tb_0 := tb.at_ 0 rfl
    have tb_1 := tb.at_ 1 rfl
    have tb_2 := tb.at_ 2 rfl
    have tb_3 := tb.at_ 3 rfl
    have tb_4 := tb.at_ 4 rfl
    have tb_5 := tb.at_ 5 rfl
    go_wp2_with fail
    go_ret
    exact ⟨rfl, low⟩
  · have CG := Lib.hid fun w => configFault_ok n s y b w c1
    have EC := Lib.hid ec
    clear c1 ec HCF
    have cb_0 := cb.at_ 0 rfl
    have cb_1 := cb.at_ 1 rfl
    have cb_2 := cb.at_ 2 rfl
    have cb_3 := cb.at_ 3 rfl
    go_wp2_with fail
    (with_reducible refine (CG.out _).mono ?_); rintro e w7 ⟨rfl, hb⟩
    replace h := h.call hb
    replace cb := cb.call hb
    replace xb := xb.call hb
    replace hf := hf.call hb
    replace fb := fb.call hb
    replace ob := ob.call hb
    replace tb := tb.call hb
    replace ha := ha.call hb
    replace hbb := hbb.call hb
    replace hd := hd.call hb
    replace hl := hl.call hb
    replace low := gCall low hb
    clear hb cb_0 cb_1 cb_2 cb_3
    have cb_0 := cb.at_ 0 rfl
    have cb_1 := cb.at_ 1 rfl
    have cb_2 := cb.at_ 2 rfl
    have cb_3 := cb.at_ 3 rfl
    go_wp2_with fail
    (with_reducible refine (EC.out _).mono ?_); rintro e w8 ⟨⟨Ae, ce, rfl, he⟩, hb⟩
    clear cb_0 cb_1 cb_2 cb_3
    replace h := h.call hb
    replace cb := cb.call hb
    replace xb := xb.call hb
    replace fb := fb.call hb
    replace ob := ob.call hb
    replace tb := tb.call hb
    replace ha := ha.call hb
    replace hbb := hbb.call hb
    replace hd := hd.call hb
    replace hl := hl.call hb
    replace low := gCall low hb
    replace hf := hf.call hb
    clear hb EC CG
    go_wp2_with fail
    (with_reducible refine (sameCache_yes _ _ sf _ hf he).mono ?_); rintro e w9 ⟨rfl, hb⟩
    replace h := h.call hb
    replace cb := cb.call hb
    replace xb := xb.call hb
    replace fb := fb.call hb
    replace ob := ob.call hb
    replace tb := tb.call hb
    replace ha := ha.call hb
    replace hbb := hbb.call hb
    replace hd := hd.call hb
    replace hl := hl.call hb
    replace low := gCall low hb
    clear hb hf he
    have cb_0 := cb.at_ 0 rfl
    have cb_1 := cb.at_ 1 rfl
    have cb_2 := cb.at_ 2 rfl
    have cb_3 := cb.at_ 3 rfl
    go_wp2_with fail
    (with_reducible refine (CF.out _ h).mono ?_); rintro e w10 ⟨rfl, hb⟩
    replace h := h.call hb
    replace cb := cb.call hb
    replace xb := xb.call hb
    replace fb := fb.call hb
    replace ob := ob.call hb
    replace tb := tb.call hb
    replace ha := ha.call hb
    replace hbb := hbb.call hb
    replace hd := hd.call hb
    replace hl := hl.call hb
    replace low := gCall low hb
    clear hb cb_0 cb_1 cb_2 cb_3
    have cb_0 := cb.at_ 0 rfl
    have cb_1 := cb.at_ 1 rfl
    have cb_2 := cb.at_ 2 rfl
    have cb_3 := cb.at_ 3 rfl
    go_wp2_with fail
    (with_reducible refine (CK.out _ h).mono ?_); rintro e w11 ⟨rfl, hb⟩
    replace h := h.call hb
    replace cb := cb.call hb
    replace xb := xb.call hb
    replace fb := fb.call hb
    replace ob := ob.call hb
    replace tb := tb.call hb
    replace ha := ha.call hb
    replace hbb := hbb.call hb
    replace hd := hd.call hb
    replace hl := hl.call hb
    replace low := gCall low hb
    clear hb cb_0 cb_1 cb_2 cb_3
    clear CF CK
    rcases HB.out with ⟨e0, rfl, rfl, rfl, rfl, rfl, rfl, rfl, rfl, rfl, rfl, rfl, rfl, rfl⟩ | ⟨rfl, rfl, rfl, good, ⟨pt, zt, hpt, AT⟩, LC, pr, zr, AR, WC⟩
    · have e0' : (EL != 0) = true := by simpa using e0
      clear e0 HB
      simp only [Wy.arr, wy0] at fb ob tb
      have fb_0 := fb.at_ 0 rfl
      have fb_1 := fb.at_ 1 rfl
      have fb_2 := fb.at_ 2 rfl
      have fb_3 := fb.at_ 3 rfl
      have fb_4 := fb.at_ 4 rfl
      have fb_5 := fb.at_ 5 rfl
      have ob_0 := ob.at_ 0 rfl
      have ob_1 := ob.at_ 1 rfl
      have ob_2 := ob.at_ 2 rfl
      have ob_3 := ob.at_ 3 rfl
      have ob_4 := ob.at_ 4 rfl
      have ob_5 := ob.at_ 5 rfl
      have tb_0 := tb.at_ 0 rfl
      have tb_1 := tb.at_ 1 rfl
      have tb_2 := tb.at_ 2 rfl
      have tb_3 := tb.at_ 3 rfl
      have tb_4 := tb.at_ 4 rfl
      have tb_5 := tb.at_ 5 rfl
      go_wp2_with fail
      go_ret
      exact ⟨rfl, low⟩
    clear HB
    have SM := Lib.hid good.small
    have s4 := SM.out.1
    have sl0 : 0 < ss.length := by have := good.2.1; have := cfgB_iff.1 good.1; omega
    have HPT := Lib.hid hpt
    replace AT := Lib.hid AT
    replace LC := Lib.hid LC
    replace AR := Lib.hid AR
    replace WC := Lib.hid WC
    clear hpt good
    obtain ⟨A', cp', e', g1, g2, g3⟩ := id h
    cases e'
    obtain ⟨bb, o, rfl, hb, hc⟩ := g3 sl0
    have HC := Lib.hid hc
    unfold maxLen at g2
    obtain ⟨i0, hi, hz0, hz1, hz2⟩ := info_parts info_way
    have HI := Lib.hid hi
    have HZ := Lib.hid (And.intro hz0 (And.intro hz1 hz2))
    clear g3 hc hi hz0 hz1 hz2
    go_wp2_with fail
    go_loopw [26, 184] (fun s i wr => ∃ k m : Nat, k ≤ ss.length ∧ i = .int .i64 k ∧ m ≤ k * 4 ∧ Hid (m = (allW (ss.take k)).length) ∧ wr.ownsRow w11.heap.size 32 6 s m (waysC (allW (ss.take k))) ∧ Below w11.heap.size w11 wr) (fun _ i _ => ss.length - (intOf i).toNat)
    case atStart => exact ⟨0, 0, Nat.zero_le _, rfl, Nat.zero_le _, Lib.hid rfl, World.ownsRow_nil _ _ _ _, Below.refl _ _⟩
    case round =>
      obtain ⟨k, mm, hk, rfl, mk, hm, own, near⟩ := hrel
      obtain ⟨As, cs, rfl⟩ := own_shape own
      by_cases hlt : k < ss.length
      · have hx : ss[k]? = some ss[k] := List.getElem?_eq_getElem _
        generalize ss[k] = t at hx
        obtain ⟨A', c', ra, ws⟩ := HC.out.at_ k t hx
        obtain ⟨c0, c1, c2, c3⟩ := rowAt_of ra hb near
        obtain ⟨t0, t4⟩ := SM.out.2 k t hx
        obtain ⟨hly, A2, cx, e2, g1', g2', g3⟩ := ws
        cases e2
        obtain ⟨b2, o2, rfl, hb2, hc2⟩ := g3 t0
        have HC2 := Lib.hid hc2
        have AS := Lib.hid (allW_succ hx)
        have k0 : (0 : Int) ≤ k := by omega
        have k1 : (k : Int) < ss.length := by omega
        unfold maxLen at g2'
        clear hx ra hly g3 hc2
        have rb := Box.new wr 26 (rowA (.slice (some ⟨b2, o2, none⟩) t.l.length c') t.a t.b t.c)
        replace near := near.alloc near.size (.cells (rowA (.slice (some ⟨b2, o2, none⟩) t.l.length c') t.a t.b t.c) 26)
        replace own := own.alloc (.cells (rowA (.slice (some ⟨b2, o2, none⟩) t.l.length c') t.a t.b t.c) 26)
        have rb_0 := rb.at_ 0 rfl
        go_wp2_with fail
        go_loopw [26, 191] (fun s i wx => ∃ j p : Nat, j ≤ t.l.length ∧ i = .int .i64 j ∧ p ≤ k * 4 + j ∧ Hid (p = (allW (ss.take k) ++ (t.l.take j).filter heldB).length) ∧ wx.ownsRow w11.heap.size 32 6 s p (waysC (allW (ss.take k) ++ (t.l.take j).filter heldB)) ∧ Below w11.heap.size w11 wx) (fun _ i _ => t.l.length - (intOf i).toNat)
        case atStart => exact ⟨0, mm, Nat.zero_le _, rfl, by omega, Lib.hid (by simpa using hm.out), by simpa using own, near⟩
        case round =>
          clear rb_0
          clear own near rb
          obtain ⟨j, p, hj, rfl, pk, hp, own, near⟩ := hrel
          obtain ⟨Ap, cq, rfl⟩ := own_shape own
          by_cases hlt2 : j < t.l.length
          · have hz : t.l[j]? = some t.l[j] := List.getElem?_eq_getElem _
            generalize t.l[j] = z at hz
            obtain ⟨x0, x1, x2, x3, x4, x5⟩ := wayAt_of HC2.out hb2 near hz
            have FSuc := Lib.hid (filter_succ (p := heldB) hz)
            clear hz
            have j0 : (0 : Int) ≤ j := by omega
            have j1 : (j : Int) < t.l.length := by omega
            have lz := near.size
            have zb := Box.new wr 32 z.arr
            replace near := near.alloc near.size (.cells z.arr 32)
            replace own := own.alloc (.cells z.arr 32)
            have zb_0 := zb.at_ 0 rfl
            have zb_1 := zb.at_ 1 rfl
            have zb_2 := zb.at_ 2 rfl
            have zb_3 := zb.at_ 3 rfl
            have zb_4 := zb.at_ 4 rfl
            have zb_5 := zb.at_ 5 rfl
            cases hzs : (z.st != 0)
            · replace FSuc := FSuc.out
              rw [if_neg (by unfold heldB; rw [hzs]; decide), List.append_nil] at FSuc
              replace FSuc := Lib.hid FSuc
              go_wp2_with fail
              go_roundw
              case rel => exact ⟨j + 1, p, by omega, by go_num, by omega, Lib.hid (by rw [FSuc.out]; exact hp.out), by rw [FSuc.out]; exact own, near⟩
              case measure => simp [intOf]; omega
            · replace FSuc := FSuc.out
              rw [if_pos (by unfold heldB; exact hzs)] at FSuc
              replace FSuc := Lib.hid FSuc
              go_wp2_with (at_builtin; refine wpList_append_own _ rfl _ _ 22 rfl w11.heap.size 32 i0 wy0.val 6 48 Try.underlying22 HI.out HZ.out.1 HZ.out.2.1 HZ.out.2.2 rfl (by decide) _ _ _ rfl (own.alloc _) ⟨wr.heap.size + 1, 0, none⟩ 1 1 z.cells rfl rfl ?e1 (waysC_one1 z) ?e3 ?e4 ?e5 ?_)
              case e1 => exact fun q u hq => new_cells _ _ z _ q u (by simp) hq
              case e3 => unfold maxLen; omega
              case e4 => omega
              case e5 => simp; omega
              intro v4 w4' own4 grow4 _
              obtain ⟨A4, c4', rfl⟩ := own_shape own4
              replace near : Below w11.heap.size w11 w4' := (near.alloc near.size (.cells z.arr 32)).grown grow4 (by simp; omega) (fun g e => by have := own.lt _ e; omega)
              clear zb_0 zb_1 zb_2 zb_3 zb_4 zb_5
              clear grow4 own x0 x1 x2 x3 x4 x5 zb
              rw [← waysC_single, ← waysC_append, List.append_assoc, ← FSuc.out] at own4
              go_wp2_with fail
              go_roundw
              case rel => exact ⟨j + 1, p + 1, by omega, by go_num, by omega, Lib.hid (by rw [FSuc.out, ← List.append_assoc, List.length_append, ← hp.out]; rfl), own4, near⟩
              case measure => simp [intOf]; omega
          · obtain rfl : j = t.l.length := by omega
            have hp' := hp.out
            rw [List.take_length, ← AS.out] at hp' own
            have HP := Lib.hid hp'
            clear hp hp'
            go_wp2_with fail
            go_roundw
            case rel => exact ⟨k + 1, p, by omega, by go_num, by omega, HP, own, near⟩
            case measure => simp [intOf]; omega
      · obtain rfl : k = ss.length := by omega
        have hm' := hm.out
        rw [List.take_length] at hm' own
        clear hm
        subst hm'
        have hall := (fr_own own rfl rfl).ws
        clear own
        replace h := h.call near
        replace cb := cb.call near
        replace xb := xb.call near
        replace fb := fb.call near
        replace ob := ob.call near
        replace tb := tb.call near
        replace ha := ha.call near
        replace hbb := hbb.call near
        replace hd := hd.call near
        replace hl := hl.call near
        replace low := gCall low near
        clear near HC SM HI HZ
        go_wp2_with fail
        (with_reducible refine (equalWays_yes _ _ (allW ss) _ hl hall).mono ?_); rintro e w12 ⟨rfl, hb⟩
        replace h := h.call hb
        replace cb := cb.call hb
        replace xb := xb.call hb
        replace fb := fb.call hb
        replace ob := ob.call hb
        replace tb := tb.call hb
        replace ha := ha.call hb
        replace hbb := hbb.call hb
        replace hd := hd.call hb
        replace hl := hl.call hb
        replace low := gCall low hb
        clear hb hl hall
        go_wp2_with fail
        (with_reducible refine (AT.out _ h).mono ?_); rintro e w13 ⟨rfl, hb⟩
        replace h := h.call hb
        replace cb := cb.call hb
        replace xb := xb.call hb
        replace fb := fb.call hb
        replace ob := ob.call hb
        replace tb := tb.call hb
        replace ha := ha.call hb
        replace hbb := hbb.call hb
        replace hd := hd.call hb
        replace low := gCall low hb
        clear hb AT
        have yb := boxNext low 32 zt.arr
        replace low := gAlloc low (.cells zt.arr 32)
        replace h := h.alloc (.cells zt.arr 32)
        replace cb := cb.alloc (.cells zt.arr 32)
        replace xb := xb.alloc (.cells zt.arr 32)
        replace fb := fb.alloc (.cells zt.arr 32)
        replace ob := ob.alloc (.cells zt.arr 32)
        replace tb := tb.alloc (.cells zt.arr 32)
        replace ha := ha.alloc (.cells zt.arr 32)
        replace hbb := hbb.alloc (.cells zt.arr 32)
        replace hd := hd.alloc (.cells zt.arr 32)
        try simp only [World.size_alloc] at yb
        simp only [Wy.arr] at yb
        have GL := Lib.hid fun w => refLine_any m w
        rcases LC.out with ⟨l1, rfl, rfl, rfl, rfl, rfl, rfl⟩ | ⟨l1, rfl, rfl, rfl, rfl, rfl, rfl⟩ | ⟨l1, rfl, rfl, rfl, TK⟩
        · rw [l1] at GL
          clear LC HPT l1
          simp only [Wy.arr, wy0] at fb tb
          go_wp2_with fail
          (with_reducible refine (GL.out _).mono ?_); rintro e w' ⟨rfl, rfl⟩
          have fb_0 := fb.at_ 0 rfl
          have fb_1 := fb.at_ 1 rfl
          have fb_2 := fb.at_ 2 rfl
          have fb_3 := fb.at_ 3 rfl
          have fb_4 := fb.at_ 4 rfl
          have fb_5 := fb.at_ 5 rfl
          have tb_0 := tb.at_ 0 rfl
          have tb_1 := tb.at_ 1 rfl
          have tb_2 := tb.at_ 2 rfl
          have tb_3 := tb.at_ 3 rfl
          have tb_4 := tb.at_ 4 rfl
          have tb_5 := tb.at_ 5 rfl
          have WF := Lib.hid fun w => wayFault_any x w
          rcases WC.out with ⟨y1, rfl, rfl, rfl, rfl, rfl⟩ | ⟨y1, rfl, rfl, rfl, rfl, rfl, TC⟩ | ⟨y1, rfl, rfl, rfl, rfl, PC⟩
          · have hg := wayF_bad y1
            generalize wayF x = g at WF hg
            simp only [Wy.arr, wy0] at ob
            clear y1 WC AR
            have xb_0 := xb.at_ 0 rfl
            have xb_1 := xb.at_ 1 rfl
            have xb_2 := xb.at_ 2 rfl
            have xb_3 := xb.at_ 3 rfl
            have xb_4 := xb.at_ 4 rfl
            have xb_5 := xb.at_ 5 rfl
            go_wp2_with fail
            (with_reducible refine (WF.out _).mono ?_); rintro e w20 ⟨rfl, hb⟩
            replace xb := xb.call hb
            replace ob := ob.call hb
            replace low := gCall low hb
            clear hb fb_0 fb_1 fb_2 fb_3 fb_4 fb_5 tb_0 tb_1 tb_2 tb_3 tb_4 tb_5 xb_0 xb_1 xb_2 xb_3 xb_4 xb_5
            rcases hg with g1 | ⟨g1, g2⟩
            · have ob_0 := ob.at_ 0 rfl
              have ob_1 := ob.at_ 1 rfl
              have ob_2 := ob.at_ 2 rfl
              have ob_3 := ob.at_ 3 rfl
              have ob_4 := ob.at_ 4 rfl
              have ob_5 := ob.at_ 5 rfl
              go_wp2_with fail
              go_ret
              exact ⟨rfl, low⟩
            · have ob_0 := ob.at_ 0 rfl
              have ob_1 := ob.at_ 1 rfl
              have ob_2 := ob.at_ 2 rfl
              have ob_3 := ob.at_ 3 rfl
              have ob_4 := ob.at_ 4 rfl
              have ob_5 := ob.at_ 5 rfl
              have xb_0 := xb.at_ 0 rfl
              go_wp2_with fail
              go_ret
              exact ⟨rfl, low⟩
          · obtain ⟨g0, g1⟩ := wayF_good y1
            rw [g0] at WF
            have TC := Lib.hid TC
            clear y1 WC g0
            simp only [Wy.arr, wy0] at ob
            have xb_0 := xb.at_ 0 rfl
            have xb_1 := xb.at_ 1 rfl
            have xb_2 := xb.at_ 2 rfl
            have xb_3 := xb.at_ 3 rfl
            have xb_4 := xb.at_ 4 rfl
            have xb_5 := xb.at_ 5 rfl
            go_wp2_with fail
            (with_reducible refine (WF.out _).mono ?_); rintro e w20 ⟨rfl, hb⟩
            replace h := h.call hb
            replace cb := cb.call hb
            replace xb := xb.call hb
            replace ob := ob.call hb
            replace ha := ha.call hb
            replace hd := hd.call hb
            replace low := gCall low hb
            clear hb xb_0 xb_1 xb_2 xb_3 xb_4 xb_5
            have xb_0 := xb.at_ 0 rfl
            have xb_1 := xb.at_ 1 rfl
            go_wp2_with fail
            (with_reducible refine (AR.out _ h).mono ?_); rintro e w21 ⟨rfl, hb⟩
            replace h := h.call hb
            replace cb := cb.call hb
            replace xb := xb.call hb
            replace ob := ob.call hb
            replace ha := ha.call hb
            replace hd := hd.call hb
            replace low := gCall low hb
            clear hb xb_0 xb_1
            have rb := boxNext low 32 zr.arr
            replace low := gAlloc low (.cells zr.arr 32)
            replace h := h.alloc (.cells zr.arr 32)
            replace cb := cb.alloc (.cells zr.arr 32)
            replace xb := xb.alloc (.cells zr.arr 32)
            replace ob := ob.alloc (.cells zr.arr 32)
            replace ha := ha.alloc (.cells zr.arr 32)
            replace hd := hd.alloc (.cells zr.arr 32)
            try simp only [World.size_alloc] at rb
            simp only [Wy.arr] at rb
            have xb_0 := xb.at_ 0 rfl
            have xb_1 := xb.at_ 1 rfl
            have xb_2 := xb.at_ 2 rfl
            have xb_3 := xb.at_ 3 rfl
            have xb_4 := xb.at_ 4 rfl
            have xb_5 := xb.at_ 5 rfl
            have cb_0 := cb.at_ 0 rfl
            have cb_1 := cb.at_ 1 rfl
            have cb_2 := cb.at_ 2 rfl
            have cb_3 := cb.at_ 3 rfl
            have ob_0 := ob.at_ 0 rfl
            have ob_1 := ob.at_ 1 rfl
            have ob_2 := ob.at_ 2 rfl
            have ob_3 := ob.at_ 3 rfl
            have ob_4 := ob.at_ 4 rfl
            have ob_5 := ob.at_ 5 rfl
            go_wp2_with fail
            (with_reducible refine (TC.out _ h).mono ?_); rintro e w22 ⟨⟨At, ct, rfl, ht⟩, hb⟩
            clear xb_0 xb_1 xb_2 xb_3 xb_4 xb_5 cb_0 cb_1 cb_2 cb_3 ob_0 ob_1 ob_2 ob_3 ob_4 ob_5
            replace hd := hd.call hb
            replace low := gCall low hb
            clear hb TC AR
            go_wp2_with fail
            (with_reducible refine (sameCache_yes _ _ sd _ hd ht).mono ?_); rintro e w23 ⟨rfl, hb⟩
            replace low := gCall low hb
            clear hb
            go_wp2_with fail
            go_ret
            exact ⟨rfl, low⟩
          · obtain ⟨g0, g1⟩ := wayF_good y1
            rw [g0] at WF
            have PC := Lib.hid PC
            clear y1 WC g0
            have xb_0 := xb.at_ 0 rfl
            have xb_1 := xb.at_ 1 rfl
            have xb_2 := xb.at_ 2 rfl
            have xb_3 := xb.at_ 3 rfl
            have xb_4 := xb.at_ 4 rfl
            have xb_5 := xb.at_ 5 rfl
            go_wp2_with fail
            (with_reducible refine (WF.out _).mono ?_); rintro e w20 ⟨rfl, hb⟩
            replace h := h.call hb
            replace cb := cb.call hb
            replace xb := xb.call hb
            replace ob := ob.call hb
            replace ha := ha.call hb
            replace hd := hd.call hb
            replace low := gCall low hb
            clear hb xb_0 xb_1 xb_2 xb_3 xb_4 xb_5
            have xb_0 := xb.at_ 0 rfl
            have xb_1 := xb.at_ 1 rfl
            go_wp2_with fail
            (with_reducible refine (AR.out _ h).mono ?_); rintro e w21 ⟨rfl, hb⟩
            replace h := h.call hb
            replace cb := cb.call hb
            replace xb := xb.call hb
            replace ob := ob.call hb
            replace ha := ha.call hb
            replace hd := hd.call hb
            replace low := gCall low hb
            clear hb xb_0 xb_1
            have rb := boxNext low 32 zr.arr
            replace low := gAlloc low (.cells zr.arr 32)
            replace h := h.alloc (.cells zr.arr 32)
            replace cb := cb.alloc (.cells zr.arr 32)
            replace xb := xb.alloc (.cells zr.arr 32)
            replace ob := ob.alloc (.cells zr.arr 32)
            replace ha := ha.alloc (.cells zr.arr 32)
            replace hd := hd.alloc (.cells zr.arr 32)
            try simp only [World.size_alloc] at rb
            simp only [Wy.arr] at rb
            have xb_0 := xb.at_ 0 rfl
            have xb_1 := xb.at_ 1 rfl
            have xb_2 := xb.at_ 2 rfl
            have xb_3 := xb.at_ 3 rfl
            have xb_4 := xb.at_ 4 rfl
            have xb_5 := xb.at_ 5 rfl
            have cb_0 := cb.at_ 0 rfl
            have cb_1 := cb.at_ 1 rfl
            have cb_2 := cb.at_ 2 rfl
            have cb_3 := cb.at_ 3 rfl
            go_wp2_with fail
            (with_reducible refine (PC.out _ h).mono ?_); rintro e w22 ⟨⟨At, ct, rfl, ht⟩, hb⟩
            clear xb_0 xb_1 xb_2 xb_3 xb_4 xb_5 cb_0 cb_1 cb_2 cb_3
            replace ob := ob.call hb
            replace ha := ha.call hb
            replace low := gCall low hb
            clear hb PC AR
            have pb := boxNext low 32 old.arr
            replace low := gAlloc low (.cells old.arr 32)
            replace ob := ob.alloc (.cells old.arr 32)
            replace ha := ha.alloc (.cells old.arr 32)
            replace ht := ht.alloc (.cells old.arr 32)
            try simp only [World.size_alloc] at pb
            simp only [Wy.arr] at pb
            have eqo := fun w => eqWay old old w
            rw [(eqW_iff old old).2 rfl] at eqo
            simp only [Wy.val] at eqo
            go_wp2_with fail
            (with_reducible refine (sameCache_yes _ _ sa _ ha ht).mono ?_); rintro e w23 ⟨rfl, hb⟩
            replace ob := ob.call hb
            replace pb := pb.call hb
            replace low := gCall low hb
            clear hb
            have ob_0 := ob.at_ 0 rfl
            have ob_1 := ob.at_ 1 rfl
            have ob_2 := ob.at_ 2 rfl
            have ob_3 := ob.at_ 3 rfl
            have ob_4 := ob.at_ 4 rfl
            have ob_5 := ob.at_ 5 rfl
            have pb_0 := pb.at_ 0 rfl
            have pb_1 := pb.at_ 1 rfl
            have pb_2 := pb.at_ 2 rfl
            have pb_3 := pb.at_ 3 rfl
            have pb_4 := pb.at_ 4 rfl
            have pb_5 := pb.at_ 5 rfl
            go_wp2_with fail
            go_ret
            exact ⟨rfl, low⟩
        · rw [l1] at GL
          obtain ⟨rfl, hzt⟩ := HPT.out l1
          clear LC HPT l1 hzt
          simp only [Wy.arr, wy0] at fb tb
          go_wp2_with fail
          (with_reducible refine (GL.out _).mono ?_); rintro e w' ⟨rfl, rfl⟩
          have fb_0 := fb.at_ 0 rfl
          have fb_1 := fb.at_ 1 rfl
          have fb_2 := fb.at_ 2 rfl
          have fb_3 := fb.at_ 3 rfl
          have fb_4 := fb.at_ 4 rfl
          have fb_5 := fb.at_ 5 rfl
          have tb_0 := tb.at_ 0 rfl
          have tb_1 := tb.at_ 1 rfl
          have tb_2 := tb.at_ 2 rfl
          have tb_3 := tb.at_ 3 rfl
          have tb_4 := tb.at_ 4 rfl
          have tb_5 := tb.at_ 5 rfl
          have WF := Lib.hid fun w => wayFault_any x w
          rcases WC.out with ⟨y1, rfl, rfl, rfl, rfl, rfl⟩ | ⟨y1, rfl, rfl, rfl, rfl, rfl, TC⟩ | ⟨y1, rfl, rfl, rfl, rfl, PC⟩
          · have hg := wayF_bad y1
            generalize wayF x = g at WF hg
            simp only [Wy.arr, wy0] at ob
            clear y1 WC AR
            have xb_0 := xb.at_ 0 rfl
            have xb_1 := xb.at_ 1 rfl
            have xb_2 := xb.at_ 2 rfl
            have xb_3 := xb.at_ 3 rfl
            have xb_4 := xb.at_ 4 rfl
            have xb_5 := xb.at_ 5 rfl
            go_wp2_with fail
            (with_reducible refine (WF.out _).mono ?_); rintro e w20 ⟨rfl, hb⟩
            replace xb := xb.call hb
            replace ob := ob.call hb
            replace low := gCall low hb
            clear hb fb_0 fb_1 fb_2 fb_3 fb_4 fb_5 tb_0 tb_1 tb_2 tb_3 tb_4 tb_5 xb_0 xb_1 xb_2 xb_3 xb_4 xb_5
            rcases hg with g1 | ⟨g1, g2⟩
            · have ob_0 := ob.at_ 0 rfl
              have ob_1 := ob.at_ 1 rfl
              have ob_2 := ob.at_ 2 rfl
              have ob_3 := ob.at_ 3 rfl
              have ob_4 := ob.at_ 4 rfl
              have ob_5 := ob.at_ 5 rfl
              go_wp2_with fail
              go_ret
              exact ⟨rfl, low⟩
            · have ob_0 := ob.at_ 0 rfl
              have ob_1 := ob.at_ 1 rfl
              have ob_2 := ob.at_ 2 rfl
              have ob_3 := ob.at_ 3 rfl
              have ob_4 := ob.at_ 4 rfl
              have ob_5 := ob.at_ 5 rfl
              have xb_0 := xb.at_ 0 rfl
              go_wp2_with fail
              go_ret
              exact ⟨rfl, low⟩
          · obtain ⟨g0, g1⟩ := wayF_good y1
            rw [g0] at WF
            have TC := Lib.hid TC
            clear y1 WC g0
            simp only [Wy.arr, wy0] at ob
            have xb_0 := xb.at_ 0 rfl
            have xb_1 := xb.at_ 1 rfl
            have xb_2 := xb.at_ 2 rfl
            have xb_3 := xb.at_ 3 rfl
            have xb_4 := xb.at_ 4 rfl
            have xb_5 := xb.at_ 5 rfl
            go_wp2_with fail
            (with_reducible refine (WF.out _).mono ?_); rintro e w20 ⟨rfl, hb⟩
            replace h := h.call hb
            replace cb := cb.call hb
            replace xb := xb.call hb
            replace ob := ob.call hb
            replace ha := ha.call hb
            replace hd := hd.call hb
            replace low := gCall low hb
            clear hb xb_0 xb_1 xb_2 xb_3 xb_4 xb_5
            have xb_0 := xb.at_ 0 rfl
            have xb_1 := xb.at_ 1 rfl
            go_wp2_with fail
            (with_reducible refine (AR.out _ h).mono ?_); rintro e w21 ⟨rfl, hb⟩
            replace h := h.call hb
            replace cb := cb.call hb
            replace xb := xb.call hb
            replace ob := ob.call hb
            replace ha := ha.call hb
            replace hd := hd.call hb
            replace low := gCall low hb
            clear hb xb_0 xb_1
            have rb := boxNext low 32 zr.arr
            replace low := gAlloc low (.cells zr.arr 32)
            replace h := h.alloc (.cells zr.arr 32)
            replace cb := cb.alloc (.cells zr.arr 32)
            replace xb := xb.alloc (.cells zr.arr 32)
            replace ob := ob.alloc (.cells zr.arr 32)
            replace ha := ha.alloc (.cells zr.arr 32)
            replace hd := hd.alloc (.cells zr.arr 32)
            try simp only [World.size_alloc] at rb
            simp only [Wy.arr] at rb
            have xb_0 := xb.at_ 0 rfl
            have xb_1 := xb.at_ 1 rfl
            have xb_2 := xb.at_ 2 rfl
            have xb_3 := xb.at_ 3 rfl
            have xb_4 := xb.at_ 4 rfl
            have xb_5 := xb.at_ 5 rfl
            have cb_0 := cb.at_ 0 rfl
            have cb_1 := cb.at_ 1 rfl
            have cb_2 := cb.at_ 2 rfl
            have cb_3 := cb.at_ 3 rfl
            have ob_0 := ob.at_ 0 rfl
            have ob_1 := ob.at_ 1 rfl
            have ob_2 := ob.at_ 2 rfl
            have ob_3 := ob.at_ 3 rfl
            have ob_4 := ob.at_ 4 rfl
            have ob_5 := ob.at_ 5 rfl
            go_wp2_with fail
            (with_reducible refine (TC.out _ h).mono ?_); rintro e w22 ⟨⟨At, ct, rfl, ht⟩, hb⟩
            clear xb_0 xb_1 xb_2 xb_3 xb_4 xb_5 cb_0 cb_1 cb_2 cb_3 ob_0 ob_1 ob_2 ob_3 ob_4 ob_5
            replace hd := hd.call hb
            replace low := gCall low hb
            clear hb TC AR
            go_wp2_with fail
            (with_reducible refine (sameCache_yes _ _ sd _ hd ht).mono ?_); rintro e w23 ⟨rfl, hb⟩
            replace low := gCall low hb
            clear hb
            go_wp2_with fail
            go_ret
            exact ⟨rfl, low⟩
          · obtain ⟨g0, g1⟩ := wayF_good y1
            rw [g0] at WF
            have PC := Lib.hid PC
            clear y1 WC g0
            have xb_0 := xb.at_ 0 rfl
            have xb_1 := xb.at_ 1 rfl
            have xb_2 := xb.at_ 2 rfl
            have xb_3 := xb.at_ 3 rfl
            have xb_4 := xb.at_ 4 rfl
            have xb_5 := xb.at_ 5 rfl
            go_wp2_with fail
            (with_reducible refine (WF.out _).mono ?_); rintro e w20 ⟨rfl, hb⟩
            replace h := h.call hb
            replace cb := cb.call hb
            replace xb := xb.call hb
            replace ob := ob.call hb
            replace ha := ha.call hb
            replace hd := hd.call hb
            replace low := gCall low hb
            clear hb xb_0 xb_1 xb_2 xb_3 xb_4 xb_5
            have xb_0 := xb.at_ 0 rfl
            have xb_1 := xb.at_ 1 rfl
            go_wp2_with fail
            (with_reducible refine (AR.out _ h).mono ?_); rintro e w21 ⟨rfl, hb⟩
            replace h := h.call hb
            replace cb := cb.call hb
            replace xb := xb.call hb
            replace ob := ob.call hb
            replace ha := ha.call hb
            replace hd := hd.call hb
            replace low := gCall low hb
            clear hb xb_0 xb_1
            have rb := boxNext low 32 zr.arr
            replace low := gAlloc low (.cells zr.arr 32)
            replace h := h.alloc (.cells zr.arr 32)
            replace cb := cb.alloc (.cells zr.arr 32)
            replace xb := xb.alloc (.cells zr.arr 32)
            replace ob := ob.alloc (.cells zr.arr 32)
            replace ha := ha.alloc (.cells zr.arr 32)
            replace hd := hd.alloc (.cells zr.arr 32)
            try simp only [World.size_alloc] at rb
            simp only [Wy.arr] at rb
            have xb_0 := xb.at_ 0 rfl
            have xb_1 := xb.at_ 1 rfl
            have xb_2 := xb.at_ 2 rfl
            have xb_3 := xb.at_ 3 rfl
            have xb_4 := xb.at_ 4 rfl
            have xb_5 := xb.at_ 5 rfl
            have cb_0 := cb.at_ 0 rfl
            have cb_1 := cb.at_ 1 rfl
            have cb_2 := cb.at_ 2 rfl
            have cb_3 := cb.at_ 3 rfl
            go_wp2_with fail
            (with_reducible refine (PC.out _ h).mono ?_); rintro e w22 ⟨⟨At, ct, rfl, ht⟩, hb⟩
            clear xb_0 xb_1 xb_2 xb_3 xb_4 xb_5 cb_0 cb_1 cb_2 cb_3
            replace ob := ob.call hb
            replace ha := ha.call hb
            replace low := gCall low hb
            clear hb PC AR
            have pb := boxNext low 32 old.arr
            replace low := gAlloc low (.cells old.arr 32)
            replace ob := ob.alloc (.cells old.arr 32)
            replace ha := ha.alloc (.cells old.arr 32)
            replace ht := ht.alloc (.cells old.arr 32)
            try simp only [World.size_alloc] at pb
            simp only [Wy.arr] at pb
            have eqo := fun w => eqWay old old w
            rw [(eqW_iff old old).2 rfl] at eqo
            simp only [Wy.val] at eqo
            go_wp2_with fail
            (with_reducible refine (sameCache_yes _ _ sa _ ha ht).mono ?_); rintro e w23 ⟨rfl, hb⟩
            replace ob := ob.call hb
            replace pb := pb.call hb
            replace low := gCall low hb
            clear hb
            have ob_0 := ob.at_ 0 rfl
            have ob_1 := ob.at_ 1 rfl
            have ob_2 := ob.at_ 2 rfl
            have ob_3 := ob.at_ 3 rfl
            have ob_4 := ob.at_ 4 rfl
            have ob_5 := ob.at_ 5 rfl
            have pb_0 := pb.at_ 0 rfl
            have pb_1 := pb.at_ 1 rfl
            have pb_2 := pb.at_ 2 rfl
            have pb_3 := pb.at_ 3 rfl
            have pb_4 := pb.at_ 4 rfl
            have pb_5 := pb.at_ 5 rfl
            go_wp2_with fail
            go_ret
            exact ⟨rfl, low⟩
        · rw [l1] at GL
          obtain ⟨rfl, rfl⟩ := HPT.out l1
          have TK := Lib.hid TK
          clear LC HPT l1
          go_wp2_with fail
          (with_reducible refine (GL.out _).mono ?_); rintro e w' ⟨rfl, rfl⟩
          have cb_0 := cb.at_ 0 rfl
          have cb_1 := cb.at_ 1 rfl
          have cb_2 := cb.at_ 2 rfl
          have cb_3 := cb.at_ 3 rfl
          go_wp2_with fail
          (with_reducible refine (TK.out _ h).mono ?_); rintro e w14 ⟨⟨Ak, ck, rfl, hk'⟩, hb⟩
          clear cb_0 cb_1 cb_2 cb_3
          replace h := h.call hb
          replace cb := cb.call hb
          replace xb := xb.call hb
          replace fb := fb.call hb
          replace ob := ob.call hb
          replace tb := tb.call hb
          replace ha := ha.call hb
          replace hbb := hbb.call hb
          replace hd := hd.call hb
          replace low := gCall low hb
          replace yb := yb.call hb
          clear hb TK GL
          have kb := boxNext low 32 took.arr
          replace low := gAlloc low (.cells took.arr 32)
          replace h := h.alloc (.cells took.arr 32)
          replace cb := cb.alloc (.cells took.arr 32)
          replace xb := xb.alloc (.cells took.arr 32)
          replace fb := fb.alloc (.cells took.arr 32)
          replace ob := ob.alloc (.cells took.arr 32)
          replace tb := tb.alloc (.cells took.arr 32)
          replace ha := ha.alloc (.cells took.arr 32)
          replace hbb := hbb.alloc (.cells took.arr 32)
          replace hd := hd.alloc (.cells took.arr 32)
          replace hk' := hk'.alloc (.cells took.arr 32)
          replace yb := yb.alloc (.cells took.arr 32)
          try simp only [World.size_alloc] at kb
          simp only [Wy.arr] at kb
          have eqz := fun w => eqWay zt zt w
          rw [(eqW_iff zt zt).2 rfl] at eqz
          have eqt := fun w => eqWay took took w
          rw [(eqW_iff took took).2 rfl] at eqt
          simp only [Wy.val] at eqz eqt
          have fb_0 := fb.at_ 0 rfl
          have fb_1 := fb.at_ 1 rfl
          have fb_2 := fb.at_ 2 rfl
          have fb_3 := fb.at_ 3 rfl
          have fb_4 := fb.at_ 4 rfl
          have fb_5 := fb.at_ 5 rfl
          have yb_0 := yb.at_ 0 rfl
          have yb_1 := yb.at_ 1 rfl
          have yb_2 := yb.at_ 2 rfl
          have yb_3 := yb.at_ 3 rfl
          have yb_4 := yb.at_ 4 rfl
          have yb_5 := yb.at_ 5 rfl
          go_wp2_with fail
          (with_reducible refine (sameCache_yes _ _ sb _ hbb hk').mono ?_); rintro e w15 ⟨rfl, hb⟩
          clear fb_0 fb_1 fb_2 fb_3 fb_4 fb_5 yb_0 yb_1 yb_2 yb_3 yb_4 yb_5
          replace h := h.call hb
          replace cb := cb.call hb
          replace xb := xb.call hb
          replace fb := fb.call hb
          replace ob := ob.call hb
          replace tb := tb.call hb
          replace ha := ha.call hb
          replace hbb := hbb.call hb
          replace hd := hd.call hb
          replace low := gCall low hb
          replace kb := kb.call hb
          clear hb hk' yb
          have tb_0 := tb.at_ 0 rfl
          have tb_1 := tb.at_ 1 rfl
          have tb_2 := tb.at_ 2 rfl
          have tb_3 := tb.at_ 3 rfl
          have tb_4 := tb.at_ 4 rfl
          have tb_5 := tb.at_ 5 rfl
          have kb_0 := kb.at_ 0 rfl
          have kb_1 := kb.at_ 1 rfl
          have kb_2 := kb.at_ 2 rfl
          have kb_3 := kb.at_ 3 rfl
          have kb_4 := kb.at_ 4 rfl
          have kb_5 := kb.at_ 5 rfl
          have WF := Lib.hid fun w => wayFault_any x w
          rcases WC.out with ⟨y1, rfl, rfl, rfl, rfl, rfl⟩ | ⟨y1, rfl, rfl, rfl, rfl, rfl, TC⟩ | ⟨y1, rfl, rfl, rfl, rfl, PC⟩
          · have hg := wayF_bad y1
            generalize wayF x = g at WF hg
            simp only [Wy.arr, wy0] at ob
            clear y1 WC AR
            have xb_0 := xb.at_ 0 rfl
            have xb_1 := xb.at_ 1 rfl
            have xb_2 := xb.at_ 2 rfl
            have xb_3 := xb.at_ 3 rfl
            have xb_4 := xb.at_ 4 rfl
            have xb_5 := xb.at_ 5 rfl
            go_wp2_with fail
            (with_reducible refine (WF.out _).mono ?_); rintro e w20 ⟨rfl, hb⟩
            replace xb := xb.call hb
            replace ob := ob.call hb
            replace low := gCall low hb
            clear hb tb_0 tb_1 tb_2 tb_3 tb_4 tb_5 kb_0 kb_1 kb_2 kb_3 kb_4 kb_5 xb_0 xb_1 xb_2 xb_3 xb_4 xb_5
            rcases hg with g1 | ⟨g1, g2⟩
            · have ob_0 := ob.at_ 0 rfl
              have ob_1 := ob.at_ 1 rfl
              have ob_2 := ob.at_ 2 rfl
              have ob_3 := ob.at_ 3 rfl
              have ob_4 := ob.at_ 4 rfl
              have ob_5 := ob.at_ 5 rfl
              go_wp2_with fail
              go_ret
              exact ⟨rfl, low⟩
            · have ob_0 := ob.at_ 0 rfl
              have ob_1 := ob.at_ 1 rfl
              have ob_2 := ob.at_ 2 rfl
              have ob_3 := ob.at_ 3 rfl
              have ob_4 := ob.at_ 4 rfl
              have ob_5 := ob.at_ 5 rfl
              have xb_0 := xb.at_ 0 rfl
              go_wp2_with fail
              go_ret
              exact ⟨rfl, low⟩
          · obtain ⟨g0, g1⟩ := wayF_good y1
            rw [g0] at WF
            have TC := Lib.hid TC
            clear y1 WC g0
            simp only [Wy.arr, wy0] at ob
            have xb_0 := xb.at_ 0 rfl
            have xb_1 := xb.at_ 1 rfl
            have xb_2 := xb.at_ 2 rfl
            have xb_3 := xb.at_ 3 rfl
            have xb_4 := xb.at_ 4 rfl
            have xb_5 := xb.at_ 5 rfl
            go_wp2_with fail
            (with_reducible refine (WF.out _).mono ?_); rintro e w20 ⟨rfl, hb⟩
            replace h := h.call hb
            replace cb := cb.call hb
            replace xb := xb.call hb
            replace ob := ob.call hb
            replace ha := ha.call hb
            replace hd := hd.call hb
            replace low := gCall low hb
            clear hb xb_0 xb_1 xb_2 xb_3 xb_4 xb_5
            have xb_0 := xb.at_ 0 rfl
            have xb_1 := xb.at_ 1 rfl
            go_wp2_with fail
            (with_reducible refine (AR.out _ h).mono ?_); rintro e w21 ⟨rfl, hb⟩
            replace h := h.call hb
            replace cb := cb.call hb
            replace xb := xb.call hb
            replace ob := ob.call hb
            replace ha := ha.call hb
            replace hd := hd.call hb
            replace low := gCall low hb
            clear hb xb_0 xb_1
            have rb := boxNext low 32 zr.arr
            replace low := gAlloc low (.cells zr.arr 32)
            replace h := h.alloc (.cells zr.arr 32)
            replace cb := cb.alloc (.cells zr.arr 32)
            replace xb := xb.alloc (.cells zr.arr 32)
            replace ob := ob.alloc (.cells zr.arr 32)
            replace ha := ha.alloc (.cells zr.arr 32)
            replace hd := hd.alloc (.cells zr.arr 32)
            try simp only [World.size_alloc] at rb
            simp only [Wy.arr] at rb
            have xb_0 := xb.at_ 0 rfl
            have xb_1 := xb.at_ 1 rfl
            have xb_2 := xb.at_ 2 rfl
            have xb_3 := xb.at_ 3 rfl
            have xb_4 := xb.at_ 4 rfl
            have xb_5 := xb.at_ 5 rfl
            have cb_0 := cb.at_ 0 rfl
            have cb_1 := cb.at_ 1 rfl
            have cb_2 := cb.at_ 2 rfl
            have cb_3 := cb.at_ 3 rfl
            have ob_0 := ob.at_ 0 rfl
            have ob_1 := ob.at_ 1 rfl
            have ob_2 := ob.at_ 2 rfl
            have ob_3 := ob.at_ 3 rfl
            have ob_4 := ob.at_ 4 rfl
            have ob_5 := ob.at_ 5 rfl
            go_wp2_with fail
            (with_reducible refine (TC.out _ h).mono ?_); rintro e w22 ⟨⟨At, ct, rfl, ht⟩, hb⟩
            clear xb_0 xb_1 xb_2 xb_3 xb_4 xb_5 cb_0 cb_1 cb_2 cb_3 ob_0 ob_1 ob_2 ob_3 ob_4 ob_5
            replace hd := hd.call hb
            replace low := gCall low hb
            clear hb TC AR
            go_wp2_with fail
            (with_reducible refine (sameCache_yes _ _ sd _ hd ht).mono ?_); rintro e w23 ⟨rfl, hb⟩
            replace low := gCall low hb
            clear hb
            go_wp2_with fail
            go_ret
            exact ⟨rfl, low⟩
          · obtain ⟨g0, g1⟩ := wayF_good y1
            rw [g0] at WF
            have PC := Lib.hid PC
            clear y1 WC g0
            have xb_0 := xb.at_ 0 rfl
            have xb_1 := xb.at_ 1 rfl
            have xb_2 := xb.at_ 2 rfl
            have xb_3 := xb.at_ 3 rfl
            have xb_4 := xb.at_ 4 rfl
            have xb_5 := xb.at_ 5 rfl
            go_wp2_with fail
            (with_reducible refine (WF.out _).mono ?_); rintro e w20 ⟨rfl, hb⟩
            replace h := h.call hb
            replace cb := cb.call hb
            replace xb := xb.call hb
            replace ob := ob.call hb
            replace ha := ha.call hb
            replace hd := hd.call hb
            replace low := gCall low hb
            clear hb xb_0 xb_1 xb_2 xb_3 xb_4 xb_5
            have xb_0 := xb.at_ 0 rfl
            have xb_1 := xb.at_ 1 rfl
            go_wp2_with fail
            (with_reducible refine (AR.out _ h).mono ?_); rintro e w21 ⟨rfl, hb⟩
            replace h := h.call hb
            replace cb := cb.call hb
            replace xb := xb.call hb
            replace ob := ob.call hb
            replace ha := ha.call hb
            replace hd := hd.call hb
            replace low := gCall low hb
            clear hb xb_0 xb_1
            have rb := boxNext low 32 zr.arr
            replace low := gAlloc low (.cells zr.arr 32)
            replace h := h.alloc (.cells zr.arr 32)
            replace cb := cb.alloc (.cells zr.arr 32)
            replace xb := xb.alloc (.cells zr.arr 32)
            replace ob := ob.alloc (.cells zr.arr 32)
            replace ha := ha.alloc (.cells zr.arr 32)
            replace hd := hd.alloc (.cells zr.arr 32)
            try simp only [World.size_alloc] at rb
            simp only [Wy.arr] at rb
            have xb_0 := xb.at_ 0 rfl
            have xb_1 := xb.at_ 1 rfl
            have xb_2 := xb.at_ 2 rfl
            have xb_3 := xb.at_ 3 rfl
            have xb_4 := xb.at_ 4 rfl
            have xb_5 := xb.at_ 5 rfl
            have cb_0 := cb.at_ 0 rfl
            have cb_1 := cb.at_ 1 rfl
            have cb_2 := cb.at_ 2 rfl
            have cb_3 := cb.at_ 3 rfl
            go_wp2_with fail
            (with_reducible refine (PC.out _ h).mono ?_); rintro e w22 ⟨⟨At, ct, rfl, ht⟩, hb⟩
            clear xb_0 xb_1 xb_2 xb_3 xb_4 xb_5 cb_0 cb_1 cb_2 cb_3
            replace ob := ob.call hb
            replace ha := ha.call hb
            replace low := gCall low hb
            clear hb PC AR
            have pb := boxNext low 32 old.arr
            replace low := gAlloc low (.cells old.arr 32)
            replace ob := ob.alloc (.cells old.arr 32)
            replace ha := ha.alloc (.cells old.arr 32)
            replace ht := ht.alloc (.cells old.arr 32)
            try simp only [World.size_alloc] at pb
            simp only [Wy.arr] at pb
            have eqo := fun w => eqWay old old w
            rw [(eqW_iff old old).2 rfl] at eqo
            simp only [Wy.val] at eqo
            go_wp2_with fail
            (with_reducible refine (sameCache_yes _ _ sa _ ha ht).mono ?_); rintro e w23 ⟨rfl, hb⟩
            replace ob := ob.call hb
            replace pb := pb.call hb
            replace low := gCall low hb
            clear hb
            have ob_0 := ob.at_ 0 rfl
            have ob_1 := ob.at_ 1 rfl
            have ob_2 := ob.at_ 2 rfl
            have ob_3 := ob.at_ 3 rfl
            have ob_4 := ob.at_ 4 rfl
            have ob_5 := ob.at_ 5 rfl
            have pb_0 := pb.at_ 0 rfl
            have pb_1 := pb.at_ 1 rfl
            have pb_2 := pb.at_ 2 rfl
            have pb_3 := pb.at_ 3 rfl
            have pb_4 := pb.at_ 4 rfl
            have pb_5 := pb.at_ 5 rfl
            go_wp2_with fail
            go_ret
            exact ⟨rfl, low⟩
end Go.Proofs.Ytmodajmjmdigfaa.cacheTells
