/-
Proved: words for slices of caches and for worlds; what Form of package agree returns, for every world that can be read; it changes nothing that was there. No condition.
-/
import Derived.Test.YtmodajmjmdigfaaWhole
import Derived.Test.YtmodajmjmdigfaaCopies2
namespace Go.Proofs.Ytmodajmjmdigfaa
open Go.ChangeShapes Go.WideShapes Go.ChangeAt Go.RowKit Go.Joins

/-- The cells of a world: its slice of caches, then the words of its memory. -/
def wldA (v : Value) (m : List Int) : Array Value := (v :: m.map (Value.int .u64)).toArray
abbrev wldV (v : Value) (m : List Int) : Value := .agg (wldA v m)
theorem wldA_size (v : Value) (m : List Int) : (wldA v m).size = m.length + 1 := by simp [wldA]
theorem wldA_zero (v : Value) (m : List Int) : (wldA v m)[0]? = some v := by simp [wldA]
theorem wldA_one {A : Option Addr} {n c : Nat} (m : List Int) : (wldA (.slice A n c) m).all (·.oneCell') = true := all_oneCell_toArray fun v hv => by
  rcases List.mem_cons.1 hv with rfl | hv
  · rfl
  · obtain ⟨x, _, rfl⟩ := List.mem_map.1 hv
    rfl
theorem tyWorld : Ty 79 (wldA (.slice none 0 0) zeroL) := ⟨by kernel_rfl, ⟨_, Try.underlying79, rfl⟩, fun w => by kernel_rfl⟩
theorem tyMem : Ty 77 (memA zeroL) := ⟨by kernel_rfl, ⟨_, Try.underlying77, rfl⟩, fun w => by kernel_rfl⟩
/-- Its memory's cells lie behind the first. -/
theorem wld_mem {w : World} {g : Nat} {t : TypeId} {v : Value} {m : List Int} (h : Box w g t (wldA v m)) : w.rangeAt g 1 (memA m).toList := fun j u hu => by
  rw [h.cell, wldA, List.getElem?_toArray, Nat.add_comm, List.getElem?_cons_succ, ← hu, memA_list]
theorem zero_size : (wldA (.slice none 0 0) zeroL).size = 65 := by rw [wldA_size, zeroL_length]
theorem wld_size {v : Value} {m : List Int} (h : m.length = 64) : (wldA v m).size = (wldA (.slice none 0 0) zeroL).size := by rw [wldA_size, wldA_size, zeroL_length, h]
theorem mem_zsize {m : List Int} (h : m.length = 64) : (memA m).size = (memA zeroL).size := by rw [memA_size, memA_size, zeroL_length, h]

/-- The slice holds the caches. -/
structure Ks (w : World) (v : Value) (css : List (List St)) : Prop where
  ex : ∃ A c, v = .slice A css.length c ∧ css.length ≤ c ∧ c ≤ maxLen ∧ (0 < css.length → ∃ b o, A = some ⟨b, o, none⟩ ∧ b < w.heap.size ∧ ∀ (k : Nat) ss, css[k]? = some ss → ∃ A' c', w.cell? ⟨b, o + k, none⟩ = some (.slice A' ss.length c') ∧ Cs w (.slice A' ss.length c') ss)
theorem Ks.call {w w' : World} {v : Value} {css : List (List St)} (h : Ks w v css) (hb : Below w.heap.size w w') : Ks w' v css := by
  obtain ⟨A, c, e, h1, h2, h3⟩ := h
  refine ⟨A, c, e, h1, h2, fun h0 => ?_⟩
  obtain ⟨b, o, eA, hlt, hl⟩ := h3 h0
  refine ⟨b, o, eA, Nat.lt_of_lt_of_le hlt hb.size, fun k ss hk => ?_⟩
  obtain ⟨A', c', k1, k2⟩ := hl k ss hk
  exact ⟨A', c', (hb.cell (p := ⟨b, o + k, none⟩) hlt).trans k1, k2.call hb⟩
theorem Ks.alloc {w : World} {v : Value} {css : List (List St)} (h : Ks w v css) (o : Obj) : Ks (w.alloc o) v css := h.call (gAlloc (Below.refl _ _) o)
theorem Ks.drew {w : World} {v : Value} {css : List (List St)} (h : Ks w v css) : Ks w.drew v css := h.call (Below.refl _ _).drew

/-- The first error of the caches, of the structure of a world. -/
def cachesE (n s y b : Int) : List (List St) → Int
  | [] => 0
  | ss :: r => if cacheE n s y b ss ≠ 0 then cacheE n s y b ss else cachesE n s y b r
def formE (n s y b : Int) (css : List (List St)) : Int := if cfgB n s y b = false then 4 else if (css.length : Int) ≠ n then 3 else cachesE n s y b css
theorem cachesE_at {n s y b : Int} {css : List (List St)} {k : Nat} {ss : List St} (h : css[k]? = some ss) : cachesE n s y b (css.drop k) =
    if cacheE n s y b ss ≠ 0 then cacheE n s y b ss else cachesE n s y b (css.drop (k + 1)) := by
  obtain ⟨hk, rfl⟩ := List.getElem?_eq_some_iff.1 h
  rw [List.drop_eq_getElem_cons hk, cachesE]

set_option maxHeartbeats 1000000 in
theorem form_any (n s y b : Int) (v : Value) (m : List Int) (css : List (List St)) (w : World) (h : Ks w v css) :
    Calls Try.prog 98 #[cfg n s y b, wldV v m] w fun e w' => e = .returned (.int .i64 (formE n s y b css)) ∧ Below w.heap.size w w' := by
  have H := Lib.hid h
  obtain ⟨A, cp, rfl, h1, h2, h3⟩ := h
  have H3 := Lib.hid h3
  unfold maxLen at h2
  clear h3
  generalize hE : formE n s y b css = E
  unfold formE at hE
  have HE := Lib.hid hE
  clear hE
  have low := Below.refl w.heap.size w
  have cb := boxNext low 44 (cfgA n s y b)
  replace low := gAlloc low (.cells (cfgA n s y b) 44)
  try simp only [World.size_alloc] at cb
  have wb := boxNext low 79 (wldA (.slice A css.length cp) m)
  replace low := gAlloc low (.cells (wldA (.slice A css.length cp) m) 79)
  replace cb := cb.alloc (.cells (wldA (.slice A css.length cp) m) 79)
  try simp only [World.size_alloc] at wb
  cases hcf : cfgB n s y b
  · obtain rfl : 4 = E := by have := HE.out; rwa [if_pos hcf] at this
    have HC := Lib.hid hcf
    clear hcf
    go_enter Try.func98, Try.ntmps98
    go_wp2_with fail
    (with_reducible refine (check_bad _ _ _ _ _ HC.out).mono ?_); rintro e w1 ⟨rfl, hb⟩
    replace cb := cb.call hb
    replace low := gCall low hb
    clear hb
    go_wp2_with fail
    go_ret
    exact ⟨rfl, low⟩
  replace HE := Lib.hid (HE.out.symm.trans (if_neg (by simp [hcf]))).symm
  have HC := Lib.hid hcf
  clear hcf
  cases hn : ((css.length : Int) != n)
  rotate_left
  · obtain rfl : 3 = E := by have := HE.out; rwa [if_pos (by simpa using hn)] at this
    go_enter Try.func98, Try.ntmps98
    go_wp2_with fail
    (with_reducible refine (check_ok _ _ _ _ _ HC.out).mono ?_); rintro e w1 ⟨rfl, hb⟩
    replace cb := cb.call hb
    replace wb := wb.call hb
    replace low := gCall low hb
    clear hb
    have cb_0 := cb.at_ 0 rfl
    have cb_1 := cb.at_ 1 rfl
    have cb_2 := cb.at_ 2 rfl
    have cb_3 := cb.at_ 3 rfl
    have wb0 := wb.at_ 0 (wldA_zero _ _)
    go_wp2_with fail
    go_ret
    exact ⟨rfl, low⟩
  replace HE := Lib.hid (HE.out.symm.trans (if_neg (by simpa using hn))).symm
  go_enter Try.func98, Try.ntmps98
  go_wp2_with fail
  (with_reducible refine (check_ok _ _ _ _ _ HC.out).mono ?_); rintro e w1 ⟨rfl, hb⟩
  replace cb := cb.call hb
  replace wb := wb.call hb
  replace low := gCall low hb
  clear hb
  have cb_0 := cb.at_ 0 rfl
  have cb_1 := cb.at_ 1 rfl
  have cb_2 := cb.at_ 2 rfl
  have cb_3 := cb.at_ 3 rfl
  have wb0 := wb.at_ 0 (wldA_zero _ _)
  go_wp2_with fail
  go_loopw [23] (fun j wr => ∃ k : Nat, k ≤ css.length ∧ j = .int .i64 k ∧ Hid (cachesE n s y b (css.drop k) = E) ∧ Box wr w.heap.size 44 (cfgA n s y b) ∧ Below w.heap.size w wr) (fun j _ => css.length - (intOf j).toNat)
  case atStart => exact ⟨0, Nat.zero_le _, rfl, Lib.hid (by rw [List.drop_zero]; exact HE.out), cb, low⟩
  case round =>
    clear cb_0 cb_1 cb_2 cb_3
    clear cb wb low wb0
    obtain ⟨k, hk, rfl, hno, cb, low⟩ := hrel
    simp only [cfgA] at cb
    by_cases hlt : k < css.length
    · obtain ⟨bb, o, rfl, hb, hc⟩ := H3.out (by omega)
      have hx : css[k]? = some css[k] := List.getElem?_eq_getElem _
      generalize css[k] = ss at hx
      obtain ⟨A', c', ce, cs⟩ := hc k ss hx
      replace ce := (low.cell (p := ⟨bb, o + k, none⟩) hb).trans ce
      replace cs := cs.call low
      have hs := hno.out
      rw [cachesE_at hx] at hs
      have HS := Lib.hid hs
      have CW := Lib.hid fun w hw => cacheCheck_any n s y b (.slice A' ss.length c') ss w hw
      clear hx hc hs
      generalize cacheE n s y b ss = f at CW HS
      have cb_0 := cb.at_ 0 rfl
      have cb_1 := cb.at_ 1 rfl
      have cb_2 := cb.at_ 2 rfl
      have cb_3 := cb.at_ 3 rfl
      go_wp2_with fail
      (with_reducible refine (CW.out _ cs).mono ?_); rintro e w2 ⟨rfl, hb2⟩
      clear cb_0 cb_1 cb_2 cb_3
      replace cb := cb.call hb2
      replace low := gCall low hb2
      clear hb2 ce cs
      cases hf : (f != 0)
      rotate_left
      · obtain rfl : f = E := by have := HS.out; rwa [if_pos (by simpa using hf)] at this
        go_wp2_with fail
        go_ret
        exact ⟨rfl, low⟩
      obtain rfl : f = 0 := by simpa using hf
      replace HS := Lib.hid (HS.out.symm.trans (if_neg (by simp)))
      clear hf
      go_wp2_with fail
      go_roundw
      case rel => exact ⟨k + 1, by omega, by go_num, Lib.hid HS.out.symm, cb, low⟩
      case measure => simp [intOf]; omega
    · obtain rfl : k = css.length := by omega
      obtain rfl : 0 = E := by have := hno.out; rwa [List.drop_length] at this
      go_wp2_with fail
      go_ret
      exact ⟨rfl, low⟩
end Go.Proofs.Ytmodajmjmdigfaa
