/-
Proved: Unpack undoes Pack, and Pack undoes Unpack (on the lists of bytes). Conditions: the words are uint64 values; the string has 32 bytes.
-/
import Derived.Test.YtgmcopadokojfaaWords2
namespace Go.Proofs.Ytgmcopadokojfaa

theorem wordOf_range (s : ByteArray) (m : Nat) : U64 (wordOf s m) := by
  have h0 := unpF_range s m 0
  have h1 := unpF_range s m 1
  have h2 := unpF_range s m 2
  have h3 := unpF_range s m 3
  have h4 := unpF_range s m 4
  have h5 := unpF_range s m 5
  have h6 := unpF_range s m 6
  have h7 := unpF_range s m 7
  simp only [U64, wordOf, unpW]
  omega

theorem byteI_packS (a b c d : Int) (i : Nat) (h : i < 32) : byteI (packS a b c d) i = packAt a b c d i := by
  have hl : i < (packL a b c d).length := by rw [packL_length]; exact h
  have : (packS a b c d).data[i]? = some ((packL a b c d)[i]) := by
    simp [packS, hl]
  unfold byteI
  rw [this]
  exact packL_at a b c d i hl

theorem word_bytes (v : Int) (h : U64 v) (f : Nat → Int) (hf : ∀ i, i < 8 → f i = v / 2 ^ (56 - 8 * i) % 256) : unpW f 8 = v := by
  have h0 := hf 0 (by omega)
  have h1 := hf 1 (by omega)
  have h2 := hf 2 (by omega)
  have h3 := hf 3 (by omega)
  have h4 := hf 4 (by omega)
  have h5 := hf 5 (by omega)
  have h6 := hf 6 (by omega)
  have h7 := hf 7 (by omega)
  obtain ⟨l, u⟩ := h
  simp at h0 h1 h2 h3 h4 h5 h6 h7
  simp only [unpW]
  omega

theorem wordOf_packS (a b c d : Int) (m : Nat) (hm : m < 4) (h : U64 (wordAt a b c d m)) : wordOf (packS a b c d) m = wordAt a b c d m := by
  refine word_bytes _ h _ fun i hi => ?_
  unfold unpF
  rw [byteI_packS _ _ _ _ _ (by omega)]
  unfold packAt farAt
  rw [show (8 * m + i) / 8 = m by omega, show (8 * m + i) % 8 = i by omega]

theorem byte_word (f : Nat → Int) (hf : ∀ i, 0 ≤ f i ∧ f i < 256) (j : Nat) (hj : j < 8) : unpW f 8 / 2 ^ (56 - 8 * j) % 256 = f j := by
  have h0 := hf 0
  have h1 := hf 1
  have h2 := hf 2
  have h3 := hf 3
  have h4 := hf 4
  have h5 := hf 5
  have h6 := hf 6
  have h7 := hf 7
  match j, hj with
  | 0, _ | 1, _ | 2, _ | 3, _ | 4, _ | 5, _ | 6, _ | 7, _ =>
    simp [unpW]
    omega

theorem wordAt_of (f : Nat → Int) (m : Nat) (h : m < 4) : wordAt (f 0) (f 1) (f 2) (f 3) m = f m := by
  match m, h with
  | 0, _ | 1, _ | 2, _ | 3, _ => rfl

theorem packS_wordOf (s : ByteArray) (h : s.size = 32) : packS (wordOf s 0) (wordOf s 1) (wordOf s 2) (wordOf s 3) = s := by
  apply ByteArray.ext
  apply Array.ext
  · show (packL _ _ _ _).toArray.size = s.size
    simp [packL_length, h]
  · intro i h1 h2
    have hi : i < 32 := by have : s.data.size = 32 := h; omega
    have e := byteI_packS (wordOf s 0) (wordOf s 1) (wordOf s 2) (wordOf s 3) i hi
    have e2 : packAt (wordOf s 0) (wordOf s 1) (wordOf s 2) (wordOf s 3) i = byteI s i := by
      unfold packAt
      rw [wordAt_of (wordOf s) (i / 8) (by omega)]
      unfold farAt wordOf
      rw [byte_word _ (unpF_range s _) (i % 8) (by omega)]
      unfold unpF
      rw [show 8 * (i / 8) + i % 8 = i by omega]
    rw [e2] at e
    unfold byteI at e
    rw [Array.getElem?_eq_getElem h1, Array.getElem?_eq_getElem h2] at e
    simp at e
    exact UInt8.toNat_inj.1 (Int.ofNat.inj e)
end Go.Proofs.Ytgmcopadokojfaa
