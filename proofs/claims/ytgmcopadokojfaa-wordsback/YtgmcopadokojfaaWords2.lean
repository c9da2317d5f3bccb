/-
Proved: what Pack and Unpack of package words return, for every argument; none of them changes anything that was there. No condition.
-/
import Derived.Test.YtgmcopadokojfaaWords
import Derived.StillTailTactics
import Derived.Laws.IdiomStrings
namespace Go.Proofs.Ytgmcopadokojfaa
open Go.ChangeShapes Go.WideShapes Go.ChangeAt Go.RowKit Go.Joins

/-- How far a byte of a line is from its word's end, in bits. -/
def farAt (k : Nat) : Nat := 56 - 8 * (k % 8)

/-- Byte i of a line. -/
def packAt (a b c d : Int) (i : Nat) : Int := wordAt a b c d (i / 8 : Nat) / 2 ^ farAt i % 256

/-- The bytes of a line, of which k are laid. -/
def packC (a b c d : Int) (k : Nat) : Array Value := ((List.range 32).map fun i => if i < k then .int .u8 (packAt a b c d i) else .int .u8 0).toArray

theorem packC_step (a b c d : Int) (k : Nat) : (packC a b c d k).setIfInBounds k (.int .u8 (packAt a b c d k)) = packC a b c d (k + 1) := by
  apply Array.ext
  · simp [packC]
  · intro i h1 h2
    rw [Array.getElem_setIfInBounds (by simpa [packC] using h1)]
    simp only [packC, List.getElem_toArray, List.getElem_map, List.getElem_range]
    split
    · subst_vars; simp
    · split <;> split <;> first | rfl | omega

theorem line_at (a b c d : Int) (m : Nat) (h : m < 4) : (#[Value.int .u64 a, .int .u64 b, .int .u64 c, .int .u64 d] : Array Value)[m]? = some (.int .u64 (wordAt a b c d m)) := by
  match m, h with
  | 0, _ => rfl
  | 1, _ => rfl
  | 2, _ => rfl
  | 3, _ => rfl

theorem packC_at (a b c d : Int) (k i : Nat) (h : i < 32) : (packC a b c d k)[i]? = some (if i < k then .int .u8 (packAt a b c d i) else .int .u8 0) := by
  simp [packC, h]

/-- The bytes of a line. -/
def packL (a b c d : Int) : List UInt8 := (List.range 32).map fun i => UInt8.ofNat (packAt a b c d i).toNat
theorem packL_length (a b c d : Int) : (packL a b c d).length = 32 := by simp [packL]
theorem packL_at (a b c d : Int) (j : Nat) (h : j < (packL a b c d).length) : (((packL a b c d)[j].toNat : Nat) : Int) = packAt a b c d j := by
  simp only [packL, List.getElem_map, List.getElem_range]
  have h1 : 0 ≤ packAt a b c d j ∧ packAt a b c d j < 256 := by unfold packAt; omega
  rw [UInt8.toNat_ofNat_of_lt' (by show _ < 256; omega)]
  omega
def packS (a b c d : Int) : ByteArray := ⟨(packL a b c d).toArray⟩

theorem shift_any (k : Nat) (w : World) (h : k < 32) : Calls Try.prog 15 #[.int .i64 k] w fun e w' => e = .returned (.int .i64 (farAt k)) ∧ w = w' := by
  go_enter Try.func15, Try.ntmps15
  go_wp2
  go_ret
  refine ⟨?_, rfl⟩
  simp [farAt]
  omega

theorem pack_any (a b c d : Int) (w : World) :
    Calls Try.prog 10 #[line a b c d] w fun e w' => e = .returned (.string (packS a b c d)) ∧ Below w.heap.size w w' := by
  have low := Below.refl w.heap.size w
  have bx := Box.new w 24 #[.int .u64 a, .int .u64 b, .int .u64 c, .int .u64 d]
  replace low := gAlloc low (.cells #[.int .u64 a, .int .u64 b, .int .u64 c, .int .u64 d] 24)
  have px := Box.new (w.alloc (.cells #[.int .u64 a, .int .u64 b, .int .u64 c, .int .u64 d] 24)) 41 (packC a b c d 0)
  simp only [World.size_alloc] at px
  replace low := gAlloc low (.cells (packC a b c d 0) 41)
  replace bx := bx.alloc (.cells (packC a b c d 0) 41)
  go_enter Try.func10, Try.ntmps10
  go_wp2_with fail
  go_loopw [5] (fun i wx => ∃ k : Nat, k ≤ 32 ∧ i = .int .i64 k ∧ Box wx w.heap.size 24 #[.int .u64 a, .int .u64 b, .int .u64 c, .int .u64 d] ∧ Box wx (w.heap.size + 1) 41 (packC a b c d k) ∧ Below w.heap.size w wx) (fun i _ => 32 - (intOf i).toNat)
  case atStart => exact ⟨0, Nat.zero_le _, rfl, bx, px, low⟩
  case round =>
    obtain ⟨k, hk, rfl, bx, px, low⟩ := hrel
    by_cases hlt : k < 32
    · obtain ⟨m, hm⟩ : ∃ m : Nat, k / 8 = m := ⟨_, rfl⟩
      obtain ⟨f, hf⟩ : ∃ f : Nat, farAt k = f := ⟨_, rfl⟩
      have hf5 : f ≤ 56 := by subst hf; simp [farAt]
      have hm4 : m < 4 := by omega
      have hq : IntKind.i64.wrap ((k : Int) / 8) = (m : Int) := by rw [wrap_i64_ediv _ _ (by omega) (by omega) (by omega)]; omega
      have hS := Lib.hid (shift_any k (w := wr.drew) hlt)
      have hP := Lib.hid (show packAt a b c d k = wordAt a b c d m / 2 ^ f % 256 by rw [← hm, ← hf]; rfl)
      rw [hf] at hS
      have c0 := (bx.drew).at_ m (line_at a b c d m hm4)
      have hm4i : (m : Int) < 4 := by omega
      have hki : (k : Int) < 32 := by omega
      clear hm hf
      go_wp2_with fail
      refine wp_region_still_tail 9 (by kernel_rfl) (by kernel_rfl) ?_
      simp only [List.take_succ_cons, List.take_zero, List.drop_succ_cons, List.drop_zero]
      still_step
      still_step
      still_step
      still_step
      still_step
      still_step
      still_call (hS.out.mono (by rintro e w' ⟨rfl, rfl⟩; exact ⟨rfl, rfl⟩))
      still_step
      still_step
      refine wpStill_nil ?_
      have c1 := px.drew.frozen k
      have c2 := px.drew.at_ k (packC_at a b c d k k hlt)
      change wpList _ _ _ _ _ wr.drew
      go_wp2_with fail
      go_roundw
      case rel =>
        refine ⟨k + 1, by omega, by go_num, bx.drew.far (by simp) _, ?_, gSet low.drew (by simp) _⟩
        have := px.drew.set k (.int .u8 (packAt a b c d k))
        rw [packC_step, hP.out] at this
        exact this
      case measure => simp [intOf]; omega
    · obtain rfl : k = 32 := by omega
      have hz : (convert 42 9 (.slice (some ⟨w.heap.size + 1, 0, none⟩) 32 32)).run Try.prog wr = .ok (.string (packS a b c d)) wr := by
        have := run_convert_bytes_back (P := Try.prog) wr 42 9 5 ⟨w.heap.size + 1, 0, none⟩ 32 (packL a b c d) Try.underlying42 Try.underlying5 Try.underlying9 (fun j hj => by
          have hj' : j < 32 := by simpa [packL] using hj
          refine Eq.trans ?_ ((px.at_ j (packC_at a b c d 32 j hj')).trans ?_)
          · cases j <;> simp [Addr.add]
          · rw [if_pos hj', packL_at])
        rw [packL_length] at this
        exact this
      go_wp2_with fail
      go_ret
      exact ⟨rfl, low⟩

/-- Byte i of a string. -/
def byteI (s : ByteArray) (i : Nat) : Int := ((s.data[i]?.getD 0).toNat : Int)

theorem byteI_range (s : ByteArray) (i : Nat) : 0 ≤ byteI s i ∧ byteI s i < 256 := by
  have := (s.data[i]?.getD 0).toNat_lt
  unfold byteI
  omega

/-- The first n bytes of a word, each in its place. -/
def unpW (f : Nat → Int) : Nat → Int
  | 0 => 0
  | n + 1 => unpW f n + f n * 2 ^ (56 - 8 * n)

theorem unpW_facts (f : Nat → Int) (hf : ∀ i, 0 ≤ f i ∧ f i < 256) (j : Nat) (h : j < 8) : 0 ≤ unpW f j ∧ unpW f j % 2 ^ (64 - 8 * j) = 0 ∧ unpW f j < 18446744073709551616 ∧ f j * 2 ^ (56 - 8 * j) < 2 ^ (64 - 8 * j) ∧ 0 ≤ f j * 2 ^ (56 - 8 * j) ∧ f j * 2 ^ (56 - 8 * j) < 18446744073709551616 := by
  have h0 := hf 0
  have h1 := hf 1
  have h2 := hf 2
  have h3 := hf 3
  have h4 := hf 4
  have h5 := hf 5
  have h6 := hf 6
  have h7 := hf 7
  match j, h with
  | 0, _ | 1, _ | 2, _ | 3, _ | 4, _ | 5, _ | 6, _ | 7, _ =>
    simp [unpW]
    omega

theorem unpW_or (f : Nat → Int) (hf : ∀ i, 0 ≤ f i ∧ f i < 256) (j : Nat) (h : j < 8) : bits .or .u64 (unpW f j) (IntKind.u64.wrap (f j * 2 ^ (56 - 8 * j))) = unpW f (j + 1) := by
  obtain ⟨h1, h2, h3, h4, h5, h6⟩ := unpW_facts f hf j h
  rw [IntKind.wrap_u64, Int.emod_eq_of_lt h5 h6]
  exact bits_join .u64 64 (by decide) (fun n h0 h1 => by rw [IntKind.wrap_u64]; exact Int.emod_eq_of_lt h0 h1) (64 - 8 * j) _ _ h1 h2 h3 h5 h4 h6

/-- The bytes of word m. -/
def unpF (s : ByteArray) (m : Nat) : Nat → Int := fun i => byteI s (8 * m + i)

/-- Word m of a string. -/
def wordOf (s : ByteArray) (m : Nat) : Int := unpW (unpF s m) 8

theorem unpF_range (s : ByteArray) (m i : Nat) : 0 ≤ unpF s m i ∧ unpF s m i < 256 := byteI_range s _

/-- A line of whose bytes k are read. -/
def unpC (s : ByteArray) (k : Nat) : Array Value :=
  #[.int .u64 (unpW (unpF s 0) (min k 8)), .int .u64 (unpW (unpF s 1) (min (k - 8) 8)), .int .u64 (unpW (unpF s 2) (min (k - 16) 8)), .int .u64 (unpW (unpF s 3) (min (k - 24) 8))]

theorem unpC_eq (s : ByteArray) (k n0 n1 n2 n3 : Nat) (h0 : min k 8 = n0) (h1 : min (k - 8) 8 = n1) (h2 : min (k - 16) 8 = n2) (h3 : min (k - 24) 8 = n3) :
    unpC s k = #[.int .u64 (unpW (unpF s 0) n0), .int .u64 (unpW (unpF s 1) n1), .int .u64 (unpW (unpF s 2) n2), .int .u64 (unpW (unpF s 3) n3)] := by
  subst h0 h1 h2 h3
  rfl

theorem unpC_at (s : ByteArray) (m j : Nat) (hm : m < 4) (hj : j < 8) : (unpC s (8 * m + j))[m]? = some (.int .u64 (unpW (unpF s m) j)) := by
  match m, hm with
  | 0, _ => rw [unpC_eq s _ j 0 0 0 (by omega) (by omega) (by omega) (by omega)]; rfl
  | 1, _ => rw [unpC_eq s _ 8 j 0 0 (by omega) (by omega) (by omega) (by omega)]; rfl
  | 2, _ => rw [unpC_eq s _ 8 8 j 0 (by omega) (by omega) (by omega) (by omega)]; rfl
  | 3, _ => rw [unpC_eq s _ 8 8 8 j (by omega) (by omega) (by omega) (by omega)]; rfl

theorem unpC_step (s : ByteArray) (m j : Nat) (hm : m < 4) (hj : j < 8) : (unpC s (8 * m + j)).setIfInBounds m (.int .u64 (unpW (unpF s m) (j + 1))) = unpC s (8 * m + j + 1) := by
  match m, hm with
  | 0, _ => rw [unpC_eq s (8 * 0 + j) j 0 0 0 (by omega) (by omega) (by omega) (by omega), unpC_eq s (8 * 0 + j + 1) (j + 1) 0 0 0 (by omega) (by omega) (by omega) (by omega)]; rfl
  | 1, _ => rw [unpC_eq s (8 * 1 + j) 8 j 0 0 (by omega) (by omega) (by omega) (by omega), unpC_eq s (8 * 1 + j + 1) 8 (j + 1) 0 0 (by omega) (by omega) (by omega) (by omega)]; rfl
  | 2, _ => rw [unpC_eq s (8 * 2 + j) 8 8 j 0 (by omega) (by omega) (by omega) (by omega), unpC_eq s (8 * 2 + j + 1) 8 8 (j + 1) 0 (by omega) (by omega) (by omega) (by omega)]; rfl
  | 3, _ => rw [unpC_eq s (8 * 3 + j) 8 8 8 j (by omega) (by omega) (by omega) (by omega), unpC_eq s (8 * 3 + j + 1) 8 8 8 (j + 1) (by omega) (by omega) (by omega) (by omega)]; rfl

theorem unpC_end (s : ByteArray) : unpC s 32 = #[.int .u64 (wordOf s 0), .int .u64 (wordOf s 1), .int .u64 (wordOf s 2), .int .u64 (wordOf s 3)] := rfl

theorem unpack_bad (s : ByteArray) (w : World) (h : s.size ≠ 32) : Calls Try.prog 9 #[.string s] w fun e w' => e = .returned (.tuple #[line 0 0 0 0, .int .i64 3]) ∧ Below w.heap.size w w' := by
  have h' : ((s.size : Int) != 32) = true := by simp; omega
  go_enter Try.func9, Try.ntmps9
  go_wp2_with fail
  refine bodyPost_ret (v := .tuple #[line 0 0 0 0, .int .i64 3]) (by simp [results, Try.results9, go_sem]) rfl ⟨rfl, ?_⟩
  repeat (refine gSet ?_ (by simp) _)
  exact gAlloc (Below.refl _ _) _

theorem unpack_ok (s : ByteArray) (w : World) (h : s.size = 32) : Calls Try.prog 9 #[.string s] w fun e w' => e = .returned (.tuple #[line (wordOf s 0) (wordOf s 1) (wordOf s 2) (wordOf s 3), .int .i64 0]) ∧ Below w.heap.size w w' := by
  have H := Lib.hid h
  have h' : ((s.size : Int) != 32) = false := by simp; omega
  clear h
  have low := Below.refl w.heap.size w
  have bx := Box.new w 24 #[.int .u64 0, .int .u64 0, .int .u64 0, .int .u64 0]
  replace low := gAlloc low (.cells #[.int .u64 0, .int .u64 0, .int .u64 0, .int .u64 0] 24)
  have px := Box.new (w.alloc (.cells #[.int .u64 0, .int .u64 0, .int .u64 0, .int .u64 0] 24)) 24 #[.int .u64 0, .int .u64 0, .int .u64 0, .int .u64 0]
  simp only [World.size_alloc] at px
  replace low := gAlloc low (.cells #[.int .u64 0, .int .u64 0, .int .u64 0, .int .u64 0] 24)
  replace bx := bx.alloc (.cells #[.int .u64 0, .int .u64 0, .int .u64 0, .int .u64 0] 24)
  go_enter Try.func9, Try.ntmps9
  go_wp2_with fail
  go_loopw [10] (fun i wx => ∃ k : Nat, k ≤ 32 ∧ i = .int .i64 k ∧ Box wx w.heap.size 24 #[.int .u64 0, .int .u64 0, .int .u64 0, .int .u64 0] ∧ Box wx (w.heap.size + 1) 24 (unpC s k) ∧ Below w.heap.size w wx) (fun i _ => 32 - (intOf i).toNat)
  case atStart => exact ⟨0, Nat.zero_le _, rfl, bx, px, low⟩
  case round =>
    obtain ⟨k, hk, rfl, bx, px, low⟩ := hrel
    by_cases hlt : k < 32
    · obtain ⟨m, hm⟩ : ∃ m : Nat, k / 8 = m := ⟨_, rfl⟩
      obtain ⟨j, hj⟩ : ∃ j : Nat, k % 8 = j := ⟨_, rfl⟩
      have hm4 : m < 4 := by omega
      have hj8 : j < 8 := by omega
      have hkk : 8 * m + j = k := by omega
      have hq : IntKind.i64.wrap ((k : Int) / 8) = (m : Int) := by rw [wrap_i64_ediv _ _ (by omega) (by omega) (by omega)]; omega
      have hS := Lib.hid (shift_any k (w := wr.drew) hlt)
      rw [show farAt k = 56 - 8 * j by rw [← hj]; rfl] at hS
      obtain ⟨f, hf⟩ : ∃ f : Nat, 56 - 8 * j = f := ⟨_, rfl⟩
      have hO := Lib.hid (unpW_or (unpF s m) (unpF_range s m) j hj8)
      rw [hf] at hO hS
      have c0 : wr.drew.cell? ⟨w.heap.size + 1, m, none⟩ = some (.int .u64 (unpW (unpF s m) j)) := (px.drew).at_ m (by rw [← hkk]; exact unpC_at s m j hm4 hj8)
      have hm4i : (m : Int) < 4 := by omega
      have hki : (k : Int) < 32 := by omega
      have hf5 : f ≤ 56 := by omega
      have hx : k < s.size := by rw [H.out]; exact hlt
      have hbv : (((s[k]'hx).toNat : Nat) : Int) = unpF s m j := by
        have : s.data[k]? = some (s[k]'hx) := Array.getElem?_eq_getElem hx
        unfold unpF byteI
        rw [hkk, this]
        rfl
      obtain ⟨hv0, hv1⟩ := unpF_range s m j
      have HK := Lib.hid hkk
      clear hm hf hj hkk
      go_wp2_with fail
      refine wp_region_still_tail 12 (by kernel_rfl) (by kernel_rfl) ?_
      simp only [List.take_succ_cons, List.take_zero, List.drop_succ_cons, List.drop_zero]
      still_step
      still_step
      still_step
      still_step
      still_step
      still_step
      still_step
      still_step
      still_step
      still_call (hS.out.mono (by rintro e w' ⟨rfl, rfl⟩; exact ⟨rfl, rfl⟩))
      still_step
      still_step
      refine wpStill_nil ?_
      have c1 := px.drew.frozen m
      change wpList _ _ _ _ _ wr.drew
      go_wp2_with fail
      go_roundw
      case rel =>
        refine ⟨k + 1, by omega, by go_num, bx.drew.far (by simp) _, ?_, gSet low.drew (by simp) _⟩
        have := px.drew.set m (.int .u64 (unpW (unpF s m) (j + 1)))
        have e := unpC_step s m j hm4 hj8
        rw [HK.out] at e
        rw [e, ← hO.out] at this
        exact this
      case measure => simp [intOf]; omega
    · obtain rfl : k = 32 := by omega
      rw [unpC_end] at px
      have px_0 := px.at_ 0 rfl
      have px_1 := px.at_ 1 rfl
      have px_2 := px.at_ 2 rfl
      have px_3 := px.at_ 3 rfl
      have z0 := bx.frozen 0
      have z1 := bx.frozen 1
      have z2 := bx.frozen 2
      have z3 := bx.frozen 3
      have bx_0 := bx.at_ 0 rfl
      have bx_1 := bx.at_ 1 rfl
      have bx_2 := bx.at_ 2 rfl
      have bx_3 := bx.at_ 3 rfl
      go_wp2_with fail
      refine bodyPost_ret (v := .tuple #[line (wordOf s 0) (wordOf s 1) (wordOf s 2) (wordOf s 3), .int .i64 0]) (by simp [results, Try.results9, go_sem, bx_0, bx_1, bx_2, bx_3]) rfl ⟨rfl, ?_⟩
      repeat (refine gSet ?_ (by simp) _)
      exact low
end Go.Proofs.Ytgmcopadokojfaa
