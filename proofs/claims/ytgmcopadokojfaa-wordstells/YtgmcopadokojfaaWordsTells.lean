/-
Proved: the law 'WordsTells' returns true for every argument, and changes nothing that was there. No condition.
-/
import Derived.Test.YtgmcopadokojfaaRefWords
import Derived.Deep.RegionHeld3
namespace Go.Proofs.Ytgmcopadokojfaa.wordsTells
open Go.ChangeShapes Go.WideShapes Go.ChangeAt Go.RowKit

/-- The cells of a line with another word. -/
theorem set_at0 (a b c d v : Int) (m : Nat) (h : m < 4) : (([.int .u64 a, .int .u64 b, .int .u64 c, .int .u64 d] : List Value).set m (.int .u64 v)).toArray[0]? = some (.int .u64 (putA a m v)) := by
  match m, h with
  | 0, _ | 1, _ | 2, _ | 3, _ => rfl
theorem set_at1 (a b c d v : Int) (m : Nat) (h : m < 4) : (([.int .u64 a, .int .u64 b, .int .u64 c, .int .u64 d] : List Value).set m (.int .u64 v)).toArray[1]? = some (.int .u64 (putB b m v)) := by
  match m, h with
  | 0, _ | 1, _ | 2, _ | 3, _ => rfl
theorem set_at2 (a b c d v : Int) (m : Nat) (h : m < 4) : (([.int .u64 a, .int .u64 b, .int .u64 c, .int .u64 d] : List Value).set m (.int .u64 v)).toArray[2]? = some (.int .u64 (putC c m v)) := by
  match m, h with
  | 0, _ | 1, _ | 2, _ | 3, _ => rfl
theorem set_at3 (a b c d v : Int) (m : Nat) (h : m < 4) : (([.int .u64 a, .int .u64 b, .int .u64 c, .int .u64 d] : List Value).set m (.int .u64 v)).toArray[3]? = some (.int .u64 (putD d m v)) := by
  match m, h with
  | 0, _ | 1, _ | 2, _ | 3, _ => rfl

theorem packOf_unpack (s : ByteArray) (h : s.size = 32) (w : World) :
    Calls Try.prog 11 #[line (wordOf s 0) (wordOf s 1) (wordOf s 2) (wordOf s 3)] w fun e w' => e = .returned (.string s) ∧ Below w.heap.size w w' := by
  have k := packOf_any (wordOf s 0) (wordOf s 1) (wordOf s 2) (wordOf s 3) w (wordOf_range s 0) (wordOf_range s 1) (wordOf_range s 2) (wordOf_range s 3)
  rw [packS_wordOf s h] at k
  exact k

set_option maxHeartbeats 4000000 in
theorem walk_kb_sb (a b c d : Int) (k : Int) (v : Int) (s : ByteArray) (w : World) (ha : U64 a) (hb : U64 b) (hc : U64 c) (hd : U64 d) (hk : k < 0 ∨ 3 < k) (hs : s.size ≠ 32) :
    Calls Try.prog 3 #[line a b c d, .int .i64 k, .int .u64 v, .string s] w fun e w' => e = .returned (.bool true) ∧ Below w.heap.size w w' := by
  have L := Lib.hid fun W => load_any a b c d k W
  have S := Lib.hid fun W => store_any a b c d k v W
  have P := Lib.hid fun W => swap_any a b c d k v W
  have C := Lib.hid fun W => pack_any a b c d W
  have R := Lib.hid fun W => packOf_any a b c d W ha hb hc hd
  have U := Lib.hid fun W => unpack_bad s W hs
  have hs1 : ((s.size : Int) != 32) = true := by simp; omega
  have hs2 : ((s.size : Int) == 32) = false := by simp; omega
  obtain ⟨h1, h2, h3⟩ := put_out a b c d k v hk
  rw [h2, h3] at L
  rw [h1, h3] at S
  rw [h1, h2, h3] at P
  clear hs ha hb hc hd h1 h2 h3
  generalize packS a b c d = ps at C R
  have eqL := eqLine
  rcases hk with hk | hk
  all_goals
    have low := Below.refl w.heap.size w
    have bx := Box.new w 24 #[.int .u64 a, .int .u64 b, .int .u64 c, .int .u64 d]
    replace low := gAlloc low (.cells #[.int .u64 a, .int .u64 b, .int .u64 c, .int .u64 d] 24)
    go_enter Try.func3, Try.ntmps3
    go_wp2_with fail
    (with_reducible refine (L.out _).mono ?_); rintro e w1 ⟨rfl, hb⟩
    replace bx := bx.call hb
    replace low := gCall low hb
    clear hb
    have bx_0 := bx.at_ 0 rfl
    have bx_1 := bx.at_ 1 rfl
    have bx_2 := bx.at_ 2 rfl
    have bx_3 := bx.at_ 3 rfl
    go_wp2_with fail
    (with_reducible refine (S.out _).mono ?_); rintro e w2 ⟨rfl, hb⟩
    replace bx := bx.call hb
    replace low := gCall low hb
    clear hb bx_0 bx_1 bx_2 bx_3
    have sb := Box.new w2 24 #[.int .u64 0, .int .u64 0, .int .u64 0, .int .u64 0]
    replace low := gAlloc low (.cells #[.int .u64 0, .int .u64 0, .int .u64 0, .int .u64 0] 24)
    replace bx := bx.alloc (.cells #[.int .u64 0, .int .u64 0, .int .u64 0, .int .u64 0] 24)
    have bx_0 := bx.at_ 0 rfl
    have bx_1 := bx.at_ 1 rfl
    have bx_2 := bx.at_ 2 rfl
    have bx_3 := bx.at_ 3 rfl
    go_wp2_with fail
    (with_reducible refine (P.out _).mono ?_); rintro e w3 ⟨rfl, hb⟩
    replace bx := bx.call hb
    replace sb := sb.call hb
    replace low := gCall low hb
    clear hb bx_0 bx_1 bx_2 bx_3
    have sc := Box.new w3 24 #[.int .u64 0, .int .u64 0, .int .u64 0, .int .u64 0]
    replace low := gAlloc low (.cells #[.int .u64 0, .int .u64 0, .int .u64 0, .int .u64 0] 24)
    replace bx := bx.alloc (.cells #[.int .u64 0, .int .u64 0, .int .u64 0, .int .u64 0] 24)
    replace sb := sb.alloc (.cells #[.int .u64 0, .int .u64 0, .int .u64 0, .int .u64 0] 24)
    go_wp2_with fail
    (with_reducible refine (U.out _).mono ?_); rintro e w4 ⟨rfl, hb⟩
    replace bx := bx.call hb
    replace sb := sb.call hb
    replace sc := sc.call hb
    replace low := gCall low hb
    clear hb
    have sd := Box.new w4 24 #[.int .u64 0, .int .u64 0, .int .u64 0, .int .u64 0]
    replace low := gAlloc low (.cells #[.int .u64 0, .int .u64 0, .int .u64 0, .int .u64 0] 24)
    replace bx := bx.alloc (.cells #[.int .u64 0, .int .u64 0, .int .u64 0, .int .u64 0] 24)
    replace sb := sb.alloc (.cells #[.int .u64 0, .int .u64 0, .int .u64 0, .int .u64 0] 24)
    replace sc := sc.alloc (.cells #[.int .u64 0, .int .u64 0, .int .u64 0, .int .u64 0] 24)
    have bx_0 := bx.at_ 0 rfl
    have bx_1 := bx.at_ 1 rfl
    have bx_2 := bx.at_ 2 rfl
    have bx_3 := bx.at_ 3 rfl
    go_wp2_with fail
    go_region_held3 (fun w' => w'.cell? ⟨w.heap.size, 0, none⟩ = some (.int .u64 a) ∧ w'.cell? ⟨w.heap.size, 1, none⟩ = some (.int .u64 b) ∧ w'.cell? ⟨w.heap.size, 2, none⟩ = some (.int .u64 c) ∧ w'.cell? ⟨w.heap.size, 3, none⟩ = some (.int .u64 d) ∧ Box w' w.heap.size 24 #[.int .u64 a, .int .u64 b, .int .u64 c, .int .u64 d] ∧ Box w' w2.heap.size 24 #[.int .u64 0, .int .u64 0, .int .u64 0, .int .u64 0] ∧ Box w' w3.heap.size 24 #[.int .u64 0, .int .u64 0, .int .u64 0, .int .u64 0] ∧ Box w' w4.heap.size 24 #[.int .u64 0, .int .u64 0, .int .u64 0, .int .u64 0] ∧ Below w.heap.size w w')
      (first
        | (refine ⟨bx_0, bx_1, bx_2, bx_3, bx, sb, sc, sd, low⟩)
        | (refine ⟨bx_0, bx_1, bx_2, bx_3, bx.drew, sb.drew, sc.drew, sd.drew, low.drew⟩)
        | go_keep
        | (go_split_ands
           refine ⟨?_, ?_, ?_, ?_, ?_, ?_, ?_, ?_, ?_⟩ <;> first | (refine (hb.cell (World.block_lt_of_cell? _ _ (by assumption))).trans ?_; assumption) | exact Box.call (by assumption) hb | exact gCall (by assumption) hb))
      (first | (go_at_call 10; refine (C.out _).mono ?_; rintro e w' ⟨rfl, hb⟩) | (go_at_call 11; refine (R.out _).mono ?_; rintro e w' ⟨rfl, hb⟩))
    rename_i hH
    obtain ⟨_, _, _, _, bx, sb, sc, sd, low⟩ := hH
    clear hb
    have sd_0 := sd.at_ 0 rfl
    have sd_1 := sd.at_ 1 rfl
    have sd_2 := sd.at_ 2 rfl
    have sd_3 := sd.at_ 3 rfl
    have sb_0 := sb.at_ 0 rfl
    have sb_1 := sb.at_ 1 rfl
    have sb_2 := sb.at_ 2 rfl
    have sb_3 := sb.at_ 3 rfl
    have sc_0 := sc.at_ 0 rfl
    have sc_1 := sc.at_ 1 rfl
    have sc_2 := sc.at_ 2 rfl
    have sc_3 := sc.at_ 3 rfl
    go_wp2_with fail
    go_ret
    exact ⟨rfl, low⟩

set_option maxHeartbeats 4000000 in
theorem walk_kb_sg (a b c d : Int) (k : Int) (v : Int) (s : ByteArray) (w : World) (ha : U64 a) (hb : U64 b) (hc : U64 c) (hd : U64 d) (hk : k < 0 ∨ 3 < k) (hs : s.size = 32) :
    Calls Try.prog 3 #[line a b c d, .int .i64 k, .int .u64 v, .string s] w fun e w' => e = .returned (.bool true) ∧ Below w.heap.size w w' := by
  have L := Lib.hid fun W => load_any a b c d k W
  have S := Lib.hid fun W => store_any a b c d k v W
  have P := Lib.hid fun W => swap_any a b c d k v W
  have C := Lib.hid fun W => pack_any a b c d W
  have R := Lib.hid fun W => packOf_any a b c d W ha hb hc hd
  have U := Lib.hid fun W => unpack_ok s W hs
  have Q := Lib.hid fun W => packOf_unpack s hs W
  generalize wordOf s 0 = y0 at U Q
  generalize wordOf s 1 = y1 at U Q
  generalize wordOf s 2 = y2 at U Q
  generalize wordOf s 3 = y3 at U Q
  have hs1 : ((s.size : Int) != 32) = false := by simp; omega
  have hs2 : ((s.size : Int) == 32) = true := by simp; omega
  obtain ⟨h1, h2, h3⟩ := put_out a b c d k v hk
  rw [h2, h3] at L
  rw [h1, h3] at S
  rw [h1, h2, h3] at P
  clear hs ha hb hc hd h1 h2 h3
  generalize packS a b c d = ps at C R
  have eqL := eqLine
  rcases hk with hk | hk
  all_goals
    have low := Below.refl w.heap.size w
    have bx := Box.new w 24 #[.int .u64 a, .int .u64 b, .int .u64 c, .int .u64 d]
    replace low := gAlloc low (.cells #[.int .u64 a, .int .u64 b, .int .u64 c, .int .u64 d] 24)
    go_enter Try.func3, Try.ntmps3
    go_wp2_with fail
    (with_reducible refine (L.out _).mono ?_); rintro e w1 ⟨rfl, hb⟩
    replace bx := bx.call hb
    replace low := gCall low hb
    clear hb
    have bx_0 := bx.at_ 0 rfl
    have bx_1 := bx.at_ 1 rfl
    have bx_2 := bx.at_ 2 rfl
    have bx_3 := bx.at_ 3 rfl
    go_wp2_with fail
    (with_reducible refine (S.out _).mono ?_); rintro e w2 ⟨rfl, hb⟩
    replace bx := bx.call hb
    replace low := gCall low hb
    clear hb bx_0 bx_1 bx_2 bx_3
    have sb := Box.new w2 24 #[.int .u64 0, .int .u64 0, .int .u64 0, .int .u64 0]
    replace low := gAlloc low (.cells #[.int .u64 0, .int .u64 0, .int .u64 0, .int .u64 0] 24)
    replace bx := bx.alloc (.cells #[.int .u64 0, .int .u64 0, .int .u64 0, .int .u64 0] 24)
    have bx_0 := bx.at_ 0 rfl
    have bx_1 := bx.at_ 1 rfl
    have bx_2 := bx.at_ 2 rfl
    have bx_3 := bx.at_ 3 rfl
    go_wp2_with fail
    (with_reducible refine (P.out _).mono ?_); rintro e w3 ⟨rfl, hb⟩
    replace bx := bx.call hb
    replace sb := sb.call hb
    replace low := gCall low hb
    clear hb bx_0 bx_1 bx_2 bx_3
    have sc := Box.new w3 24 #[.int .u64 0, .int .u64 0, .int .u64 0, .int .u64 0]
    replace low := gAlloc low (.cells #[.int .u64 0, .int .u64 0, .int .u64 0, .int .u64 0] 24)
    replace bx := bx.alloc (.cells #[.int .u64 0, .int .u64 0, .int .u64 0, .int .u64 0] 24)
    replace sb := sb.alloc (.cells #[.int .u64 0, .int .u64 0, .int .u64 0, .int .u64 0] 24)
    go_wp2_with fail
    (with_reducible refine (U.out _).mono ?_); rintro e w4 ⟨rfl, hb⟩
    replace bx := bx.call hb
    replace sb := sb.call hb
    replace sc := sc.call hb
    replace low := gCall low hb
    clear hb
    have sd := Box.new w4 24 #[.int .u64 y0, .int .u64 y1, .int .u64 y2, .int .u64 y3]
    replace low := gAlloc low (.cells #[.int .u64 y0, .int .u64 y1, .int .u64 y2, .int .u64 y3] 24)
    replace bx := bx.alloc (.cells #[.int .u64 y0, .int .u64 y1, .int .u64 y2, .int .u64 y3] 24)
    replace sb := sb.alloc (.cells #[.int .u64 y0, .int .u64 y1, .int .u64 y2, .int .u64 y3] 24)
    replace sc := sc.alloc (.cells #[.int .u64 y0, .int .u64 y1, .int .u64 y2, .int .u64 y3] 24)
    have bx_0 := bx.at_ 0 rfl
    have bx_1 := bx.at_ 1 rfl
    have bx_2 := bx.at_ 2 rfl
    have bx_3 := bx.at_ 3 rfl
    go_wp2_with fail
    go_region_held3 (fun w' => w'.cell? ⟨w.heap.size, 0, none⟩ = some (.int .u64 a) ∧ w'.cell? ⟨w.heap.size, 1, none⟩ = some (.int .u64 b) ∧ w'.cell? ⟨w.heap.size, 2, none⟩ = some (.int .u64 c) ∧ w'.cell? ⟨w.heap.size, 3, none⟩ = some (.int .u64 d) ∧ Box w' w.heap.size 24 #[.int .u64 a, .int .u64 b, .int .u64 c, .int .u64 d] ∧ Box w' w2.heap.size 24 #[.int .u64 0, .int .u64 0, .int .u64 0, .int .u64 0] ∧ Box w' w3.heap.size 24 #[.int .u64 0, .int .u64 0, .int .u64 0, .int .u64 0] ∧ Box w' w4.heap.size 24 #[.int .u64 y0, .int .u64 y1, .int .u64 y2, .int .u64 y3] ∧ Below w.heap.size w w')
      (first
        | (refine ⟨bx_0, bx_1, bx_2, bx_3, bx, sb, sc, sd, low⟩)
        | (refine ⟨bx_0, bx_1, bx_2, bx_3, bx.drew, sb.drew, sc.drew, sd.drew, low.drew⟩)
        | go_keep
        | (go_split_ands
           refine ⟨?_, ?_, ?_, ?_, ?_, ?_, ?_, ?_, ?_⟩ <;> first | (refine (hb.cell (World.block_lt_of_cell? _ _ (by assumption))).trans ?_; assumption) | exact Box.call (by assumption) hb | exact gCall (by assumption) hb))
      (first | (go_at_call 10; refine (C.out _).mono ?_; rintro e w' ⟨rfl, hb⟩) | (go_at_call 11; refine (R.out _).mono ?_; rintro e w' ⟨rfl, hb⟩))
    rename_i hH
    obtain ⟨_, _, _, _, bx, sb, sc, sd, low⟩ := hH
    clear hb
    have sd_0 := sd.at_ 0 rfl
    have sd_1 := sd.at_ 1 rfl
    have sd_2 := sd.at_ 2 rfl
    have sd_3 := sd.at_ 3 rfl
    go_wp2_with fail
    (with_reducible refine (Q.out _).mono ?_); rintro e w6 ⟨rfl, hb⟩
    replace bx := bx.call hb
    replace sb := sb.call hb
    replace sc := sc.call hb
    replace sd := sd.call hb
    replace low := gCall low hb
    clear hb bx_0 bx_1 bx_2 bx_3 sd_0 sd_1 sd_2 sd_3
    have sb_0 := sb.at_ 0 rfl
    have sb_1 := sb.at_ 1 rfl
    have sb_2 := sb.at_ 2 rfl
    have sb_3 := sb.at_ 3 rfl
    have sc_0 := sc.at_ 0 rfl
    have sc_1 := sc.at_ 1 rfl
    have sc_2 := sc.at_ 2 rfl
    have sc_3 := sc.at_ 3 rfl
    go_wp2_with fail
    go_ret
    exact ⟨rfl, low⟩

set_option maxHeartbeats 4000000 in
theorem walk_kg_sb (a b c d : Int) (m : Nat) (v : Int) (s : ByteArray) (w : World) (ha : U64 a) (hb : U64 b) (hc : U64 c) (hd : U64 d) (hk : m < 4) (hs : s.size ≠ 32) :
    Calls Try.prog 3 #[line a b c d, .int .i64 (m : Int), .int .u64 v, .string s] w fun e w' => e = .returned (.bool true) ∧ Below w.heap.size w w' := by
  have L := Lib.hid fun W => load_any a b c d (m : Int) W
  have S := Lib.hid fun W => store_any a b c d (m : Int) v W
  have P := Lib.hid fun W => swap_any a b c d (m : Int) v W
  have C := Lib.hid fun W => pack_any a b c d W
  have R := Lib.hid fun W => packOf_any a b c d W ha hb hc hd
  have U := Lib.hid fun W => unpack_bad s W hs
  have hs1 : ((s.size : Int) != 32) = true := by simp; omega
  have hs2 : ((s.size : Int) == 32) = false := by simp; omega
  have hE : wordE m = 0 := if_pos ⟨by omega, by omega⟩
  rw [hE] at L S P
  have s0 := set_at0 a b c d v m hk
  have s1 := set_at1 a b c d v m hk
  have s2 := set_at2 a b c d v m hk
  have s3 := set_at3 a b c d v m hk
  have l0 := line_at a b c d m hk
  have hki : (m : Int) < 4 := by omega
  unfold putL at S P
  generalize putA a m v = x0 at S P s0
  generalize putB b m v = x1 at S P s1
  generalize putC c m v = x2 at S P s2
  generalize putD d m v = x3 at S P s3
  generalize wordAt a b c d m = q at L P l0
  have S0 := Lib.hid s0
  have S1 := Lib.hid s1
  have S2 := Lib.hid s2
  have S3 := Lib.hid s3
  have L0 := Lib.hid l0
  clear hs ha hb hc hd hk hE s0 s1 s2 s3 l0
  generalize packS a b c d = ps at C R
  have eqL := eqLine
  have low := Below.refl w.heap.size w
  have bx := Box.new w 24 #[.int .u64 a, .int .u64 b, .int .u64 c, .int .u64 d]
  replace low := gAlloc low (.cells #[.int .u64 a, .int .u64 b, .int .u64 c, .int .u64 d] 24)
  go_enter Try.func3, Try.ntmps3
  go_wp2_with fail
  (with_reducible refine (L.out _).mono ?_); rintro e w1 ⟨rfl, hb⟩
  replace bx := bx.call hb
  replace low := gCall low hb
  clear hb
  have bx_0 := bx.at_ 0 rfl
  have bx_1 := bx.at_ 1 rfl
  have bx_2 := bx.at_ 2 rfl
  have bx_3 := bx.at_ 3 rfl
  go_wp2_with fail
  (with_reducible refine (S.out _).mono ?_); rintro e w2 ⟨rfl, hb⟩
  replace bx := bx.call hb
  replace low := gCall low hb
  clear hb bx_0 bx_1 bx_2 bx_3
  have sb := Box.new w2 24 #[.int .u64 x0, .int .u64 x1, .int .u64 x2, .int .u64 x3]
  replace low := gAlloc low (.cells #[.int .u64 x0, .int .u64 x1, .int .u64 x2, .int .u64 x3] 24)
  replace bx := bx.alloc (.cells #[.int .u64 x0, .int .u64 x1, .int .u64 x2, .int .u64 x3] 24)
  have bx_0 := bx.at_ 0 rfl
  have bx_1 := bx.at_ 1 rfl
  have bx_2 := bx.at_ 2 rfl
  have bx_3 := bx.at_ 3 rfl
  go_wp2_with fail
  (with_reducible refine (P.out _).mono ?_); rintro e w3 ⟨rfl, hb⟩
  replace bx := bx.call hb
  replace sb := sb.call hb
  replace low := gCall low hb
  clear hb bx_0 bx_1 bx_2 bx_3
  have sc := Box.new w3 24 #[.int .u64 x0, .int .u64 x1, .int .u64 x2, .int .u64 x3]
  replace low := gAlloc low (.cells #[.int .u64 x0, .int .u64 x1, .int .u64 x2, .int .u64 x3] 24)
  replace bx := bx.alloc (.cells #[.int .u64 x0, .int .u64 x1, .int .u64 x2, .int .u64 x3] 24)
  replace sb := sb.alloc (.cells #[.int .u64 x0, .int .u64 x1, .int .u64 x2, .int .u64 x3] 24)
  go_wp2_with fail
  (with_reducible refine (U.out _).mono ?_); rintro e w4 ⟨rfl, hb⟩
  replace bx := bx.call hb
  replace sb := sb.call hb
  replace sc := sc.call hb
  replace low := gCall low hb
  clear hb
  have sd := Box.new w4 24 #[.int .u64 0, .int .u64 0, .int .u64 0, .int .u64 0]
  replace low := gAlloc low (.cells #[.int .u64 0, .int .u64 0, .int .u64 0, .int .u64 0] 24)
  replace bx := bx.alloc (.cells #[.int .u64 0, .int .u64 0, .int .u64 0, .int .u64 0] 24)
  replace sb := sb.alloc (.cells #[.int .u64 0, .int .u64 0, .int .u64 0, .int .u64 0] 24)
  replace sc := sc.alloc (.cells #[.int .u64 0, .int .u64 0, .int .u64 0, .int .u64 0] 24)
  have bx_0 := bx.at_ 0 rfl
  have bx_1 := bx.at_ 1 rfl
  have bx_2 := bx.at_ 2 rfl
  have bx_3 := bx.at_ 3 rfl
  go_wp2_with fail
  go_region_held3 (fun w' => w'.cell? ⟨w.heap.size, 0, none⟩ = some (.int .u64 a) ∧ w'.cell? ⟨w.heap.size, 1, none⟩ = some (.int .u64 b) ∧ w'.cell? ⟨w.heap.size, 2, none⟩ = some (.int .u64 c) ∧ w'.cell? ⟨w.heap.size, 3, none⟩ = some (.int .u64 d) ∧ Box w' w.heap.size 24 #[.int .u64 a, .int .u64 b, .int .u64 c, .int .u64 d] ∧ Box w' w2.heap.size 24 #[.int .u64 x0, .int .u64 x1, .int .u64 x2, .int .u64 x3] ∧ Box w' w3.heap.size 24 #[.int .u64 x0, .int .u64 x1, .int .u64 x2, .int .u64 x3] ∧ Box w' w4.heap.size 24 #[.int .u64 0, .int .u64 0, .int .u64 0, .int .u64 0] ∧ Below w.heap.size w w')
    (first
      | (refine ⟨bx_0, bx_1, bx_2, bx_3, bx, sb, sc, sd, low⟩)
      | (refine ⟨bx_0, bx_1, bx_2, bx_3, bx.drew, sb.drew, sc.drew, sd.drew, low.drew⟩)
      | go_keep
      | (go_split_ands
         refine ⟨?_, ?_, ?_, ?_, ?_, ?_, ?_, ?_, ?_⟩ <;> first | (refine (hb.cell (World.block_lt_of_cell? _ _ (by assumption))).trans ?_; assumption) | exact Box.call (by assumption) hb | exact gCall (by assumption) hb))
    (first | (go_at_call 10; refine (C.out _).mono ?_; rintro e w' ⟨rfl, hb⟩) | (go_at_call 11; refine (R.out _).mono ?_; rintro e w' ⟨rfl, hb⟩))
  rename_i hH
  obtain ⟨_, _, _, _, bx, sb, sc, sd, low⟩ := hH
  clear hb
  have wa := Box.new w' 24 #[.int .u64 a, .int .u64 b, .int .u64 c, .int .u64 d]
  have wf := wa.frozen m
  have wc := wa.at_ m L0.out
  clear wa
  have b_0 := bx.at_ 0 rfl
  have b_1 := bx.at_ 1 rfl
  have b_2 := bx.at_ 2 rfl
  have b_3 := bx.at_ 3 rfl
  have d_0 := sd.at_ 0 rfl
  have d_1 := sd.at_ 1 rfl
  have d_2 := sd.at_ 2 rfl
  have d_3 := sd.at_ 3 rfl
  have wa := Box.new w' 24 ([.int .u64 a, .int .u64 b, .int .u64 c, .int .u64 d].set m (.int .u64 v)).toArray
  replace low := gAlloc low (.cells ([.int .u64 a, .int .u64 b, .int .u64 c, .int .u64 d].set m (.int .u64 v)).toArray 24)
  replace bx := bx.alloc (.cells ([.int .u64 a, .int .u64 b, .int .u64 c, .int .u64 d].set m (.int .u64 v)).toArray 24)
  replace sb := sb.alloc (.cells ([.int .u64 a, .int .u64 b, .int .u64 c, .int .u64 d].set m (.int .u64 v)).toArray 24)
  replace sc := sc.alloc (.cells ([.int .u64 a, .int .u64 b, .int .u64 c, .int .u64 d].set m (.int .u64 v)).toArray 24)
  have b_m := bx.at_ m L0.out
  have w_0 := wa.at_ 0 S0.out
  have w_1 := wa.at_ 1 S1.out
  have w_2 := wa.at_ 2 S2.out
  have w_3 := wa.at_ 3 S3.out
  have sb_0 := sb.at_ 0 rfl
  have sb_1 := sb.at_ 1 rfl
  have sb_2 := sb.at_ 2 rfl
  have sb_3 := sb.at_ 3 rfl
  have sc_0 := sc.at_ 0 rfl
  have sc_1 := sc.at_ 1 rfl
  have sc_2 := sc.at_ 2 rfl
  have sc_3 := sc.at_ 3 rfl
  go_wp2_with fail
  go_ret
  exact ⟨rfl, low⟩

set_option maxHeartbeats 4000000 in
theorem walk_kg_sg (a b c d : Int) (m : Nat) (v : Int) (s : ByteArray) (w : World) (ha : U64 a) (hb : U64 b) (hc : U64 c) (hd : U64 d) (hk : m < 4) (hs : s.size = 32) :
    Calls Try.prog 3 #[line a b c d, .int .i64 (m : Int), .int .u64 v, .string s] w fun e w' => e = .returned (.bool true) ∧ Below w.heap.size w w' := by
  have L := Lib.hid fun W => load_any a b c d (m : Int) W
  have S := Lib.hid fun W => store_any a b c d (m : Int) v W
  have P := Lib.hid fun W => swap_any a b c d (m : Int) v W
  have C := Lib.hid fun W => pack_any a b c d W
  have R := Lib.hid fun W => packOf_any a b c d W ha hb hc hd
  have U := Lib.hid fun W => unpack_ok s W hs
  have Q := Lib.hid fun W => packOf_unpack s hs W
  generalize wordOf s 0 = y0 at U Q
  generalize wordOf s 1 = y1 at U Q
  generalize wordOf s 2 = y2 at U Q
  generalize wordOf s 3 = y3 at U Q
  have hs1 : ((s.size : Int) != 32) = false := by simp; omega
  have hs2 : ((s.size : Int) == 32) = true := by simp; omega
  have hE : wordE m = 0 := if_pos ⟨by omega, by omega⟩
  rw [hE] at L S P
  have s0 := set_at0 a b c d v m hk
  have s1 := set_at1 a b c d v m hk
  have s2 := set_at2 a b c d v m hk
  have s3 := set_at3 a b c d v m hk
  have l0 := line_at a b c d m hk
  have hki : (m : Int) < 4 := by omega
  unfold putL at S P
  generalize putA a m v = x0 at S P s0
  generalize putB b m v = x1 at S P s1
  generalize putC c m v = x2 at S P s2
  generalize putD d m v = x3 at S P s3
  generalize wordAt a b c d m = q at L P l0
  have S0 := Lib.hid s0
  have S1 := Lib.hid s1
  have S2 := Lib.hid s2
  have S3 := Lib.hid s3
  have L0 := Lib.hid l0
  clear hs ha hb hc hd hk hE s0 s1 s2 s3 l0
  generalize packS a b c d = ps at C R
  have eqL := eqLine
  have low := Below.refl w.heap.size w
  have bx := Box.new w 24 #[.int .u64 a, .int .u64 b, .int .u64 c, .int .u64 d]
  replace low := gAlloc low (.cells #[.int .u64 a, .int .u64 b, .int .u64 c, .int .u64 d] 24)
  go_enter Try.func3, Try.ntmps3
  go_wp2_with fail
  (with_reducible refine (L.out _).mono ?_); rintro e w1 ⟨rfl, hb⟩
  replace bx := bx.call hb
  replace low := gCall low hb
  clear hb
  have bx_0 := bx.at_ 0 rfl
  have bx_1 := bx.at_ 1 rfl
  have bx_2 := bx.at_ 2 rfl
  have bx_3 := bx.at_ 3 rfl
  go_wp2_with fail
  (with_reducible refine (S.out _).mono ?_); rintro e w2 ⟨rfl, hb⟩
  replace bx := bx.call hb
  replace low := gCall low hb
  clear hb bx_0 bx_1 bx_2 bx_3
  have sb := Box.new w2 24 #[.int .u64 x0, .int .u64 x1, .int .u64 x2, .int .u64 x3]
  replace low := gAlloc low (.cells #[.int .u64 x0, .int .u64 x1, .int .u64 x2, .int .u64 x3] 24)
  replace bx := bx.alloc (.cells #[.int .u64 x0, .int .u64 x1, .int .u64 x2, .int .u64 x3] 24)
  have bx_0 := bx.at_ 0 rfl
  have bx_1 := bx.at_ 1 rfl
  have bx_2 := bx.at_ 2 rfl
  have bx_3 := bx.at_ 3 rfl
  go_wp2_with fail
  (with_reducible refine (P.out _).mono ?_); rintro e w3 ⟨rfl, hb⟩
  replace bx := bx.call hb
  replace sb := sb.call hb
  replace low := gCall low hb
  clear hb bx_0 bx_1 bx_2 bx_3
  have sc := Box.new w3 24 #[.int .u64 x0, .int .u64 x1, .int .u64 x2, .int .u64 x3]
  replace low := gAlloc low (.cells #[.int .u64 x0, .int .u64 x1, .int .u64 x2, .int .u64 x3] 24)
  replace bx := bx.alloc (.cells #[.int .u64 x0, .int .u64 x1, .int .u64 x2, .int .u64 x3] 24)
  replace sb := sb.alloc (.cells #[.int .u64 x0, .int .u64 x1, .int .u64 x2, .int .u64 x3] 24)
  go_wp2_with fail
  (with_reducible refine (U.out _).mono ?_); rintro e w4 ⟨rfl, hb⟩
  replace bx := bx.call hb
  replace sb := sb.call hb
  replace sc := sc.call hb
  replace low := gCall low hb
  clear hb
  have sd := Box.new w4 24 #[.int .u64 y0, .int .u64 y1, .int .u64 y2, .int .u64 y3]
  replace low := gAlloc low (.cells #[.int .u64 y0, .int .u64 y1, .int .u64 y2, .int .u64 y3] 24)
  replace bx := bx.alloc (.cells #[.int .u64 y0, .int .u64 y1, .int .u64 y2, .int .u64 y3] 24)
  replace sb := sb.alloc (.cells #[.int .u64 y0, .int .u64 y1, .int .u64 y2, .int .u64 y3] 24)
  replace sc := sc.alloc (.cells #[.int .u64 y0, .int .u64 y1, .int .u64 y2, .int .u64 y3] 24)
  have bx_0 := bx.at_ 0 rfl
  have bx_1 := bx.at_ 1 rfl
  have bx_2 := bx.at_ 2 rfl
  have bx_3 := bx.at_ 3 rfl
  go_wp2_with fail
  go_region_held3 (fun w' => w'.cell? ⟨w.heap.size, 0, none⟩ = some (.int .u64 a) ∧ w'.cell? ⟨w.heap.size, 1, none⟩ = some (.int .u64 b) ∧ w'.cell? ⟨w.heap.size, 2, none⟩ = some (.int .u64 c) ∧ w'.cell? ⟨w.heap.size, 3, none⟩ = some (.int .u64 d) ∧ Box w' w.heap.size 24 #[.int .u64 a, .int .u64 b, .int .u64 c, .int .u64 d] ∧ Box w' w2.heap.size 24 #[.int .u64 x0, .int .u64 x1, .int .u64 x2, .int .u64 x3] ∧ Box w' w3.heap.size 24 #[.int .u64 x0, .int .u64 x1, .int .u64 x2, .int .u64 x3] ∧ Box w' w4.heap.size 24 #[.int .u64 y0, .int .u64 y1, .int .u64 y2, .int .u64 y3] ∧ Below w.heap.size w w')
    (first
      | (refine ⟨bx_0, bx_1, bx_2, bx_3, bx, sb, sc, sd, low⟩)
      | (refine ⟨bx_0, bx_1, bx_2, bx_3, bx.drew, sb.drew, sc.drew, sd.drew, low.drew⟩)
      | go_keep
      | (go_split_ands
         refine ⟨?_, ?_, ?_, ?_, ?_, ?_, ?_, ?_, ?_⟩ <;> first | (refine (hb.cell (World.block_lt_of_cell? _ _ (by assumption))).trans ?_; assumption) | exact Box.call (by assumption) hb | exact gCall (by assumption) hb))
    (first | (go_at_call 10; refine (C.out _).mono ?_; rintro e w' ⟨rfl, hb⟩) | (go_at_call 11; refine (R.out _).mono ?_; rintro e w' ⟨rfl, hb⟩))
  rename_i hH
  obtain ⟨_, _, _, _, bx, sb, sc, sd, low⟩ := hH
  clear hb
  have sd_0 := sd.at_ 0 rfl
  have sd_1 := sd.at_ 1 rfl
  have sd_2 := sd.at_ 2 rfl
  have sd_3 := sd.at_ 3 rfl
  go_wp2_with fail
  (with_reducible refine (Q.out _).mono ?_); rintro e w6 ⟨rfl, hb⟩
  replace bx := bx.call hb
  replace sb := sb.call hb
  replace sc := sc.call hb
  replace sd := sd.call hb
  replace low := gCall low hb
  clear hb bx_0 bx_1 bx_2 bx_3 sd_0 sd_1 sd_2 sd_3
  have wa := Box.new w6 24 #[.int .u64 a, .int .u64 b, .int .u64 c, .int .u64 d]
  have wf := wa.frozen m
  have wc := wa.at_ m L0.out
  clear wa
  have b_0 := bx.at_ 0 rfl
  have b_1 := bx.at_ 1 rfl
  have b_2 := bx.at_ 2 rfl
  have b_3 := bx.at_ 3 rfl
  have wa := Box.new w6 24 ([.int .u64 a, .int .u64 b, .int .u64 c, .int .u64 d].set m (.int .u64 v)).toArray
  replace low := gAlloc low (.cells ([.int .u64 a, .int .u64 b, .int .u64 c, .int .u64 d].set m (.int .u64 v)).toArray 24)
  replace bx := bx.alloc (.cells ([.int .u64 a, .int .u64 b, .int .u64 c, .int .u64 d].set m (.int .u64 v)).toArray 24)
  replace sb := sb.alloc (.cells ([.int .u64 a, .int .u64 b, .int .u64 c, .int .u64 d].set m (.int .u64 v)).toArray 24)
  replace sc := sc.alloc (.cells ([.int .u64 a, .int .u64 b, .int .u64 c, .int .u64 d].set m (.int .u64 v)).toArray 24)
  have b_m := bx.at_ m L0.out
  have w_0 := wa.at_ 0 S0.out
  have w_1 := wa.at_ 1 S1.out
  have w_2 := wa.at_ 2 S2.out
  have w_3 := wa.at_ 3 S3.out
  have sb_0 := sb.at_ 0 rfl
  have sb_1 := sb.at_ 1 rfl
  have sb_2 := sb.at_ 2 rfl
  have sb_3 := sb.at_ 3 rfl
  have sc_0 := sc.at_ 0 rfl
  have sc_1 := sc.at_ 1 rfl
  have sc_2 := sc.at_ 2 rfl
  have sc_3 := sc.at_ 3 rfl
  go_wp2_with fail
  go_ret
  exact ⟨rfl, low⟩

theorem walk (v0 v1 v2 v3 : Value) (w : World) (h0 : IsLine v0) (h1 : IsInt v1) (h2 : IsU64 v2) (h3 : IsStr v3) :
    Calls Try.prog 3 #[v0, v1, v2, v3] w fun e w' => e = .returned (.bool true) ∧ Below w.heap.size w w' := by
  obtain ⟨a, b, c, d, rfl, ha, hb, hc, hd⟩ := h0
  obtain ⟨k, rfl, _⟩ := h1
  obtain ⟨v, rfl, _⟩ := h2
  obtain ⟨s, rfl, _⟩ := h3
  by_cases hs : s.size = 32
  · by_cases hk : k < 0 ∨ 3 < k
    · exact walk_kb_sg a b c d k v s w ha hb hc hd hk hs
    · obtain ⟨m, rfl⟩ := Int.eq_ofNat_of_zero_le (show 0 ≤ k by omega)
      exact walk_kg_sg a b c d m v s w ha hb hc hd (by omega) hs
  · by_cases hk : k < 0 ∨ 3 < k
    · exact walk_kb_sb a b c d k v s w ha hb hc hd hk hs
    · obtain ⟨m, rfl⟩ := Int.eq_ofNat_of_zero_le (show 0 ≤ k by omega)
      exact walk_kg_sb a b c d m v s w ha hb hc hd (by omega) hs

set_option maxRecDepth 100000 in
theorem lifted (os : Os) (started : os.Started) (H : Type) (enc : TypeId × Value → H) :
    ReturnsInHanded {} Try.checked os 3 .any (Rows.wordsTellsSpec.pre6 enc Try.prog Try.f3 Rows.wordsTellsRow.domain false) (Rows.wordsTellsSpec.post enc Try.prog Try.f3 false true false false) := by
  refine returnsInHanded_of_change (C := Try.checked) own started (by kernel_rfl) Try.func3
    (ChangeSpec.witness6 (enc := enc) (C := Try.checked) false ⟨#[], #[line 1 2 3 4, .int .i64 0, .int .u64 5, .string ⟨#[]⟩], []⟩ 8 (by kernel_rfl) (by kernel_rfl) (by kernel_rfl) (by kernel_rfl)) ?_
  intro W base args ds gs before hval0 hW hcnd _
  have hval : ∀ (j : Nat) t v, Try.f3.params[j]? = some t → args[j]? = some v → Value.okWide Try.prog W .any base t v := hval0
  have hW' := hW
  obtain ⟨p, q, hA0, hV, rfl, hfz, hnd⟩ := hW
  have hA : DataW.TrodAll enc Try.prog W 0 (fun _ => true) true Try.f3.params.toList args.toList ds p := hA0
  rw [Try.params3] at hA hval
  obtain ⟨v0, vs0, d0, ds0, p0, q0, hargs, rfl, rfl, h0, r0⟩ := trodAll_cons hA
  obtain ⟨v1, vs1, d1, ds1, p1, q1, rfl, rfl, rfl, h1, r1⟩ := trodAll_cons r0
  obtain ⟨v2, vs2, d2, ds2, p2, q2, rfl, rfl, rfl, h2, r2⟩ := trodAll_cons r1
  obtain ⟨v3, vs3, d3, ds3, p3, q3, rfl, rfl, rfl, h3, r3⟩ := trodAll_cons r2
  obtain ⟨rfl, rfl, rfl⟩ := trodAll_nil r3
  obtain rfl : args = #[v0, v1, v2, v3] := by cases args; simp_all
  have k0 := openLine (hval 0 24 v0 rfl rfl) h0
  have k1 := openInt (hval 1 3 v1 rfl rfl) h1
  have k2 := openU64 (hval 2 22 v2 rfl rfl) h2
  have k3 := openStr (hval 3 9 v3 rfl rfl) h3
  obtain ⟨rfl, rfl⟩ := trodVars_none hV
  clear hA0 hval0
  refine (walk v0 v1 v2 v3 W k0 k1 k2 k3).mono fun e W' ⟨he, bel⟩ => ⟨_, he, ?_⟩
  exact law_post (by kernel_rfl) (by kernel_rfl) rfl hW' rfl rfl rfl bel

theorem over : Rows.wordsTellsRow.holds Try.pinned (OpenSpec.ofChange Rows.wordsTellsSpec) :=
  OpenClaim.holds_of_wide 3 Try.f3 rfl rfl rfl rfl rfl rfl rfl ⟨rfl, rfl, rfl, rfl, rfl⟩ rfl rfl rfl rfl rfl (by kernel_rfl) Try.func3 (by kernel_rfl)
    (of_decide_eq_true (by kernel_rfl)) (by unfold Func.isWrapper; first | (rw [if_pos (by decide +kernel)]; kernel_rfl) | (rw [if_neg (by decide +kernel)]; exact ⟨rfl, rfl⟩))
    (fun os started H enc _ => lifted os started H enc)

/-- The statement. -/
theorem wordsTells_holds : Rows.WordsTellsSaid := over
end Go.Proofs.Ytgmcopadokojfaa.wordsTells
namespace Go.Proofs.Ytgmcopadokojfaa
theorem wordsTells_holds : Rows.WordsTellsSaid := wordsTells.wordsTells_holds
#print axioms wordsTells_holds
end Go.Proofs.Ytgmcopadokojfaa
