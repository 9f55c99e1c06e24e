/-
  What padding computes.
-/
import Derived.Test.YtfkkpbfoipfekaaDoorW4
namespace Go.Proofs.YtfkkpbfoipfekaaDoor
open Go.RowKit
theorem zeros_num (n : Nat) : (IntKind.u64.wrap (55 - (n : Int))).tmod 64 = (Sha.zerosFor n : Nat) := by
  rw [Int.tmod_eq_emod_of_nonneg (wrap_u64_nonneg _), IntKind.wrap_u64]
  unfold Sha.zerosFor
  omega
theorem zeros_le (n : Nat) : Sha.zerosFor n ≤ 63 := by unfold Sha.zerosFor; omega
theorem made_zeros (n : Nat) : madeCells (Value.int .u8 0).cells n = Vs .u8 (List.replicate n 0) := by
  apply Array.ext
  · simp [size_madeCells, Vs_size]
  · intro i h1 h2
    simp [madeCells, Vs, vals, Value.cells, Nat.mod_one]
theorem run_make_zeros {i : TypeInfo} (hi : Tryd.prog.info? 5 = some i) (h0 : i.zero = some (.int .u8 0)) (h1 : i.size = 1) (h2 : i.bytes = 1) (z : Nat) (hz : z ≤ 63) (w : World) :
    (Instr.makeSlice 22 (.int .u64 (1 + (z : Int))) (.int .u64 (1 + (z : Int) + 8))).run Tryd.prog w = .ok (.slice (some ⟨w.heap.size, 0, none⟩) (1 + z) (1 + z + 8)) (w.alloc (.cells (Vs .u8 (List.replicate (1 + z + 8) 0)) 5)) := by
  rw [run_make (P := Tryd.prog) w 22 5 i _ Tryd.underlying22 hi h0 .u64 .u64 _ _ (by omega) (by omega) (by rw [h2]; omega) (by omega)]
  rw [h1, show (1 + (z : Int)).toNat = 1 + z by omega, show (1 + (z : Int) + 8).toNat = 1 + z + 8 by omega, Nat.mul_one, made_zeros]
theorem pad_start (w : World) (z : Nat) (hz : z ≤ 63) :
    (w.alloc (.cells ((Vs .u8 (List.replicate (1 + z + 8) 0)).setIfInBounds 0 (.int .u8 128)) 5)).ownsRow w.heap.size 5 1 (.slice (some ⟨w.heap.size, 0, none⟩) (1 + z + 0) (1 + z + 8)) (1 + z + 0) (vals .u8 (128 :: List.replicate z 0 ++ [])) := by
  have e : (Vs .u8 (List.replicate (1 + z + 8) 0)).setIfInBounds 0 (.int .u8 128) = Vs .u8 (128 :: List.replicate (z + 8) 0) := by
    have := Vs_set .u8 (List.replicate (1 + z + 8) 0) 0 128
    rw [show 1 + z + 8 = (z + 8) + 1 by omega, List.replicate_succ, List.set_cons_zero] at this
    rw [show 1 + z + 8 = (z + 8) + 1 by omega]
    exact this
  rw [e]
  refine ⟨by simp [vals]; omega, .inr ⟨w.heap.size, 1 + z + 8, _, rfl, Nat.le_refl _, heap_alloc_new w _, by omega, ?_, ?_, ?_⟩⟩
  · unfold maxLen; omega
  · rw [Vs_size]; simp; omega
  · simp only [Vs, List.toList_toArray, vals_take]
    rw [show (1 + z + 0) * 1 = z + 1 by omega, List.take_succ_cons, List.take_replicate, show min z (z + 8) = z by omega]
    simp
theorem byte_num (n j : Nat) : (n : Int) * 8 / 2 ^ (56 - 8 * j) % 256 = ((8 * n / 2 ^ (56 - 8 * j) % 256 : Nat) : Int) := by
  rw [Int.natCast_emod, Int.natCast_ediv, Int.natCast_pow, Int.natCast_mul, Int.mul_comm]; rfl
theorem vals_snoc (l : List Nat) (x : Nat) : vals .u8 l ++ [Value.int .u8 (x : Int)] = vals .u8 (l ++ [x]) := by simp [vals]
theorem be64_take (n j : Nat) (hj : j < 8) : (Sha.be64 (8 * n)).take (j + 1) = (Sha.be64 (8 * n)).take j ++ [8 * n / 2 ^ (56 - 8 * j) % 256] := by
  have hl : j < (Sha.be64 (8 * n)).length := hj
  rw [List.take_succ_eq_append_getElem hl]
  congr 2
  obtain rfl | rfl | rfl | rfl | rfl | rfl | rfl | rfl : j = 0 ∨ j = 1 ∨ j = 2 ∨ j = 3 ∨ j = 4 ∨ j = 5 ∨ j = 6 ∨ j = 7 := by omega
  all_goals simp [Sha.be64]
set_option maxRecDepth 100000
set_option maxHeartbeats 1000000 in
theorem padding_any (n : Nat) (hn : n < 1152921504606846976) (w : World) :
    Calls Tryd.prog 30 #[.int .u64 n] w fun e w' => ∃ v, e = .returned v ∧ w'.ownsRow w.heap.size 5 1 v (Sha.pad n).length (vals .u8 (Sha.pad n)) ∧ Below w.heap.size w w' := by
  obtain ⟨i0, hi0, hz0, hz1, hz2⟩ := info_parts Tryd.info5
  have hzn := zeros_num n
  have hzl := zeros_le n
  generalize HZ : Sha.zerosFor n = z at hzn hzl
  have HZ := Lib.hid HZ
  have hmk := run_make_zeros hi0 hz0 hz1 hz2 z hzl
  have c0 : (w.alloc (.cells (Vs .u8 (List.replicate (1 + z + 8) 0)) 5)).cell? ⟨w.heap.size, 0, none⟩ = some (.int .u8 0) := ((Blk.new w 5 _).cell 0).trans (Vs_get _ _ _ (by simp))
  have c1 : (w.alloc (.cells (Vs .u8 (List.replicate (1 + z + 8) 0)) 5)).frozen? ⟨w.heap.size, 0, none⟩ = false := (Blk.new w 5 _).frozen 0
  go_enter Tryd.func30, Tryd.ntmps30
  go_wp2
  clear c0 c1 hmk hzn
  have HS := Lib.hid (pad_start w z hzl)
  have HB := Lib.hid ((Below.refl w.heap.size w).alloc (Nat.le_refl _) (.cells ((Vs .u8 (List.replicate (1 + z + 8) 0)).setIfInBounds 0 (.int .u8 128)) 5))
  go_loopw [4, 6] (fun v i wr => ∃ j : Nat, j ≤ 8 ∧ i = .int .i64 (56 - 8 * (j : Int)) ∧ v = .slice (some ⟨w.heap.size, 0, none⟩) (1 + z + j) (1 + z + 8) ∧ wr.ownsRow w.heap.size 5 1 (.slice (some ⟨w.heap.size, 0, none⟩) (1 + z + j) (1 + z + 8)) (1 + z + j) (vals .u8 (128 :: List.replicate z 0 ++ (Sha.be64 (8 * n)).take j)) ∧ Below w.heap.size w wr) (fun _ i _ => (intOf i + 8).toNat)
  case atStart => exact ⟨0, by omega, rfl, rfl, HS.out, HB.out⟩
  case round =>
    obtain ⟨j, hj, rfl, rfl, hown, hbel⟩ := hrel
    clear HS HB
    have hsz := hbel.size
    by_cases hlt : j < 8
    · have hi1 : 0 ≤ 56 - 8 * (j : Int) := by omega
      have hi2 : decide (0 ≤ 56 - 8 * (j : Int)) = true := by simpa using hi1
      have hi3 : (56 - 8 * (j : Int)).toNat = 56 - 8 * j := by omega
      go_wp2_with (at_builtin; refine wpList_append_fits _ rfl _ _ 22 rfl w.heap.size 5 i0 1 Tryd.underlying22 hi0 hz1 w.heap.size (1 + z + j) (1 + z + 8) _ rfl (hown.alloc _) ⟨wr.heap.size, 0, none⟩ 1 1 [_] rfl rfl (row_cells wr 5 _) ?h1 (by omega) ?_)
      case h1 => simp [Value.oneCell']
      intro w2 hown2 hgrow2
      have HR : Hid (w2.ownsRow w.heap.size 5 1 (.slice (some ⟨w.heap.size, 0, none⟩) (1 + z + (j + 1)) (1 + z + 8)) (1 + z + (j + 1)) (vals .u8 (128 :: List.replicate z 0 ++ (Sha.be64 (8 * n)).take (j + 1)))) := Lib.hid (by
        rw [byte_num, vals_snoc, ← List.cons_append, List.append_assoc, ← be64_take n j hlt] at hown2
        exact hown2)
      have HB := Lib.hid ((hbel.alloc hsz _).grown hgrow2 (by simp; omega) (fun g hg => by have : w.heap.size = g := by simpa using hg
                                                                                           omega))
      clear hown2 hgrow2 hown hbel hi3
      go_wp2
      go_roundw
      case rel => exact ⟨j + 1, by omega, by go_num, rfl, HR.out, HB.out⟩
      case measure => simp [intOf]; omega
    · have hi1 : ¬ 0 ≤ 56 - 8 * (j : Int) := by omega
      have hi2 : decide (0 ≤ 56 - 8 * (j : Int)) = false := by simpa using hi1
      obtain rfl : j = 8 := by omega
      have HR := Lib.hid hown
      have HB := Lib.hid hbel
      clear hown hbel
      go_wp2
      go_ret
      have e : Sha.pad n = 128 :: List.replicate z 0 ++ (Sha.be64 (8 * n)).take 8 := by unfold Sha.pad; rw [HZ.out]; rfl
      have el : (Sha.pad n).length = 1 + z + 8 := by rw [e]; simp [Sha.be64]; omega
      rw [el, e]
      exact ⟨_, rfl, HR.out, HB.out⟩
end Go.Proofs.YtfkkpbfoipfekaaDoor
