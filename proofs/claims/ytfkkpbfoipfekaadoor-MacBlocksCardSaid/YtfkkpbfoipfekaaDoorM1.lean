/-
  What masked makes: a row of its own of the block's 64 bytes, each xored with the mask; nothing that was there before the call has changed.
-/
import Derived.Test.YtfkkpbfoipfekaaDoorMMath
import Derived.Test.YtfkkpbfoipfekaaDoorW5
namespace Go.Proofs.YtfkkpbfoipfekaaDoor
open Go.RowKit
theorem index64 {l : List Nat} (hl : l.length = 64) (k : Nat) (hk : k < 64) (w : World) : (Instr.index 38 (.agg (Vs .u8 l)) (.int .i64 (k : Int))).run Tryd.prog w = .ok (.int .u8 (l.getD k 0 : Nat)) w := by
  obtain ⟨i0, hi0, hz0, hz1, hz2⟩ := info_parts Tryd.info5
  have hg := Vs_get .u8 l k (by omega)
  have h1 : (0 : Int) ≤ (k : Int) := by omega
  have h2 : (k : Int) < (64 : Nat) := by omega
  simp only [Instr.index, asIntOf, Sem.run_bind, Sem.run_pure, Result.andThen_ok, run_underlying Tryd.underlying38, h1, h2, and_self, if_true, sizeOf, typeInfo]
  simp [part, go_sem, hg, hi0, hz1]
theorem xor_take (x : Nat) (l : List Nat) (k : Nat) (hk : k < l.length) : Mac.xorAll x (l.take (k + 1)) = Mac.xorAll x (l.take k) ++ [l.getD k 0 ^^^ x] := by
  rw [List.take_succ_eq_append_getElem hk, List.getD_eq_getElem?_getD, List.getElem?_eq_getElem hk]
  simp only [Mac.xorAll, List.map_append, List.map_cons, List.map_nil, Option.getD_some]
set_option maxRecDepth 100000
set_option maxHeartbeats 1000000 in
theorem masked_any (l : List Nat) (hl : l.length = 64) (hb : Sha.Bs l) (x : Nat) (hx : x < 256) (w : World) :
    Calls Tryd.prog 21 #[.agg (Vs .u8 l), .int .u8 (x : Int)] w fun e w' => ∃ v, e = .returned v ∧ w'.ownsRow w.heap.size 5 1 v 64 (vals .u8 (Mac.xorAll x l)) ∧ Below w.heap.size w w' := by
  obtain ⟨i0, hi0, hz0, hz1, hz2⟩ := info_parts Tryd.info5
  have HO := Lib.hid hb
  have HL := Lib.hid hl
  clear hb hl
  go_enter Tryd.func21, Tryd.ntmps21
  go_wp2_with (first
    | (refine wpList_make_own _ rfl _ _ 22 rfl (w.heap.size + 1) 5 i0 _ 1 Tryd.underlying22 hi0 hz0 hz1 _ _ _ 64 rfl rfl rfl (by rw [hz2]; decide) (by simp [maxLen]) (by simp) ?_; intro w1 hown1 hgrow1)
    | (refine wpList_load_row rfl 38 _ rfl w.heap.size rfl 38 _ _ _ ((Blk.new w 38 (Vs .u8 l)).grown hgrow1 (by simp)) Tryd.underlying38 rfl (by rw [Vs_size, HL.out]; exact Tryd.info43) ?_))
  have hb1 : Below w.heap.size w w1 := ((Below.refl _ w).alloc (Nat.le_refl _) (.cells (Vs .u8 l) 38)).grown hgrow1 (by simp) (by simp)
  simp only [World.size_alloc] at hown1
  have HOW := Lib.hid hown1
  have HB := Lib.hid hb1
  clear hown1 hgrow1 hb1
  go_loopw [5, 10] (fun v i wr => ∃ k : Nat, k ≤ 64 ∧ i = .int .i64 k ∧ v = .slice (some ⟨w.heap.size + 1, 0, none⟩) k 64 ∧ wr.ownsRow (w.heap.size + 1) 5 1 (.slice (some ⟨w.heap.size + 1, 0, none⟩) k 64) k (vals .u8 (Mac.xorAll x (l.take k))) ∧ Below w.heap.size w wr) (fun _ i _ => 64 - (intOf i).toNat)
  case atStart => exact ⟨0, by omega, rfl, rfl, HOW.out, HB.out⟩
  case round =>
    obtain ⟨k, hk, rfl, rfl, hown, hbel⟩ := hrel
    clear HOW HB
    by_cases hlt : k < 64
    · have hix := index64 HL.out k hlt
      have hy := HO.out.getD k
      have HN := Lib.hid (xor_take x l k (by rw [HL.out]; exact hlt))
      generalize l.getD k 0 = y at hix hy HN
      have hxy := u8_xor_nat y x hy hx
      have hsz := hbel.size
      go_wp2_with (at_builtin; refine wpList_append_fits _ rfl _ _ 22 rfl (w.heap.size + 1) 5 i0 1 Tryd.underlying22 hi0 hz1 (w.heap.size + 1) k 64 _ rfl (hown.alloc _) ⟨wr.heap.size, 0, none⟩ 1 1 [_] rfl rfl (row_cells wr 5 _) ?h1 (by omega) ?_)
      case h1 => simp [Value.oneCell']
      intro w2 hown2 hgrow2
      have HR : Hid (w2.ownsRow (w.heap.size + 1) 5 1 (.slice (some ⟨w.heap.size + 1, 0, none⟩) (k + 1) 64) (k + 1) (vals .u8 (Mac.xorAll x (l.take (k + 1))))) := Lib.hid (by
        first | rw [hxy, vals_snoc, ← HN.out] at hown2 | rw [vals_snoc, ← HN.out] at hown2
        exact hown2)
      have HB := Lib.hid ((hbel.alloc hsz _).grown hgrow2 (by simp; omega) (fun g hg => by have : w.heap.size + 1 = g := by simpa using hg
                                                                                           omega))
      clear hown2 hgrow2 hown hbel hix
      go_wp2
      go_roundw
      case rel => exact ⟨k + 1, by omega, by go_num, rfl, HR.out, HB.out⟩
      case measure => simp [intOf]; omega
    · obtain rfl : k = 64 := by omega
      have HR := Lib.hid (own_lower hown (Nat.le_succ _))
      have HB := Lib.hid hbel
      clear hown hbel
      go_wp2
      go_ret
      have e : l.take 64 = l := List.take_of_length_le (by rw [HL.out]; omega)
      rw [e] at HR
      exact ⟨_, rfl, HR.out, HB.out⟩
end Go.Proofs.YtfkkpbfoipfekaaDoor
