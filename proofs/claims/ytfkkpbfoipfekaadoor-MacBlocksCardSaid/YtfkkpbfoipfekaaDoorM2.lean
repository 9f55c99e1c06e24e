/-
  What blockKey makes: the key, or its sum where it is longer than a block, with noughts behind it; nothing that was there before the call has changed.
-/
import Derived.Test.YtfkkpbfoipfekaaDoorM1
import Derived.Test.YtfkkpbfoipfekaaDoorBytes
namespace Go.Proofs.YtfkkpbfoipfekaaDoor
open Go.RowKit
def zs64 : List Nat := List.replicate 64 0
theorem zs64_length : zs64.length = 64 := by simp [zs64]
theorem alloc64 (w : World) : (Instr.alloc 38 true (.tuple #[])).run Tryd.prog w = .ok (.pointer (some ⟨w.heap.size, 0, none⟩)) (w.alloc (.cells (Vs .u8 zs64) 38)) := by kernel_rfl
theorem splice0 (l : List Nat) : ((Vs .u8 zs64).toList.take 0 ++ vals .u8 l ++ (Vs .u8 zs64).toList.drop (0 + (vals .u8 l).length)).toArray = Vs .u8 (Mac.fill64 l) := by
  rw [vals_length, Nat.zero_add, List.take_zero, List.nil_append]
  simp only [Vs]
  rw [vals_drop, ← vals_append]
  congr 2
  unfold Mac.fill64 zs64
  rw [List.drop_replicate]
/-- copy(block[:], key), for a key of at most 64 bytes, into a block of noughts. -/
theorem copy64 {w : World} {g : Nat} {A : Option Addr} {c : Nat} {l : List Nat} (hB : Blk w g 38 (Vs .u8 zs64)) (hR : RdB w w.heap.size A l) (hAc : A = none → c = 0) (hl : l.length ≤ 64) :
    (Builtin.copy_ #[22, 22] 3 #[.slice (some ⟨g, 0, none⟩) 64 64, .slice A l.length c]).run Tryd.prog w = .ok (goInt l.length) (w.setRow g (Vs .u8 (Mac.fill64 l))) := by
  cases A with
  | none =>
    have hn : l = [] := by
      cases l with
      | nil => rfl
      | cons y r => obtain ⟨_, e, _⟩ := hR (by simp); cases e
    subst hn
    obtain rfl := hAc rfl
    have e : Mac.fill64 [] = zs64 := rfl
    rw [e, setRow_self w g _ _ _ hB]
    exact run_copy_nil Tryd.prog w 22 22 3 5 _ 64 64 Tryd.underlying22 (by kernel_rfl)
  | some ad =>
    have h := run_copy_row Tryd.prog w 22 22 3 5 g 0 64 64 ad l.length c (Vs .u8 zs64) 38 (vals .u8 l) Tryd.underlying22 (by kernel_rfl) hB (by rw [vals_length]; exact (Nat.min_eq_left hl).symm) (fun j v hj => by
      have hj' : j < (vals .u8 l).length := (List.getElem?_eq_some_iff.1 hj).1
      rw [vals_length] at hj'
      obtain ⟨ad', e, _, h3⟩ := hR (by omega)
      injection e with e
      subst e
      exact h3 j v hj) (by rw [vals_length, Vs_size, zs64_length]; omega) (vals_one _ _)
    rw [splice0, vals_length] at h
    exact h
theorem parts_one {w : World} {A : Option Addr} {c : Nat} {l : List Nat} (hR : RdB w w.heap.size A l) (hc : l.length ≤ c) :
    Parts (w.alloc (.cells #[.slice A l.length c] 22)) (w.alloc (.cells #[.slice A l.length c] 22)).heap.size (some ⟨w.heap.size, 0, none⟩) [l] := by
  intro i hi
  obtain rfl : i = 0 := by simpa using hi
  refine ⟨_, A, c, rfl, by simp, ?_, hc, (hR.below ((Below.refl _ _).alloc (Nat.le_refl _) _)).more (by simp)⟩
  rw [Addr.add_mid, Nat.add_zero, (Blk.new w 22 #[.slice A l.length c]).cell]
  rfl
set_option maxRecDepth 100000
set_option maxHeartbeats 400000 in
theorem blockKey_any (w : World) (A : Option Addr) (c : Nat) (key : List Nat) (hR : RdB w w.heap.size A key) (hAc : A = none → c = 0) (hc : key.length ≤ c) (hb : Sha.Bs key) (hI : Iat w) (hK : Kat w) (h2 : 2 ≤ w.heap.size) (hN : key.length < 576460752303423488) :
    Calls Tryd.prog 18 #[.slice A key.length c] w fun e w' => e = .returned (.agg (Vs .u8 (Mac.blockOf key))) ∧ Below w.heap.size w w' := by
  have HR := Lib.hid hR
  have HB := Lib.hid hb
  have HI := Lib.hid hI
  have HK := Lib.hid hK
  have HAc := Lib.hid hAc
  clear hR hb hI hK hAc
  go_enter Tryd.func18, Tryd.ntmps18
  have hb2 : Below w.heap.size w ((w.alloc (.cells (Vs .u8 zs64) 38)).alloc (.cells (Vs .u8 zs64) 38)) := ((Below.refl _ _).alloc (Nat.le_refl _) _).alloc (by simp) _
  have hg0 : Blk ((w.alloc (.cells (Vs .u8 zs64) 38)).alloc (.cells (Vs .u8 zs64) 38)) w.heap.size 38 (Vs .u8 zs64) := (Blk.new _ _ _).alloc _
  have hg1 : Blk ((w.alloc (.cells (Vs .u8 zs64) 38)).alloc (.cells (Vs .u8 zs64) 38)) (w.heap.size + 1) 38 (Vs .u8 zs64) := by
    have := Blk.new (w.alloc (.cells (Vs .u8 zs64) 38)) 38 (Vs .u8 zs64)
    simpa using this
  by_cases hlong : 64 < key.length
  · have HB2 := Lib.hid hb2
    have HG0 := Lib.hid hg0
    have HG1 := Lib.hid hg1
    have e64 : Mac.blockOf key = Mac.fill64 (Sha.sum key) := by unfold Mac.blockOf Mac.short; rw [if_pos hlong]
    have hsl : (Mac.fill64 (Sha.sum key)).length = 64 := Mac.fill64_length (by rw [Sha.sum_length]; omega)
    clear hb2 hg0 hg1
    go_wp2_with (refine wpList_allocRun rfl 38 rfl _ (alloc64 _) ?_)
    have HP := Lib.hid (parts_one (A := A) (c := c) ((HR.out.below HB2.out).more HB2.out.size) hc)
    have HB3 := Lib.hid (HB2.out.alloc (w := (w.alloc (.cells (Vs .u8 zs64) 38)).alloc (.cells (Vs .u8 zs64) 38)) HB2.out.size (.cells #[.slice A key.length c] 22))
    have HG2 := Lib.hid (HG0.out.alloc (.cells #[.slice A key.length c] 22))
    have HG3 := Lib.hid (HG1.out.alloc (.cells #[.slice A key.length c] 22))
    have hz : (((w.alloc (.cells (Vs .u8 zs64) 38)).alloc (.cells (Vs .u8 zs64) 38)).alloc (.cells #[.slice A key.length c] 22)).heap.size = w.heap.size + 1 + 1 + 1 := by simp
    have hz2 : ((w.alloc (.cells (Vs .u8 zs64) 38)).alloc (.cells (Vs .u8 zs64) 38)).heap.size = w.heap.size + 1 + 1 := by simp
    rw [hz2] at HP
    generalize (((w.alloc (.cells (Vs .u8 zs64) 38)).alloc (.cells (Vs .u8 zs64) 38)).alloc (.cells #[.slice A key.length c] 22)) = w3 at *
    clear HG0 HG1 HB2 hz2
    refine (sum_any w3 _ 1 [key] HP.out (by intro p hp; rw [List.mem_singleton] at hp; subst hp; exact HB.out) (HI.out.below HB3.out (by omega)) (HK.out.below HB3.out h2) (by omega) (by simp) (by simpa using hN)).mono ?_
    rintro e w4 ⟨v, rfl, hown, hb4⟩
    simp only [List.flatten_cons, List.flatten_nil, List.append_nil] at hown
    have hown' : w4.ownsRow w3.heap.size 5 1 v (Sha.sum key).length (vals .u8 (Sha.sum key)) := by rw [Sha.sum_length]; exact hown
    obtain ⟨X, cx, hv, hcx, _, hXn, hXr, _⟩ := own_form hown'
    have hg1 : Blk w4 (w.heap.size + 1) 38 (Vs .u8 zs64) := HG3.out.below hb4 (by omega)
    have HG0 : Hid (Blk w4 w.heap.size 38 (Vs .u8 zs64)) := Lib.hid (HG2.out.below hb4 (by omega))
    have HBB : Hid (Below w.heap.size w w4) := Lib.hid (HB3.out.trans (hb4.mono (by omega)))
    have hcp := copy64 hg1 hXr hXn (by rw [Sha.sum_length]; omega)
    have HG1 := Lib.hid hg1
    subst hv
    clear hown hown' hXr hXn hb4 HP HB3 HG2 HG3 hg1
    go_wp2_with (first
      | (refine wpList_load_row rfl 38 _ rfl (w.heap.size + 1) rfl 38 _ _ _ (HG1.out.row _) Tryd.underlying38 rfl (by rw [Vs_size, hsl]; exact Tryd.info43) ?_)
      | (refine wpList_store_row rfl 38 _ _ rfl w.heap.size _ rfl rfl 38 _ (HG0.out.rowFar (Nat.ne_of_lt (Nat.lt_succ_self _)) _) ?z2 ?z3 ?z4 ?_))
    case z2 => rw [Vs_size, hsl]; exact Tryd.info43
    case z3 => rw [Vs_size, Vs_size, hsl, zs64_length]
    case z4 => exact Vs_one _ _
    exact bodyPost_ret (results_cell_row rfl _ _ w.heap.size 38 _ _ _ rfl ((HG0.out.rowFar (Nat.ne_of_lt (Nat.lt_succ_self _)) _).row _) Tryd.underlying38 rfl (by rw [Vs_size, hsl]; exact Tryd.info43)) rfl ⟨by rw [e64], below_setRow (below_setRow HBB.out (Nat.le_succ _) _) (Nat.le_refl _) _⟩
  · have hcp := copy64 hg1 ((HR.out.below hb2).more hb2.size) HAc.out (by omega)
    have HB2 := Lib.hid hb2
    have HG0 := Lib.hid hg0
    have HG1 := Lib.hid hg1
    have e64 : Mac.blockOf key = Mac.fill64 key := by unfold Mac.blockOf Mac.short; rw [if_neg hlong]
    have hsl : (Mac.fill64 key).length = 64 := Mac.fill64_length (by omega)
    clear hb2 hg0 hg1
    go_wp2_with (first
      | (refine wpList_allocRun rfl 38 rfl _ (alloc64 _) ?_)
      | (refine wpList_load_row rfl 38 _ rfl (w.heap.size + 1) rfl 38 _ _ _ (HG1.out.row _) Tryd.underlying38 rfl (by rw [Vs_size, hsl]; exact Tryd.info43) ?_)
      | (refine wpList_store_row rfl 38 _ _ rfl w.heap.size _ rfl rfl 38 _ (HG0.out.rowFar (Nat.ne_of_lt (Nat.lt_succ_self _)) _) ?z2 ?z3 ?z4 ?_))
    case z2 => rw [Vs_size, hsl]; exact Tryd.info43
    case z3 => rw [Vs_size, Vs_size, hsl, zs64_length]
    case z4 => exact Vs_one _ _
    exact bodyPost_ret (results_cell_row rfl _ _ w.heap.size 38 _ _ _ rfl ((HG0.out.rowFar (Nat.ne_of_lt (Nat.lt_succ_self _)) _).row _) Tryd.underlying38 rfl (by rw [Vs_size, hsl]; exact Tryd.info43)) rfl ⟨by rw [e64], below_setRow (below_setRow HB2.out (Nat.le_succ _) _) (Nat.le_refl _) _⟩
end Go.Proofs.YtfkkpbfoipfekaaDoor
