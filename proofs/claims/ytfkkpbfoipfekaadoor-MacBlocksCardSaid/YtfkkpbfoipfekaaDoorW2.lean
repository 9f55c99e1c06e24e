/-
  What schedule computes: of a block of 64 bytes the 64 numbers of the plain mathematics; nothing that was there before the call has changed.
-/
import Derived.Test.YtfkkpbfoipfekaaDoorW1
import Derived.Test.YtfkkpbfoipfekaaDoorMem
import Derived.BigQuiet
import Derived.Deep.QuietTactic
import Derived.StillTailTactics
import Derived.Deep.LoopGhost
import Derived.Deep.RegionWith
namespace Go.Proofs.YtfkkpbfoipfekaaDoor
open Go.RowKit
def fill (ws : List Nat) : List Nat := ws ++ List.replicate (64 - ws.length) 0
theorem fill_length {ws : List Nat} (h : ws.length ≤ 64) : (fill ws).length = 64 := by simp [fill]; omega
theorem fill_getD {ws : List Nat} {i : Nat} (h : i < ws.length) : (fill ws).getD i 0 = ws.getD i 0 := by
  simp [fill, List.getD_eq_getElem?_getD, List.getElem?_append, h]
theorem fill_set {ws : List Nat} (v : Nat) (h : ws.length < 64) : (fill ws).set ws.length v = fill (ws ++ [v]) := by
  unfold fill
  rw [List.set_append_right _ _ (Nat.le_refl _), Nat.sub_self, List.append_assoc]
  obtain ⟨n, hn⟩ : ∃ n, 64 - ws.length = n + 1 := ⟨64 - ws.length - 1, by omega⟩
  rw [hn, List.replicate_succ, List.set_cons_zero]
  have : 64 - (ws ++ [v]).length = n := by simp; omega
  rw [this]; rfl
/-- What holds at the head of each round of schedule's loops: k numbers are there. -/
def Sched (w : World) (l : List Nat) (k : Nat) (wr : World) : Prop :=
  Blk wr w.heap.size 38 (Vs .u8 l) ∧ Blk wr (w.heap.size + 1) 60 (Vs .u32 (fill [])) ∧ Blk wr (w.heap.size + 1 + 1) 60 (Vs .u32 (fill (Sha.sched l k))) ∧ Below w.heap.size w wr
theorem sched_start (w : World) (l : List Nat) : Sched w l 0 (((w.alloc (.cells (Vs .u8 l) 38)).alloc (.cells (Vs .u32 (fill [])) 60)).alloc (.cells (Vs .u32 (fill [])) 60)) := by
  refine ⟨((Blk.new _ _ _).alloc _).alloc _, ?_, ?_, ((((Below.refl _ _).alloc (Nat.le_refl _) _).alloc (by simp) _).alloc (by simp; omega) _)⟩
  · have := (Blk.new (w.alloc (.cells (Vs .u8 l) 38)) 60 (Vs .u32 (fill []))).alloc (.cells (Vs .u32 (fill [])) 60)
    simpa using this
  · have := (Blk.new ((w.alloc (.cells (Vs .u8 l) 38)).alloc (.cells (Vs .u32 (fill [])) 60)) 60 (Vs .u32 (fill [])))
    simpa [Sha.sched] using this
theorem Sched.step {w wr : World} {l : List Nat} {k v : Nat} (h : Sched w l k wr) (hk : k < 64) (hv : Sha.sched l (k + 1) = Sha.sched l k ++ [v]) :
    Sched w l (k + 1) (wr.setCell ⟨w.heap.size + 1 + 1, k, none⟩ (.int .u32 (v : Int))) := by
  obtain ⟨h1, h2, h3, h4⟩ := h
  refine ⟨h1.far (by simp; omega) _, h2.far (by simp) _, ?_, h4.setCell (by simp; omega) _⟩
  refine (h3.put k _).cast ?_
  rw [Vs_set, hv]
  have := fill_set (ws := Sha.sched l k) v (by rw [Sha.sched_length]; exact hk)
  rw [Sha.sched_length] at this
  rw [this]
theorem Sched.drew {w wr : World} {l : List Nat} {k : Nat} (h : Sched w l k wr) : Sched w l k wr.drew := ⟨h.1.drew, h.2.1.drew, h.2.2.1.drew, h.2.2.2.drew⟩
theorem or_add (a b i : Nat) (h : b < 2 ^ i) : a * 2 ^ i ||| b = a * 2 ^ i + b := by
  rw [← Nat.shiftLeft_eq, Nat.shiftLeft_add_eq_or_of_lt h]
theorem or1 {x0 x1 : Nat} (b1 : x1 < 256) : x0 * 16777216 ||| x1 * 65536 = x0 * 16777216 + x1 * 65536 := or_add x0 (x1 * 65536) 24 (by omega)
theorem or2 {x0 x1 x2 : Nat} (b1 : x2 < 256) : (x0 * 16777216 + x1 * 65536) ||| x2 * 256 = x0 * 16777216 + x1 * 65536 + x2 * 256 := by
  rw [show x0 * 16777216 + x1 * 65536 = (x0 * 256 + x1) * 65536 by omega]
  exact or_add _ (x2 * 256) 16 (by omega)
theorem or3 {x0 x1 x2 x3 : Nat} (b1 : x3 < 256) : (x0 * 16777216 + x1 * 65536 + x2 * 256) ||| x3 = x0 * 16777216 + x1 * 65536 + x2 * 256 + x3 := by
  rw [show x0 * 16777216 + x1 * 65536 + x2 * 256 = (x0 * 65536 + x1 * 256 + x2) * 256 by omega]
  exact or_add _ x3 8 (by omega)
theorem word_num {x0 x1 x2 x3 : Nat} (b0 : x0 < 256) (b1 : x1 < 256) (b2 : x2 < 256) (b3 : x3 < 256) :
    bits BinOp.or IntKind.u32 (bits BinOp.or IntKind.u32 (bits BinOp.or IntKind.u32 ((x0 : Int) * 16777216) ((x1 : Int) * 65536)) ((x2 : Int) * 256)) (x3 : Int) = ((x0 * 16777216 + x1 * 65536 + x2 * 256 + x3 : Nat) : Int) := by
  have e1 : ((x0 : Int) * 16777216) = ((x0 * 16777216 : Nat) : Int) := by simp
  have e2 : ((x1 : Int) * 65536) = ((x1 * 65536 : Nat) : Int) := by simp
  have e3 : ((x2 : Int) * 256) = ((x2 * 256 : Nat) : Int) := by simp
  rw [e1, e2, e3, u32_or_nat _ _ (by omega) (by omega), or1 b1, u32_or_nat _ _ (by omega) (by omega), or2 b2, u32_or_nat _ _ (by omega) (by omega), or3 b3]
theorem sched_first {l : List Nat} {k x0 x1 x2 x3 : Nat} (hk : k < 16) (e0 : l.getD (4 * k) 0 = x0) (e1 : l.getD (4 * k + 1) 0 = x1) (e2 : l.getD (4 * k + 2) 0 = x2) (e3 : l.getD (4 * k + 3) 0 = x3) :
    Sha.sched l (k + 1) = Sha.sched l k ++ [x0 * 16777216 + x1 * 65536 + x2 * 256 + x3] := by
  rw [Sha.sched, if_pos hk, Sha.word, e0, e1, e2, e3]
theorem idx (k d : Nat) (h : d ≤ k) (hk : k < 64) : IntKind.i64.wrap ((k : Int) - (d : Int)) = (k : Int) - (d : Int) ∧ (d : Int) ≤ (k : Int) ∧ (k : Int) - (d : Int) < 64 ∧ ((k : Int) - (d : Int)).toNat = k - d := by
  refine ⟨IntWalk.i64_in _ (by omega), by omega, by omega, by omega⟩
theorem next_num (x0 x1 x2 x3 : Nat) : ((Sha.mixShift 17 19 10 x0 : Int) + x1 + Sha.mixShift 7 18 3 x2 + x3) % 4294967296 = (((Sha.mixShift 17 19 10 x0 + x1 + Sha.mixShift 7 18 3 x2 + x3) % Sha.M : Nat) : Int) := by
  unfold Sha.M; omega
theorem sched_next {l : List Nat} {k x0 x1 x2 x3 : Nat} (hk : 16 ≤ k) (e0 : (Sha.sched l k).getD (k - 2) 0 = x0) (e1 : (Sha.sched l k).getD (k - 7) 0 = x1) (e2 : (Sha.sched l k).getD (k - 15) 0 = x2) (e3 : (Sha.sched l k).getD (k - 16) 0 = x3) :
    Sha.sched l (k + 1) = Sha.sched l k ++ [(Sha.mixShift 17 19 10 x0 + x1 + Sha.mixShift 7 18 3 x2 + x3) % Sha.M] := by
  rw [Sha.sched, if_neg (by omega), Sha.next, Sha.sched_length, e0, e1, e2, e3]
theorem Tryd.info51 : (Tryd.prog.info? 60).map (·.size) = some 64 := by kernel_rfl
theorem fill64 (l : List Nat) : (fill (Sha.sched l 64)).length = 64 := fill_length (by rw [Sha.sched_length]; exact Nat.le_refl _)
theorem fill_sched (l : List Nat) : fill (Sha.sched l 64) = Sha.sched l 64 := by
  unfold fill; rw [Sha.sched_length]; simp
set_option maxHeartbeats 400000 in
theorem sched_any (l : List Nat) (hl : l.length = 64) (hb : Sha.Bs l) (w : World) :
  Calls Tryd.prog 33 #[.agg (Vs .u8 l)] w fun e w' => e = .returned (.agg (Vs .u32 (Sha.sched l 64))) ∧ Below w.heap.size w w' := by
  have HL := Lib.hid hl
  clear hl
  go_enter Tryd.func33, Tryd.ntmps33
  go_wp2
  go_loopw [6] (fun i wr => ∃ k : Nat, k ≤ 16 ∧ i = .int .i64 k ∧ Sched w l k wr) (fun i _ => 16 - (intOf i).toNat)
  case atStart => exact ⟨0, by omega, rfl, sched_start w l⟩
  case round =>
    obtain ⟨k, hk, rfl, hs⟩ := hrel
    have HS := Lib.hid hs
    obtain ⟨h1, h2, h3, h4⟩ := hs
    by_cases hlt : k < 16
    · have c0 : wr.cell? ⟨w.heap.size, 4 * k, none⟩ = some (.int .u8 (l.getD (4 * k) 0 : Nat)) := (h1.cell _).trans (Vs_get _ _ _ (by have := HL.out; omega))
      have c1 : wr.cell? ⟨w.heap.size, 4 * k + 1, none⟩ = some (.int .u8 (l.getD (4 * k + 1) 0 : Nat)) := (h1.cell _).trans (Vs_get _ _ _ (by have := HL.out; omega))
      have c2 : wr.cell? ⟨w.heap.size, 4 * k + 2, none⟩ = some (.int .u8 (l.getD (4 * k + 2) 0 : Nat)) := (h1.cell _).trans (Vs_get _ _ _ (by have := HL.out; omega))
      have c3 : wr.cell? ⟨w.heap.size, 4 * k + 3, none⟩ = some (.int .u8 (l.getD (4 * k + 3) 0 : Nat)) := (h1.cell _).trans (Vs_get _ _ _ (by have := HL.out; omega))
      have c4 : wr.cell? ⟨w.heap.size + 1 + 1, k, none⟩ = some (.int .u32 ((fill (Sha.sched l k)).getD k 0 : Nat)) := (h3.cell _).trans (Vs_get _ _ _ (by rw [fill_length (by rw [Sha.sched_length]; omega)]; omega))
      have c5 : wr.frozen? ⟨w.heap.size + 1 + 1, k, none⟩ = false := h3.frozen _
      have b0 := hb.getD (4 * k); have b1 := hb.getD (4 * k + 1); have b2 := hb.getD (4 * k + 2); have b3 := hb.getD (4 * k + 3)
      generalize E0 : l.getD (4 * k) 0 = x0 at c0 b0; generalize E1 : l.getD (4 * k + 1) 0 = x1 at c1 b1; generalize E2 : l.getD (4 * k + 2) 0 = x2 at c2 b2; generalize E3 : l.getD (4 * k + 3) 0 = x3 at c3 b3
      have HN := Lib.hid (HS.out.step (by omega) (sched_first hlt E0 E1 E2 E3)).drew
      have HW := Lib.hid (word_num b0 b1 b2 b3)
      clear E0 E1 E2 E3
      clear h1 h2 h3 h4
      go_wp2
      go_region
      go_wp2
      go_roundw
      case rel =>
        refine ⟨k + 1, by omega, by go_num, ?_⟩
        rw [HW.out]
        exact HN.out
      case measure => simp [intOf]; omega
    · obtain rfl : k = 16 := by omega
      clear h1 h2 h3 h4 hk hlt
      obtain ⟨ws, hws⟩ : ∃ ws : World, ws = wr := ⟨_, rfl⟩
      subst hws
      rw [show ((16 : Nat) : Int) = (16 : Int) from rfl]
      go_wp2
      go_loopw [5] (fun i wr => ∃ k : Nat, 16 ≤ k ∧ k ≤ 64 ∧ i = .int .i64 k ∧ Sched w l k wr) (fun i _ => 64 - (intOf i).toNat)
      case atStart => exact ⟨16, by omega, by omega, rfl, HS.out⟩
      case round =>
        obtain ⟨k, hk0, hk, rfl, hs⟩ := hrel
        clear HS
        have HS := Lib.hid hs
        obtain ⟨h1, h2, h3, h4⟩ := hs
        have hfl : (fill (Sha.sched l k)).length = 64 := fill_length (by rw [Sha.sched_length]; omega)
        have hsl := Sha.sched_length l k
        by_cases hlt : k < 64
        · have c0 : wr.cell? ⟨w.heap.size + 1 + 1, k - 2, none⟩ = some (.int .u32 ((Sha.sched l k).getD (k - 2) 0 : Nat)) := (h3.cell _).trans ((Vs_get _ _ _ (by omega)).trans (by rw [fill_getD (by omega)]))
          have c1 : wr.cell? ⟨w.heap.size + 1 + 1, k - 7, none⟩ = some (.int .u32 ((Sha.sched l k).getD (k - 7) 0 : Nat)) := (h3.cell _).trans ((Vs_get _ _ _ (by omega)).trans (by rw [fill_getD (by omega)]))
          have c2 : wr.cell? ⟨w.heap.size + 1 + 1, k - 15, none⟩ = some (.int .u32 ((Sha.sched l k).getD (k - 15) 0 : Nat)) := (h3.cell _).trans ((Vs_get _ _ _ (by omega)).trans (by rw [fill_getD (by omega)]))
          have c3 : wr.cell? ⟨w.heap.size + 1 + 1, k - 16, none⟩ = some (.int .u32 ((Sha.sched l k).getD (k - 16) 0 : Nat)) := (h3.cell _).trans ((Vs_get _ _ _ (by omega)).trans (by rw [fill_getD (by omega)]))
          have c4 : wr.cell? ⟨w.heap.size + 1 + 1, k, none⟩ = some (.int .u32 ((fill (Sha.sched l k)).getD k 0 : Nat)) := (h3.cell _).trans (Vs_get _ _ _ (by omega))
          have c5 : wr.frozen? ⟨w.heap.size + 1 + 1, k, none⟩ = false := h3.frozen _
          have b0 := Sha.sched_getD hb k (k - 2); have b1 := Sha.sched_getD hb k (k - 7); have b2 := Sha.sched_getD hb k (k - 15); have b3 := Sha.sched_getD hb k (k - 16)
          generalize E0 : (Sha.sched l k).getD (k - 2) 0 = x0 at c0 b0; generalize E1 : (Sha.sched l k).getD (k - 7) 0 = x1 at c1 b1; generalize E2 : (Sha.sched l k).getD (k - 15) 0 = x2 at c2 b2; generalize E3 : (Sha.sched l k).getD (k - 16) 0 = x3 at c3 b3
          have HN := Lib.hid (HS.out.step hlt (sched_next hk0 E0 E1 E2 E3)).drew
          have HW := Lib.hid (next_num x0 x1 x2 x3)
          clear E0 E1 E2 E3
          clear h1 h2 h3 h4 hfl hsl
          unfold Sha.M at b0 b1 b2 b3
          go_wp2
          have f2 := idx k 2 (by omega) hlt; have f7 := idx k 7 (by omega) hlt; have f15 := idx k 15 (by omega) hlt; have f16 := idx k 16 (by omega) hlt
          simp only [Int.cast_ofNat_Int] at f2 f7 f15 f16
          obtain ⟨f2a, f2b, f2c, f2d⟩ := f2; obtain ⟨f7a, f7b, f7c, f7d⟩ := f7; obtain ⟨f15a, f15b, f15c, f15d⟩ := f15; obtain ⟨f16a, f16b, f16c, f16d⟩ := f16
          refine wp_region_still_tail 23 (by kernel_rfl) (by kernel_rfl) ?_
          simp only [List.take_succ_cons, List.take_zero, List.drop_succ_cons, List.drop_zero]
          change wpStill _ _ wr.drew _ _ _
          repeat still_step
          still_call ((mixShift_1 x0 _ b0).mono fun _ _ h => ⟨h.1, h.2.symm⟩)
          repeat still_step
          still_call ((mixShift_0 x2 _ b2).mono fun _ _ h => ⟨h.1, h.2.symm⟩)
          repeat still_step
          refine wpStill_nil ?_
          change wpList _ _ _ _ _ wr.drew
          clear f2a f2b f2c f2d f7a f7b f7c f7d f15a f15b f15c f15d f16a f16b f16c f16d
          go_wp2
          go_roundw
          case rel =>
            refine ⟨k + 1, by omega, by omega, by go_num, ?_⟩
            rw [HW.out]
            exact HN.out
          case measure => simp [intOf]; omega
        · obtain rfl : k = 64 := by omega
          go_wp2_with (first | (refine wpList_load_row rfl 60 _ rfl (w.heap.size + 1 + 1) rfl 60 _ _ _ h3 Tryd.underlying60 rfl ?z1 ?_) | (refine wpList_store_row rfl 60 _ _ rfl (w.heap.size + 1) _ rfl rfl 60 _ h2 ?z2 ?z3 ?z4 ?_))
          case z1 => rw [Vs_size, fill64]; exact Tryd.info51
          case z2 => rw [Vs_size, fill64]; exact Tryd.info51
          case z3 => rw [Vs_size, Vs_size, fill64]; rfl
          case z4 => exact Vs_one _ _
          exact bodyPost_ret (results_cell_row rfl _ _ (w.heap.size + 1) 60 _ _ _ rfl (h2.row _) Tryd.underlying60 rfl (by rw [Vs_size, fill64]; exact Tryd.info51)) rfl ⟨by rw [fill_sched], below_setRow h4 (by omega) _⟩
end Go.Proofs.YtfkkpbfoipfekaaDoor
