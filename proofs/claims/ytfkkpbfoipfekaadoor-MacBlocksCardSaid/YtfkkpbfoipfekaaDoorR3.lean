/-
  What the document's schedule computes: a row of its own of the sixty-four numbers of the plain mathematics.
-/
import Derived.Test.YtfkkpbfoipfekaaDoorR2
import Derived.Deep.AppendLies
import Derived.Deep.RegionLaw
namespace Go.Proofs.YtfkkpbfoipfekaaDoor
open Go.RowKit
theorem Tryd.info3 : (Tryd.prog.info? 3).map (fun i => (i.zero, i.size, i.bytes)) = some (some (.int .i64 0), 1, 8) := by kernel_rfl
theorem xor64 (a b : Nat) (ha : a < Sha.M) (hb : b < Sha.M) : bits .xor .i64 (a : Int) (b : Int) = ((a ^^^ b : Nat) : Int) := by
  have hx : a ^^^ b < 4294967296 := Sha.xor_lt ha hb
  unfold Sha.M at ha hb
  have o : ∀ n : Nat, n < 4294967296 → (BitVec.ofInt 64 (n : Int)).toNat = n := fun n hn => by
    rw [BitVec.ofInt_natCast, BitVec.toNat_ofNat]; exact Nat.mod_eq_of_lt (by omega)
  show IntKind.i64.wrap ((BitVec.ofInt 64 (a : Int) ^^^ BitVec.ofInt 64 (b : Int)).toNat : Int) = _
  rw [BitVec.toNat_xor, o a ha, o b hb, IntKind.wrap_i64]
  omega
theorem and64 (a b : Nat) (ha : a < Sha.M) (hb : b < Sha.M) : bits .and .i64 (a : Int) (b : Int) = ((a &&& b : Nat) : Int) := by
  have hx : a &&& b < 4294967296 := Sha.and_lt ha
  unfold Sha.M at ha hb
  have o : ∀ n : Nat, n < 4294967296 → (BitVec.ofInt 64 (n : Int)).toNat = n := fun n hn => by
    rw [BitVec.ofInt_natCast, BitVec.toNat_ofNat]; exact Nat.mod_eq_of_lt (by omega)
  show IntKind.i64.wrap ((BitVec.ofInt 64 (a : Int) &&& BitVec.ofInt 64 (b : Int)).toNat : Int) = _
  rw [BitVec.toNat_and, o a ha, o b hb, IntKind.wrap_i64]
  omega
/-- The xor of two turns and a shift, step by step as the walk meets it. -/
theorem shift_facts (i j l p : Nat) (hi : i ≤ 32) (hj : j ≤ 32) (hp : 2 ^ l = p) {x : Nat} (hx : x < Sha.M) : ∃ y s : Nat, bits .xor .i64 ((Sha.rot i x : Nat) : Int) ((Sha.rot j x : Nat) : Int) = (y : Int) ∧ bits .xor .i64 (y : Int) ((x : Int) / (p : Int)) = (s : Int) ∧ s = Sha.mixShift i j l x ∧ s < Sha.M := by
  have h1 := Sha.rot_lt hi hx
  have h2 := Sha.rot_lt hj hx
  refine ⟨Sha.rot i x ^^^ Sha.rot j x, Sha.mixShift i j l x, xor64 _ _ h1 h2, ?_, rfl, Sha.mixShift_lt hi hj hx⟩
  rw [show (x : Int) / (p : Int) = ((x / p : Nat) : Int) by rw [Int.natCast_ediv], ← hp, xor64 _ _ (Sha.xor_lt h1 h2) (Sha.div_lt l hx)]
  rfl
theorem own_ints {w : World} {base n : Nat} {v : Value} {l : List Nat} (h : w.ownsRow base 3 1 v n (vals .i64 l)) (hn : 0 < n) : ∃ q cap, v = .slice (some ⟨q, 0, none⟩) n cap ∧ base ≤ q := by
  rcases h.2 with ⟨_, h0⟩ | ⟨q, cap, cur, hv, hq, _⟩
  · omega
  · exact ⟨q, cap, hv, hq⟩
theorem ownB {w : World} {base : Nat} {e : TypeId} {size n : Nat} {v : Value} {xs : List Value} (h : w.ownsRow base e size v n xs) : ∀ p, v.ownBlock = some p → base ≤ p := by
  intro p hp
  rcases h.2 with ⟨rfl, _⟩ | ⟨q, cap, cur, rfl, hb, _⟩
  · simp [Value.ownBlock] at hp
  · simp only [Value.ownBlock, Option.some.injEq] at hp; omega
theorem top4 (a b c d : Nat) (W : World) (ha : a < 4294967296) (hb : b < 4294967296) (hc : c < 4294967296) (hd : d < 4294967296) : Calls Tryd.prog 27 #[.int .i64 ((a : Int) + (b : Int) + (c : Int) + (d : Int))] W fun e w' => e = .returned (.int .i64 (((a + b + c + d) % Sha.M : Nat) : Int)) ∧ W = w' := by
  have := top_any (a + b + c + d) W (by omega)
  rw [show ((a + b + c + d : Nat) : Int) = (a : Int) + (b : Int) + (c : Int) + (d : Int) by omega] at this
  exact this
set_option maxRecDepth 100000
set_option maxHeartbeats 1000000 in
theorem rsched_any (w : World) (p o c : Nat) (l : List Nat) (hp : p < w.heap.size) (hl : At64 w p o l) (hb : Sha.Bs l) :
    Calls Tryd.prog 26 #[.slice (some ⟨p, o, none⟩) 64 c] w fun e w' => ∃ v, e = .returned v ∧ w'.ownsRow w.heap.size 3 1 v 64 (vals .i64 (Sha.sched l 64)) ∧ Below w.heap.size w w' := by
  obtain ⟨i0, hi0, hz0, hz1, hz2⟩ := info_parts Tryd.info3
  have HL := Lib.hid hl
  have HBs := Lib.hid hb
  clear hl hb
  go_enter Tryd.func26, Tryd.ntmps26
  go_wp2
  go_loopw [3, 4] (fun v i wr => ∃ k : Nat, k ≤ 16 ∧ i = .int .i64 k ∧ wr.ownsRow w.heap.size 3 1 v k (vals .i64 (Sha.sched l k)) ∧ Below w.heap.size w wr) (fun _ i _ => 16 - (intOf i).toNat)
  case atStart => exact ⟨0, by omega, rfl, ⟨rfl, .inl ⟨rfl, rfl⟩⟩, Below.refl _ _⟩
  case round =>
    obtain ⟨k, hk, rfl, hown, hbel⟩ := hrel
    have hsz := hbel.size
    have HO := Lib.hid hown
    have HB := Lib.hid hbel
    clear hown hbel
    by_cases hlt : k < 16
    · have HA : Hid (At64 wr p o l) := Lib.hid (fun j hj => (HB.out.cell hp).trans (HL.out j hj))
      have HN : Hid (Sha.sched l (k + 1) = Sha.sched l k ++ [Sha.word l (4 * k)]) := Lib.hid (by rw [Sha.sched, if_pos hlt])
      go_wp2_with fail
      rw [show (4 : Int) * (k : Int) = ((4 * k : Nat) : Int) by omega]
      refine (word_any wr p o c (4 * k) l HA.out HBs.out (by omega)).mono ?_
      rintro e w2 ⟨rfl, n2, rfl⟩
      go_wp2_with (at_builtin; refine wpList_append_own _ rfl _ _ 46 rfl w.heap.size 3 i0 (.int .i64 0) 1 8 Tryd.underlying46 hi0 hz0 hz1 hz2 rfl (by decide) _ k (vals .i64 (Sha.sched l k)) rfl (HO.out.alloc _) ⟨wr.heap.size, 0, none⟩ 1 1 [.int .i64 ((Sha.word l (4 * k) : Nat) : Int)] rfl rfl (row_cells _ 3 _) ?c2 ?c3 (by omega) ?c5 ?_)
      case c2 => intro u hu; rw [List.mem_singleton] at hu; subst hu; rfl
      case c3 => unfold maxLen; omega
      case c5 => simp; omega
      intro v3 w3 hown3 hgrow3 _
      have HR : Hid (w3.ownsRow w.heap.size 3 1 v3 (k + 1) (vals .i64 (Sha.sched l (k + 1)))) := Lib.hid (by rw [HN.out, vals_append]; exact hown3)
      have hrow := ownB HO.out
      have HB3 : Hid (Below w.heap.size w w3) := Lib.hid (((below_drewN HB.out n2).alloc (by simpa using hsz) _).grown hgrow3 (by simp; omega) (fun j hj => hrow j hj))
      clear hown3 hgrow3 hrow
      go_wp2
      go_roundw
      case rel => exact ⟨k + 1, by omega, by go_num, HR.out, HB3.out⟩
      case measure => simp [intOf]; omega
    · obtain rfl : k = 16 := by omega
      clear hk hlt
      obtain ⟨wo, hwo⟩ : ∃ wo : World, wo = wr := ⟨_, rfl⟩
      subst hwo
      rw [show ((16 : Nat) : Int) = (16 : Int) from rfl]
      go_wp2
      go_loopw [3, 5] (fun v i wr => ∃ k : Nat, 16 ≤ k ∧ k ≤ 64 ∧ i = .int .i64 k ∧ wr.ownsRow w.heap.size 3 1 v k (vals .i64 (Sha.sched l k)) ∧ Below w.heap.size w wr) (fun _ i _ => 64 - (intOf i).toNat)
      case atStart => exact ⟨16, by omega, by omega, rfl, HO.out, HB.out⟩
      case round =>
        obtain ⟨k, hk0, hk, rfl, hown, hbel⟩ := hrel
        clear HO HB hsz
        have hsz := hbel.size
        by_cases hlt : k < 64
        · obtain ⟨q, cap, hv, hq⟩ := own_ints hown (by omega)
          subst hv
          have hsl := Sha.sched_length l k
          have c0 : wr.cell? ⟨q, k - 15, none⟩ = some (.int .i64 ((Sha.sched l k).getD (k - 15) 0 : Nat)) := (hown.cellAt _ (by omega)).trans (vals_get _ _ _ (by omega))
          have c1 : wr.cell? ⟨q, k - 2, none⟩ = some (.int .i64 ((Sha.sched l k).getD (k - 2) 0 : Nat)) := (hown.cellAt _ (by omega)).trans (vals_get _ _ _ (by omega))
          have c2 : wr.cell? ⟨q, k - 7, none⟩ = some (.int .i64 ((Sha.sched l k).getD (k - 7) 0 : Nat)) := (hown.cellAt _ (by omega)).trans (vals_get _ _ _ (by omega))
          have c3 : wr.cell? ⟨q, k - 16, none⟩ = some (.int .i64 ((Sha.sched l k).getD (k - 16) 0 : Nat)) := (hown.cellAt _ (by omega)).trans (vals_get _ _ _ (by omega))
          have b0 := Sha.sched_getD HBs.out k (k - 15); have b1 := Sha.sched_getD HBs.out k (k - 2); have b2 := Sha.sched_getD HBs.out k (k - 7); have b3 := Sha.sched_getD HBs.out k (k - 16)
          have HO := Lib.hid hown
          have HB := Lib.hid hbel
          clear hown hbel hsl
          generalize E0 : (Sha.sched l k).getD (k - 15) 0 = x0 at *; generalize E1 : (Sha.sched l k).getD (k - 2) 0 = x1 at *; generalize E2 : (Sha.sched l k).getD (k - 7) 0 = x2 at *; generalize E3 : (Sha.sched l k).getD (k - 16) 0 = x3 at *
          have HN := Lib.hid (sched_next hk0 E1 E2 E0 E3)
          clear E0 E1 E2 E3
          obtain ⟨y0, s0, f1, f2, f3, f4⟩ := shift_facts 7 18 3 8 (by decide) (by decide) rfl b0
          obtain ⟨y1, s1, g1, g2, g3, g4⟩ := shift_facts 17 19 10 1024 (by decide) (by decide) rfl b1
          simp only [Int.cast_ofNat_Int] at f2 g2
          have HF := Lib.hid f3
          have HG := Lib.hid g3
          clear f3 g3
          unfold Sha.M at b0 b1 b2 b3 f4 g4
          go_wp2_with fail
          refine (turn_7 x0 _ b0).mono ?_
          rintro e w2 ⟨rfl, n2, rfl⟩
          go_wp2_with fail
          refine (turn_18 x0 _ b0).mono ?_
          rintro e w3 ⟨rfl, n3, rfl⟩
          go_wp2_with fail
          refine (turn_17 x1 _ b1).mono ?_
          rintro e w4 ⟨rfl, n4, rfl⟩
          go_wp2_with fail
          refine (turn_19 x1 _ b1).mono ?_
          rintro e w5 ⟨rfl, n5, rfl⟩
          clear c0 c1
          go_upto_region 13 with (fail)
          have HO5 : Hid ((wr.drewN (n2 + n3 + n4 + n5)).ownsRow w.heap.size 3 1 (.slice (some ⟨q, 0, none⟩) k cap) k (vals .i64 (Sha.sched l k))) := Lib.hid HO.out
          have HB5 : Hid (Below w.heap.size w (wr.drewN (n2 + n3 + n4 + n5))) := Lib.hid (below_drewN HB.out _)
          have c2' : (wr.drewN (n2 + n3 + n4 + n5)).cell? ⟨q, k - 7, none⟩ = some (.int .i64 (x2 : Nat)) := c2
          have c3' : (wr.drewN (n2 + n3 + n4 + n5)).cell? ⟨q, k - 16, none⟩ = some (.int .i64 (x3 : Nat)) := c3
          have hz5 : w.heap.size ≤ (wr.drewN (n2 + n3 + n4 + n5)).heap.size := hsz
          generalize wr.drewN (n2 + n3 + n4 + n5) = wx at *
          clear c2 c3 HO HB hsz f1 f2 g1 g2
          have HTop := fun W : World => top4 s1 x2 s0 x3 W g4 b2 f4 b3
          have HT := Lib.hid HTop
          clear HTop
          have j1 : IntKind.i64.wrap ((k : Int) - 7) = (k : Int) - 7 := IntWalk.i64_in _ (by omega)
          have j2 : IntKind.i64.wrap ((k : Int) - 16) = (k : Int) - 16 := IntWalk.i64_in _ (by omega)
          have j3 : (7 : Int) ≤ (k : Int) := by omega
          have j4 : (16 : Int) ≤ (k : Int) := by omega
          have j5 : ((k : Int) - 7).toNat = k - 7 := by omega
          have j6 : ((k : Int) - 16).toNat = k - 16 := by omega
          have j7 : IntKind.i64.wrap ((s1 : Int) + (x2 : Int)) = (s1 : Int) + (x2 : Int) := IntWalk.i64_in _ (by omega)
          have j8 : IntKind.i64.wrap ((s1 : Int) + (x2 : Int) + (s0 : Int)) = (s1 : Int) + (x2 : Int) + (s0 : Int) := IntWalk.i64_in _ (by omega)
          have j9 : IntKind.i64.wrap ((s1 : Int) + (x2 : Int) + (s0 : Int) + (x3 : Int)) = (s1 : Int) + (x2 : Int) + (s0 : Int) + (x3 : Int) := IntWalk.i64_in _ (by omega)
          have j10 : (k : Int) - 7 < (k : Int) := by omega
          have j11 : (k : Int) - 16 < (k : Int) := by omega
          go_region_law (first
            | (go_simp; go_at_call 27; refine (HT.out _).mono ?_; rintro e w' ⟨rfl, rfl⟩)
            | (refine step_append_lies _ (by rfl) _ _ 46 (by rfl) w.heap.size 3 i0 (.int .i64 0) 1 8 Tryd.underlying46 hi0 hz0 hz1 hz2 rfl (by decide) _ k (vals .i64 (Sha.sched l k)) (by rfl) (HO5.out.drew.alloc _) ⟨wx.heap.size, 0, none⟩ 1 1 [.int .i64 (((s1 + x2 + s0 + x3) % Sha.M : Nat) : Int)] (by rfl) rfl (row_cells wx.drew 3 _) (by intro u hu; rw [List.mem_singleton] at hu; subst hu; rfl) (by decide) (by unfold maxLen; omega) (by omega) (by simp; omega) (wx.heap.size + 1) (by simp) ?_; intro g' cap' w6 hown6 hgrow6 hat6 hlt6))
          all_goals
            have HR : Hid (w6.ownsRow w.heap.size 3 1 (.slice (some ⟨g', 0, none⟩) (k + 1) cap') (k + 1) (vals .i64 (Sha.sched l (k + 1)))) := Lib.hid (by rw [HN.out, vals_append, ← HF.out, ← HG.out]; exact hown6)
            have hrow := ownB HO5.out
            have HB6 : Hid (Below w.heap.size w w6) := Lib.hid ((HB5.out.drew.alloc (by simpa using hz5) _).grown hgrow6 (by simp; omega) (fun j hj => hrow j hj))
            clear hown6 hgrow6 hat6 hrow j1 j2 j3 j4 j5 j6 j7 j8 j9 j10 j11 c2' c3'
            go_wp2
            go_roundw
            case rel => exact ⟨k + 1, by omega, by omega, by go_num, HR.out, HB6.out⟩
            case measure => simp [intOf]; omega
        · obtain rfl : k = 64 := by omega
          have HO := Lib.hid hown
          have HB := Lib.hid hbel
          clear hown hbel
          go_wp2
          go_ret
          exact ⟨_, rfl, HO.out, HB.out⟩
end Go.Proofs.YtfkkpbfoipfekaaDoor
