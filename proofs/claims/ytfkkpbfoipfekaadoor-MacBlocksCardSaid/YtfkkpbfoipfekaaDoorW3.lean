/-
  What compress computes: of a state and a block of 64 bytes the state of the plain mathematics, where the table k lies in block 1 as the text lays it; nothing that was there before the call has changed.
-/
import Derived.Test.YtfkkpbfoipfekaaDoorW2
import Derived.Deep.Cut
namespace Go.Proofs.YtfkkpbfoipfekaaDoor
open Go.RowKit
/-- The table of sixty-four numbers lies in block 1. -/
def Kat (w : World) : Prop := ∀ i, i < 64 → w.cell? ⟨1, i, none⟩ = some (.int .u32 (Sha.K.getD i 0 : Nat))
theorem Kat.below {w w' : World} {B : Nat} (h : Kat w) (hb : Below B w w') (h2 : 2 ≤ B) : Kat w' := fun i hi => (hb.cell (by show 1 < B; omega)).trans (h i hi)
theorem Tryd.info42 : (Tryd.prog.info? 52).map (·.size) = some 8 := by kernel_rfl
theorem Tryd.info43 : (Tryd.prog.info? 38).map (·.size) = some 64 := by kernel_rfl
/-- The memory of compress while it goes round. -/
def Comp (w : World) (s : Sha.St) (l : List Nat) (g : Nat) (wr : World) : Prop :=
  Blk wr w.heap.size 52 (Vs .u32 s.toList) ∧ Blk wr (w.heap.size + 1 + 1) 52 (Vs .u32 (List.replicate 8 0)) ∧ Blk wr g 60 (Vs .u32 (Sha.sched l 64)) ∧ Kat wr ∧ Below w.heap.size w wr
def Jump (w : World) (s : Sha.St) (l : List Nat) (a' : Act) (w' : World) : Prop :=
  ∃ (t g : Nat) (r : Sha.St), 1 ≤ t ∧ t < 64 ∧ Sha.rounds Sha.K (Sha.sched l 64) s t = r ∧ Comp w s l g w' ∧ ∃ u15 u16 u17 u18 u19 u20 u21 u22 u23 u24 u25 u26 u27 u28 u29 u30 u31 u32 u33 u34 u35 u36 u37 u38 u39 u40 u41 u42 u43 u44 u45 u46 u47 u48 u49 u50 u51 u52 u53 u54 u55 u56 u57 u58 u59 u60 u61 u62 u63 u64 u65 u66 u67 u68 u69 u70 u71 u72 u73 u74 u75 u76 u77 u78 u79 u80 u81 u82 u83 u84 u85 : Value, a' = { tmps := #[.agg (Vs .u32 s.toList), .agg (Vs .u8 l), .pointer (some ⟨w.heap.size, 0, none⟩), .pointer (some ⟨w.heap.size + 1, 0, none⟩), .pointer (some ⟨w.heap.size + 1 + 1, 0, none⟩), .pointer (some ⟨g, 0, none⟩), .int .u32 (r.a : Nat), .int .u32 (r.b : Nat), .int .u32 (r.c : Nat), .int .u32 (r.d : Nat), .int .u32 (r.e : Nat), .int .u32 (r.f : Nat), .int .u32 (r.g : Nat), .int .u32 (r.h : Nat), .int .i64 (t : Nat), u15, u16, u17, u18, u19, u20, u21, u22, u23, u24, u25, u26, u27, u28, u29, u30, u31, u32, u33, u34, u35, u36, u37, u38, u39, u40, u41, u42, u43, u44, u45, u46, u47, u48, u49, u50, u51, u52, u53, u54, u55, u56, u57, u58, u59, u60, u61, u62, u63, u64, u65, u66, u67, u68, u69, u70, u71, u72, u73, u74, u75, u76, u77, u78, u79, u80, u81, u82, u83, u84, u85, undef, undef, undef, undef, undef, undef, undef, undef, undef, undef, undef, undef, undef, undef, undef, undef, undef, undef, undef, undef, undef, undef, undef, undef, undef, undef, undef, undef, undef, undef, undef, undef, undef], defers := [] }
theorem cells8 {w : World} {b : Nat} {s : Sha.St} (h : Blk w b 52 (Vs .u32 s.toList)) :
    w.cell? ⟨b, 0, none⟩ = some (.int .u32 (s.a : Nat)) ∧ w.cell? ⟨b, 1, none⟩ = some (.int .u32 (s.b : Nat)) ∧ w.cell? ⟨b, 2, none⟩ = some (.int .u32 (s.c : Nat)) ∧ w.cell? ⟨b, 3, none⟩ = some (.int .u32 (s.d : Nat)) ∧
    w.cell? ⟨b, 4, none⟩ = some (.int .u32 (s.e : Nat)) ∧ w.cell? ⟨b, 5, none⟩ = some (.int .u32 (s.f : Nat)) ∧ w.cell? ⟨b, 6, none⟩ = some (.int .u32 (s.g : Nat)) ∧ w.cell? ⟨b, 7, none⟩ = some (.int .u32 (s.h : Nat)) :=
  ⟨h.cell 0, h.cell 1, h.cell 2, h.cell 3, h.cell 4, h.cell 5, h.cell 6, h.cell 7⟩
theorem Comp.drewN {w wr : World} {s : Sha.St} {l : List Nat} {g : Nat} (h : Comp w s l g wr) (n : Nat) : Comp w s l g (wr.drewN n) := ⟨h.1.drewN n, h.2.1.drewN n, h.2.2.1.drewN n, h.2.2.2.1, below_drewN h.2.2.2.2 n⟩
theorem Comp.drewN2 {w wr w' : World} {s : Sha.St} {l : List Nat} {g n m : Nat} (h : Comp w s l g wr) (e : (wr.drewN n).drewN m = w') : Comp w s l g w' := e ▸ (h.drewN n).drewN m
theorem quiet_left {P : Program} {f : FuncId} {args : Array Value} {w : World} {n : Nat} {v : Value}
    (h : Calls P f args (w.drewN n) fun e w' => e = .returned v ∧ w.drewN n = w') : Calls P f args (w.drewN n) fun e w'' => e = .returned v ∧ ∃ m, w'' = w.drewN m :=
  h.mono fun _ _ ⟨he, hm⟩ => ⟨he, n, hm.symm⟩
theorem max32 : (if IntKind.u32.signed = true then (-1 : Int) else IntKind.u32.max) = ((4294967295 : Nat) : Int) := by
  rw [if_neg (by decide)]
  simp [IntKind.max, IntKind.bits, IntKind.signed]
theorem sub_xor (e : Nat) (he : e < Sha.M) : 4294967295 ^^^ e = 4294967295 - e := by
  have h := BitVec.toNat_not (x := BitVec.ofNat 32 e)
  have h2 : ~~~(BitVec.ofNat 32 e) = BitVec.allOnes 32 ^^^ BitVec.ofNat 32 e := by
    rw [BitVec.allOnes_xor]
  rw [h2, BitVec.toNat_xor, BitVec.toNat_allOnes, BitVec.toNat_ofNat, Nat.mod_eq_of_lt (show e < 2 ^ 32 from he)] at h
  exact h
theorem ch_facts {e f g : Nat} (he : e < Sha.M) (hf : f < Sha.M) (hg : g < Sha.M) : ∃ ne y1 y2 c : Nat,
    bits BinOp.xor IntKind.u32 (if IntKind.u32.signed = true then (-1 : Int) else IntKind.u32.max) (e : Int) = (ne : Int) ∧ bits .and .u32 (e : Int) (f : Int) = (y1 : Int) ∧ bits .and .u32 (ne : Int) (g : Int) = (y2 : Int) ∧
    bits .xor .u32 (y1 : Int) (y2 : Int) = (c : Int) ∧ c = Sha.ch e f g := by
  have h1 : 4294967295 - e < 4294967296 := by omega
  refine ⟨4294967295 - e, e &&& f, (4294967295 - e) &&& g, Sha.ch e f g, ?_, u32_and_nat _ _ he hf, u32_and_nat _ _ h1 hg, ?_, rfl⟩
  · rw [max32, u32_xor_nat _ _ (by decide) he, sub_xor e he]
  · rw [u32_xor_nat _ _ (Sha.and_lt he) (Sha.and_lt h1)]; rfl
theorem maj_facts {a b c : Nat} (ha : a < Sha.M) (hb : b < Sha.M) (hc : c < Sha.M) : ∃ z1 z2 z3 z4 m : Nat,
    bits .and .u32 (a : Int) (b : Int) = (z1 : Int) ∧ bits .and .u32 (a : Int) (c : Int) = (z2 : Int) ∧ bits .xor .u32 (z1 : Int) (z2 : Int) = (z3 : Int) ∧ bits .and .u32 (b : Int) (c : Int) = (z4 : Int) ∧
    bits .xor .u32 (z3 : Int) (z4 : Int) = (m : Int) ∧ m = Sha.maj a b c := by
  refine ⟨a &&& b, a &&& c, (a &&& b) ^^^ (a &&& c), b &&& c, Sha.maj a b c, u32_and_nat _ _ ha hb, u32_and_nat _ _ ha hc, u32_xor_nat _ _ (Sha.and_lt ha) (Sha.and_lt ha), u32_and_nat _ _ hb hc, ?_, rfl⟩
  rw [u32_xor_nat _ _ (Sha.xor_lt (Sha.and_lt ha) (Sha.and_lt ha)) (Sha.and_lt hb)]; rfl
theorem round_a {r : Sha.St} {x1 x2 c m : Nat} (hc : c = Sha.ch r.e r.f r.g) (hm : m = Sha.maj r.a r.b r.c) :
    (((r.h : Int) + (Sha.mix 6 11 25 r.e : Nat) + (c : Nat) + (x1 : Nat) + (x2 : Nat)) % 4294967296 + ((Sha.mix 2 13 22 r.a : Nat) + (m : Nat)) % 4294967296) % 4294967296 = ((Sha.round x1 x2 r).a : Nat) := by
  subst hc hm
  show _ = (((Sha.t1 x1 x2 r + Sha.t2 r) % Sha.M : Nat) : Int)
  unfold Sha.t1 Sha.t2 Sha.M
  omega
theorem round_e {r : Sha.St} {x1 x2 c : Nat} (hc : c = Sha.ch r.e r.f r.g) :
    ((r.d : Int) + ((r.h : Int) + (Sha.mix 6 11 25 r.e : Nat) + (c : Nat) + (x1 : Nat) + (x2 : Nat)) % 4294967296) % 4294967296 = ((Sha.round x1 x2 r).e : Nat) := by
  subst hc
  show _ = (((r.d + Sha.t1 x1 x2 r) % Sha.M : Nat) : Int)
  unfold Sha.t1 Sha.M
  omega
theorem add_num (a b : Nat) : ((a : Int) + (b : Int)) % 4294967296 = (((a + b) % Sha.M : Nat) : Int) := by unfold Sha.M; omega
theorem add_val (s t : Sha.St) : Ending.returned (.agg #[.int .u32 (((s.a : Nat) + (t.a : Nat) : Int) % 4294967296), .int .u32 (((s.b : Nat) + (t.b : Nat) : Int) % 4294967296), .int .u32 (((s.c : Nat) + (t.c : Nat) : Int) % 4294967296), .int .u32 (((s.d : Nat) + (t.d : Nat) : Int) % 4294967296),
    .int .u32 (((s.e : Nat) + (t.e : Nat) : Int) % 4294967296), .int .u32 (((s.f : Nat) + (t.f : Nat) : Int) % 4294967296), .int .u32 (((s.g : Nat) + (t.g : Nat) : Int) % 4294967296), .int .u32 (((s.h : Nat) + (t.h : Nat) : Int) % 4294967296)]) = .returned (.agg (Vs .u32 (Sha.add s t).toList)) := by
  rw [add_num, add_num, add_num, add_num, add_num, add_num, add_num, add_num]; rfl
theorem info42_of {cells : Array Value} (h : cells.size = 8) : (Tryd.prog.info? 52).map (·.size) = some cells.size := by rw [h]; exact Tryd.info42
theorem size8_of {cells : Array Value} (h : cells.size = 8) : (Vs .u32 (List.replicate 8 0)).size = cells.size := by rw [h, Vs_size]; rfl
set_option maxRecDepth 100000
set_option maxHeartbeats 1000000 in
theorem compress_any (s : Sha.St) (l : List Nat) (hs : s.ok) (hl : l.length = 64) (hb : Sha.Bs l) (w : World) (hK : Kat w) (h2 : 2 ≤ w.heap.size) :
    Calls Tryd.prog 29 #[.agg (Vs .u32 s.toList), .agg (Vs .u8 l)] w fun e w' => e = .returned (.agg (Vs .u32 (Sha.compress s l).toList)) ∧ Below w.heap.size w w' := by
  have HL := Lib.hid hl
  have HB := Lib.hid hb
  have HK := Lib.hid hK
  have HO := Lib.hid hs
  clear hl hb hK hs
  go_enter Tryd.func29, Tryd.ntmps29
  go_wp2
  refine wp_scope_jumps 0 (Jump w s l) (fun a' _ => 64 - (intOf (a'.tmps.getD 14 undef)).toNat) rfl ?_ ?_
  · generalize hw3 : ((w.alloc (Obj.cells (Vs IntKind.u32 s.toList) 52)).alloc (Obj.cells (Vs IntKind.u8 l) 38)).alloc _ = w3
    have hb3 : Below w.heap.size w w3 := by rw [← hw3]; exact (((Below.refl _ _).alloc (Nat.le_refl _) _).alloc (by simp) _).alloc (by simp; omega) _
    have hz3 : w3.heap.size = w.heap.size + 1 + 1 + 1 := by rw [← hw3]; simp
    have k1 : Blk w3 w.heap.size 52 (Vs .u32 s.toList) := by rw [← hw3]; exact ((Blk.new _ _ _).alloc _).alloc _
    have k2 : Blk w3 (w.heap.size + 1) 38 (Vs .u8 l) := by
      rw [← hw3]
      have := (Blk.new (w.alloc (.cells (Vs .u32 s.toList) 52)) 38 (Vs .u8 l)).alloc (.cells (Vs .u32 (List.replicate 8 0)) 52)
      rw [World.size_alloc] at this
      exact this
    have k3 : Blk w3 (w.heap.size + 1 + 1) 52 (Vs .u32 (List.replicate 8 0)) := by
      rw [← hw3]
      have := Blk.new ((w.alloc (.cells (Vs .u32 s.toList) 52)).alloc (.cells (Vs .u8 l) 38)) 52 (Vs .u32 (List.replicate 8 0))
      rw [World.size_alloc, World.size_alloc] at this
      exact this
    clear hw3
    have HZ := Lib.hid hz3
    clear hz3
    go_wp2_with (refine wpList_load_row rfl 38 _ rfl (w.heap.size + 1) rfl 38 _ _ _ k2 Tryd.underlying38 rfl (by rw [Vs_size, HL.out]; exact Tryd.info43) ?_)
    refine (sched_any l HL.out HB.out _).mono ?_
    rintro e w1 ⟨rfl, hb1⟩
    have k1' := k1.below hb1 (by have := HZ.out; omega)
    have k3' := k3.below hb1 (by have := HZ.out; omega)
    have hbw : Below w.heap.size w w1 := hb3.trans (hb1.mono (by have := HZ.out; omega))
    go_wp2_with (refine wpList_store_row rfl 60 _ _ rfl w1.heap.size _ rfl rfl 60 _ (Blk.new w1 60 _) (by rw [Vs_size, Sha.sched_length]; exact Tryd.info51) (by rw [Vs_size, Sha.sched_length]; rfl) (Vs_one _ _) ?_)
    have hsz1 : w.heap.size + 1 + 1 < w1.heap.size := by have := hb1.size; have := HZ.out; omega
    generalize hg2 : (w1.alloc _).setRow w1.heap.size (Vs .u32 (Sha.sched l 64)) = w2
    have hc : Comp w s l w1.heap.size w2 := by
      rw [← hg2]
      exact ⟨(k1'.alloc _).rowFar (by omega) _, (k3'.alloc _).rowFar (by omega) _, (Blk.new w1 60 _).row _, HK.out.below (below_setRow (hbw.alloc (by omega) _) (by omega) _) h2, below_setRow (hbw.alloc (by omega) _) (by omega) _⟩
    clear k1 k2 k3 k1' k3' hb1 hbw hsz1 hb3 hg2
    revert hc
    generalize w1.heap.size = g
    intro hc
    have HC := Lib.hid hc
    obtain ⟨q0, q1, q2, q3, q4, q5, q6, q7⟩ := cells8 hc.1
    clear hc
    go_quiet (fail)
    go_wp2
    go_quiet (fail)
    go_wp2
    go_step3
    go_wp2
    clear q0 q1 q2 q3 q4 q5 q6 q7
    generalize hwr : (w2.drewN _).drewN _ = wr
    have hc := HC.out.drewN2 hwr
    clear hwr HC
    have HC := Lib.hid hc
    have p0 : wr.cell? ⟨1, 0, none⟩ = some (.int .u32 (Sha.K.getD 0 0 : Nat)) := hc.2.2.2.1 0 (by omega)
    have p1 : wr.cell? ⟨g, 0, none⟩ = some (.int .u32 ((Sha.sched l 64).getD 0 0 : Nat)) := (hc.2.2.1.cell 0).trans (Vs_get _ _ _ (by rw [Sha.sched_length]; omega))
    clear hc
    generalize hx1 : Sha.K.getD 0 0 = x1 at p0
    generalize hx2 : (Sha.sched l 64).getD 0 0 = x2 at p1
    have HX1 := Lib.hid hx1
    have HX2 := Lib.hid hx2
    clear hx1 hx2
    obtain ⟨b0, b1, b2, b3, b4, b5, b6, b7⟩ := HO.out
    obtain ⟨ne, y1, y2, c, e1, e2, e3, e4, hce⟩ := ch_facts b4 b5 b6
    obtain ⟨z1, z2, z3, z4, m, f1, f2, f3, f4, f5, hme⟩ := maj_facts b0 b1 b2
    have HCE := Lib.hid hce
    have HME := Lib.hid hme
    clear hce hme
    unfold Sha.M at b0 b1 b2 b3 b4 b5 b6 b7
    go_quiet ((go_at_call 34; exact quiet_left (mix_e _ _ b4)))
    go_wp2_with fail
    refine (mix_a _ _ b0).mono ?_
    rintro e w' ⟨rfl, rfl⟩
    go_wp2
    go_step3
    rw [round_a HCE.out HME.out, round_e HCE.out]
    refine ⟨rfl, 1, g, Sha.round x1 x2 s, by omega, by omega, ?_, HC.out.drewN _, ?_⟩
    · rw [Sha.rounds, HX1.out, HX2.out]; rfl
    · exact ⟨_, _, _, _, _, _, _, _, _, _, _, _, _, _, _, _, _, _, _, _, _, _, _, _, _, _, _, _, _, _, _, _, _, _, _, _, _, _, _, _, _, _, _, _, _, _, _, _, _, _, _, _, _, _, _, _, _, _, _, _, _, _, _, _, _, _, _, _, _, _, _, rfl⟩
  · rintro a' wr ⟨t, g, r, ht1, ht, hr, hc, u15, u16, u17, u18, u19, u20, u21, u22, u23, u24, u25, u26, u27, u28, u29, u30, u31, u32, u33, u34, u35, u36, u37, u38, u39, u40, u41, u42, u43, u44, u45, u46, u47, u48, u49, u50, u51, u52, u53, u54, u55, u56, u57, u58, u59, u60, u61, u62, u63, u64, u65, u66, u67, u68, u69, u70, u71, u72, u73, u74, u75, u76, u77, u78, u79, u80, u81, u82, u83, u84, u85, rfl⟩
    have HC := Lib.hid hc
    have p0 : wr.cell? ⟨1, t, none⟩ = some (.int .u32 (Sha.K.getD t 0 : Nat)) := hc.2.2.2.1 t (by omega)
    have p1 : wr.cell? ⟨g, t, none⟩ = some (.int .u32 ((Sha.sched l 64).getD t 0 : Nat)) := (hc.2.2.1.cell t).trans (Vs_get _ _ _ (by rw [Sha.sched_length]; omega))
    clear hc
    generalize hx1 : Sha.K.getD t 0 = x1 at p0
    generalize hx2 : (Sha.sched l 64).getD t 0 = x2 at p1
    have HN : Hid (Sha.rounds Sha.K (Sha.sched l 64) s (t + 1) = Sha.round x1 x2 r) := Lib.hid (by rw [Sha.rounds, hr, hx1, hx2])
    clear hx1 hx2
    have HR := Lib.hid (Sha.rounds_ok (ks := Sha.K) (ws := Sha.sched l 64) HO.out t)
    rw [hr] at HR
    clear hr
    obtain ⟨b0, b1, b2, b3, b4, b5, b6, b7⟩ := HR.out
    obtain ⟨ne, y1, y2, c, e1, e2, e3, e4, hce⟩ := ch_facts b4 b5 b6
    obtain ⟨z1, z2, z3, z4, m, f1, f2, f3, f4, f5, hme⟩ := maj_facts b0 b1 b2
    have HCE := Lib.hid hce
    have HME := Lib.hid hme
    clear hce hme
    unfold Sha.M at b0 b1 b2 b3 b4 b5 b6 b7
    by_cases hlt : t + 1 < 64
    · have hi : (t : Int) + 1 < 64 := by omega
      have hd : decide ((t : Int) + 1 < 64) = true := by simpa using hi
      go_wp2
      go_quiet ((go_at_call 34; exact quiet_left (mix_e _ _ b4)))
      clear e1 e2 e3 e4
      go_wp2_with fail
      refine (mix_a _ _ b0).mono ?_
      rintro e w' ⟨rfl, rfl⟩
      go_wp2
      go_step3
      clear f1 f2 f3 f4 f5 b0 b1 b2 b3 b4 b5 b6 b7 p0 p1
      rw [round_a HCE.out HME.out, round_e HCE.out, show (t : Int) + 1 = ((t + 1 : Nat) : Int) by omega]
      refine ⟨rfl, ⟨t + 1, g, Sha.round x1 x2 r, by omega, by omega, HN.out, HC.out.drewN _, ?_⟩, ?_⟩
      · exact ⟨_, _, _, _, _, _, _, _, _, _, _, _, _, _, _, _, _, _, _, _, _, _, _, _, _, _, _, _, _, _, _, _, _, _, _, _, _, _, _, _, _, _, _, _, _, _, _, _, _, _, _, _, _, _, _, _, _, _, _, _, _, _, _, _, _, _, _, _, _, _, _, rfl⟩
      · simp [intOf]; omega
    · obtain rfl : t = 63 := by omega
      obtain ⟨q0, q1, q2, q3, q4, q5, q6, q7⟩ := cells8 HC.out.1
      obtain ⟨a0, a1, a2, a3, a4, a5, a6, a7⟩ := HO.out
      unfold Sha.M at a0 a1 a2 a3 a4 a5 a6 a7
      rw [show ((63 : Nat) : Int) = (63 : Int) from rfl]
      go_wp2
      go_quiet ((go_at_call 34; exact quiet_left (mix_e _ _ b4)))
      clear e1 e2 e3 e4
      go_wp2_with fail
      refine (mix_a _ _ b0).mono ?_
      rintro e w' ⟨rfl, rfl⟩
      go_upto_region 10 with (fail)
      rw [round_a HCE.out HME.out, round_e HCE.out]
      clear f1 f2 f3 f4 f5 p0 p1
      obtain ⟨d0, _, _, _, d4, _⟩ := Sha.round_ok (k := x1) (w := x2) HR.out
      unfold Sha.M at d0 d4
      go_wp2_with (refine wpList_store_row rfl 52 _ _ rfl (w.heap.size + 1 + 1) _ rfl rfl 52 _ (HC.out.drewN _).2.1 ?s1 ?s2 ?s3 ?_)
      case s1 => exact info42_of rfl
      case s2 => exact size8_of rfl
      case s3 => simp [Value.oneCell']
      simp only [Exit.jump]
      refine bodyPost_ret (results_cell_row rfl _ _ (w.heap.size + 1 + 1) 52 _ _ _ rfl ((HC.out.drewN _).2.1.row _) Tryd.underlying52 rfl ?hi) rfl ?_
      case hi => exact info42_of rfl
      refine ⟨?_, below_setRow (HC.out.drewN _).2.2.2.2 (by omega) _⟩
      have hN := HN.out
      rw [show 63 + 1 = 64 from rfl] at hN
      rw [Sha.compress, hN]
      exact add_val _ _
end Go.Proofs.YtfkkpbfoipfekaaDoor
