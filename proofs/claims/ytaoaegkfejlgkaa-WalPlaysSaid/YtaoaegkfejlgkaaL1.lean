/-
  What the statements of layer 8 share: the records that a disk has, and the document's example.
-/
import Derived.Test.YtaoaegkfejlgkaaL0
import Derived.Test.YtaoaegkfejlgkaaR3
import Derived.Test.YtaoaegkfejlgkaaR4
namespace Go.Proofs.Ytaoaegkfejlgkaa.Dsk
open Go.RowKit
set_option maxRecDepth 100000
set_option maxHeartbeats 2000000 in
theorem stored_any (w : World) (d g0 : Nat) (s : Dk) (n N : Nat) (c : Lc) (h : Has w d g0 s n N c) (hN : N ≤ 1000000) :
    Calls Try.prog 21 #[.pointer (some ⟨d, 0, none⟩)] w (ReadR w c.g c.rs) := by
  have hlen := h.len
  have HCp := Lib.hid (copy_any w d g0 s h.dsk (by omega))
  obtain ⟨s2, hs2⟩ : ∃ s2 : Dk, s2 = { s with down := false, set := false, fw := 0, fb := 0 } := ⟨_, rfl⟩
  have hl2 : s2.l = s.l := by rw [hs2]
  have HSt := Lib.hid (fun W p q (hD : Dsk W p q s) => start_any W p q s hD)
  rw [← hs2] at HSt
  have HSz := Lib.hid (fun W p q (hD : Dsk W p q s2) => size_any W p q s2 hD)
  have HRd := Lib.hid (fun W p q (hD : Dsk W p q s2) => read_ok W p q s2 hD 0 N (by rw [hl2]; omega) (by rw [hs2]) (by rw [hl2]; omega))
  rw [hl2, show ((0 : Nat) : Int) = 0 from rfl, List.drop_zero, List.take_of_length_le (by omega)] at HRd
  rw [hl2, hlen] at HSz
  have HRe := Lib.hid (fun W q (hk : Blk W q 5 (bc s.l)) => read08_any W q s.l c.sz c.st c.g c.q c.rs hk h.wk (by rw [hlen]; exact h.sz.symm) (by omega))
  rw [hlen] at HRe
  clear h hN hlen hs2 hl2
  go_enter Try.func21, Try.ntmps21
  go_wp2_with fail
  refine HCp.out.mono ?_
  rintro e w1 ⟨rfl, h1, hb1, hz1⟩
  have H1 := Lib.hid h1
  have HB1 := Lib.hid hb1
  clear h1 hb1 hz1
  go_wp2_with fail
  refine (HSt.out w1 _ _ H1.out).mono ?_
  rintro e w2 ⟨rfl, h2, hb2, hz2⟩
  have H2 := Lib.hid h2
  have HB2 := Lib.hid (HB1.out.trans (hb2.below HB1.out.size (Nat.le_refl _) (by omega)))
  clear h2 hb2 hz2
  go_wp2_with fail
  refine (HSz.out w2 _ _ H2.out).mono ?_
  rintro e w3 ⟨rfl, rfl⟩
  go_wp2_with fail
  refine (HRd.out w2 _ _ H2.out).mono ?_
  rintro e w3 ⟨rfl, hk3, hb3, hz3⟩
  have HK3 := Lib.hid hk3
  have HB3 := Lib.hid (HB2.out.trans (hb3.mono HB2.out.size))
  clear hk3 hb3 hz3
  go_wp2_with fail
  refine (HRe.out w3 _ HK3.out).mono ?_
  rintro e w4 ⟨A, c4, rfl, hr4, hb4⟩
  have HR4 := Lib.hid hr4
  have HB4 := Lib.hid (HB3.out.trans (hb4.mono HB3.out.size))
  have HZ3 := Lib.hid HB3.out.size
  clear hr4 hb4
  go_wp2
  go_ret2
  exact ⟨A, c4, rfl, HR4.out.more (fun k hk => Nat.le_trans HZ3.out hk), HB4.out⟩
theorem Well.of {w w' : World} {d g0 lb : Nat} {S S' : Nat → Prop} {s : Dk} {c : Lc} {n N : Nat} (h : Well w d g0 lb S s c n N) (hs : Sys w' d g0 lb S' s (c.seen s)) : Well w' d g0 lb S' s c n N := by
  rw [seen_id h.was h.up] at hs
  exact ⟨hs, h.ok, h.len, h.sz, h.up, h.was, h.wk, h.bl⟩
theorem room_log {w : World} {d g0 lb : Nat} {S : Nat → Prop} {s : Dk} {c : Lc} {n N : Nat} (h : Well w d g0 lb S s c n N) (hN : N ≤ 1000000) :
    Calls Try.prog 22 #[.pointer (some ⟨lb, 0, none⟩)] w fun e w' => e = .returned (.int .i64 ((c.sz - c.q : Nat) : Int)) ∧ Well w' d g0 lb S s c n N ∧ Kp (fun k => k = lb) w w' :=
  (room_any w d g0 lb S s c h.sys h.wk.qsz (by have := h.sz; omega)).mono fun _ _ ⟨a, b, k⟩ => ⟨a, h.of b, k⟩
theorem gen_log {w : World} {d g0 lb : Nat} {S : Nat → Prop} {s : Dk} {c : Lc} {n N : Nat} (h : Well w d g0 lb S s c n N) :
    Calls Try.prog 17 #[.pointer (some ⟨lb, 0, none⟩)] w fun e w' => e = .returned (.int .i64 (c.g : Int)) ∧ Well w' d g0 lb S s c n N ∧ Kp (fun k => k = lb) w w' :=
  (gen_any w d g0 lb S s c h.sys).mono fun _ _ ⟨a, b, k⟩ => ⟨a, h.of b, k⟩
theorem records_log {w : World} {d g0 lb : Nat} {S : Nat → Prop} {s : Dk} {c : Lc} {n N : Nat} (h : Well w d g0 lb S s c n N) (hN : N ≤ 1000000) :
    Calls Try.prog 14 #[.pointer (some ⟨lb, 0, none⟩)] w fun e w' => ∃ r, e = .returned (.slice (some ⟨r, 0, none⟩) c.rs.length c.rs.length) ∧ RL w' (fun k => w.heap.size ≤ k) r c.rs ∧ Well w' d g0 lb S s c n N ∧ Kp (fun k => k = lb) w w' :=
  (records_any w d g0 lb S s c h.sys (by have := h.wk.ch.count; have := h.wk.qsz; have := h.sz; omega)).mono fun _ _ ⟨r, a, b, c, k⟩ => ⟨r, a, b, h.of c, k⟩
set_option maxHeartbeats 4000000 in
theorem anchor_any (w : World) : Calls Try.prog 8 #[] w fun e w' => e = .returned (.bool true) ∧ Below w.heap.size w w' := by
  go_enter Try.func8, Try.ntmps8
  go_wp2_with fail
  refine (new_ok w 1024 (by omega) (by omega)).mono ?_
  rintro e w1 ⟨rfl, h1, hb1, hz1⟩
  go_wp2_with fail
  refine (open_new w1 _ _ 1024 h1 (by omega) (by omega)).mono ?_
  rintro e w2 ⟨lb, s, rfl, hlb, hb2, hset, hw2⟩
  have HW2 := Lib.hid hw2
  have HB2 : Hid (Below w.heap.size w w2) := Lib.hid (hb1.trans (hb2.below hb1.size (by omega) (Nat.le_refl _)))
  have HLB := Lib.hid (show w.heap.size + 2 ≤ lb by omega)
  have HSET := Lib.hid hset
  clear h1 hb1 hlb hb2 hset hw2
  obtain ⟨d, hd⟩ : ∃ d, d = w.heap.size + 1 := ⟨_, rfl⟩
  obtain ⟨g0, hg0⟩ : ∃ g0, g0 = w.heap.size := ⟨_, rfl⟩
  have HDG := Lib.hid (show w.heap.size ≤ d ∧ w.heap.size ≤ g0 by omega)
  rw [← hd] at HW2 ⊢
  rw [← hg0] at HW2
  clear hd hg0
  have hroom := room_log HW2.out (by omega)
  rw [show ((((⟨1024 / 2, false, 0, 1, [], 16⟩ : Lc).sz - (⟨1024 / 2, false, 0, 1, [], 16⟩ : Lc).q : Nat)) : Int) = 496 from rfl] at hroom
  have HRoom := Lib.hid hroom
  clear hroom
  have kc := conv_const
  go_wp2_with fail
  refine HRoom.out.mono ?_
  rintro e w3 ⟨rfl, hw3, hk3⟩
  have HW3 := Lib.hid hw3
  have HB3 : Hid (Below w.heap.size w w3) := Lib.hid (HB2.out.trans (hk3.below HB2.out.size (fun k e => by have := HLB.out; omega)))
  clear hw3 hk3
  have HCost := Lib.hid (cost_ok w3 10 (by omega) (by omega))
  rw [show ((10 : Nat) : Int) = 10 from rfl, show ((9 + 10 : Nat) : Int) = 19 from rfl] at HCost
  go_wp2_with fail
  refine HCost.out.mono ?_
  rintro e w4 ⟨rfl, rfl⟩
  go_wp2_with fail
  have hbA : Below w3.heap.size w3 (w3.alloc (.cells #[.int .u8 120] 5 (1, 2))) := (Below.refl _ _).alloc (Nat.le_refl _) _
  have hrd : Rd (w3.alloc (.cells #[.int .u8 120] 5 (1, 2))) (· = w3.heap.size) (some ⟨w3.heap.size, 0, none⟩) [120] := lit_rd w3 [120] _ rfl _
  have HL3 : Hid (d < w3.heap.size ∧ g0 < w3.heap.size ∧ lb < w3.heap.size) := Lib.hid ⟨HW3.out.sys.dsk.blk.lt, HW3.out.sys.dsk.row.lt, HW3.out.sys.log.lt⟩
  refine (append_log _ d g0 lb _ s _ 2 1024 (HW3.out.old hbA) (by omega) (by omega) _ _ 1 [120] hrd (fun k hk => by
    have hk' : k = w3.heap.size := hk
    have := HL3.out
    exact ⟨by omega, by omega, by omega, fun e => by have := e.2; omega⟩) (by decide) (by decide) (by decide) (by decide)).mono ?_
  rintro e w5 ⟨hkp, s', S', hS', ho⟩
  have ho' : e = .returned (.int .i64 0) ∧ Well w5 d g0 lb S' s' ((⟨1024 / 2, false, 0, 1, [], 16⟩ : Lc).plus [120]) (2 + 2) 1024 := by
    rcases ho with ⟨a, _, b⟩ | ⟨h, _⟩
    · exact ⟨a, b⟩
    · rw [HSET.out] at h; cases h
  obtain ⟨rfl, hw5⟩ := ho'
  have HW5 := Lib.hid hw5
  have HB5 : Hid (Below w.heap.size w w5) := Lib.hid ((HB3.out.trans (hbA.mono HB3.out.size)).trans (hkp.below (by have := HB3.out.size; simp; omega) (fun k e => by
    have := HDG.out
    have := HLB.out
    rcases e with e | e | e | e
    · omega
    · omega
    · omega
    · have := HB2.out; have := e.1; omega)))
  clear hkp hS' hw5 hrd hbA HW2 HW3 HRoom HCost
  have hrec := records_log HW5.out (by omega)
  rw [show ((⟨1024 / 2, false, 0, 1, [], 16⟩ : Lc).plus [120]).rs = [[120]] from rfl, show ([[120]] : List (List UInt8)).length = 1 from rfl] at hrec
  have HRec := Lib.hid hrec
  clear hrec
  go_wp2_with fail
  refine HRec.out.mono ?_
  rintro e w6 ⟨r, rfl, _, _, hk6⟩
  have HB6 : Hid (Below w.heap.size w w6) := Lib.hid (HB5.out.trans (hk6.below HB5.out.size (fun k e => by have := HLB.out; omega)))
  clear hk6
  go_wp2
  go_ret
  exact ⟨rfl, HB6.out⟩
end Go.Proofs.Ytaoaegkfejlgkaa.Dsk
