/-
  What readNumber and readPart answer; nothing that was there before is changed.
-/
import Derived.Test.YtmbbfdiojcfamaaDoorU3
import Derived.Laws.Bits64b
namespace Go.Proofs.YtmbbfdiojcfamaaDoor.Txt
open Go.RowKit Tup
set_option maxRecDepth 100000
theorem or_byte (d x : Nat) (hd : d * 256 + x < 18446744073709551616) (hx : x < 256) : bits .or .u64 ((d : Int) * 256) (x : Int) = ((d * 256 + x : Nat) : Int) := by
  have h := bits_or_u64_nat (d * 256) x (by omega) (by omega)
  have e : d * 256 ||| x = d * 256 + x := by
    have := Nat.two_pow_add_eq_or_of_lt (i := 8) hx d
    rw [Nat.mul_comm] at this
    exact this.symm
  rw [e] at h
  rw [← h]
  rfl
def numP (l : List UInt8) : Option (Pt × List UInt8) := if l.length < 8 then none else some (⟨true, (val (l.take 8) : Nat) - 9223372036854775808, []⟩, l.drop 8)
set_option maxHeartbeats 4000000 in
theorem readNumber_any (l : List UInt8) (w : World) (hl : l.length ≤ 1000000) :
    Calls Tryd.prog 39 #[.string (mk l)] w fun e w' => e = .returned (outP (numP l)) ∧ Below w.heap.size w w' := by
  have hms := mk_size
  have hmt := mk_toList
  by_cases h8 : l.length < 8
  · have HE : Hid (outP (numP l) = .tuple #[.agg #[.bool false, .int .i64 0, .string ⟨#[]⟩], .string ⟨#[]⟩, .bool false]) := Lib.hid (by unfold numP; rw [if_pos h8]; rfl)
    have hd : (l.length : Int) < 8 := by omega
    clear h8
    go_enter Tryd.func39, Tryd.ntmps39
    go_wp2
    refine bodyPost_ret (v := .tuple #[.agg #[.bool false, .int .i64 0, .string ⟨#[]⟩], .string ⟨#[]⟩, .bool false]) (by simp [results, Tryd.results39, go_sem]) rfl ⟨by rw [HE.out], ?_⟩
    exact (Below.refl _ _).alloc (Nat.le_refl _) _
  · have hd : (8 : Int) ≤ (l.length : Int) := by omega
    have HE : Hid (outP (numP l) = .tuple #[.agg #[.bool true, .int .i64 ((val (l.take 8) : Nat) - 9223372036854775808), .string ⟨#[]⟩], .string (mk (l.drop 8)), .bool true]) := Lib.hid (by unfold numP; rw [if_neg h8]; rfl)
    have hs1 : ∀ w, (Instr.slice 9 (.string (mk l)) (some (.int .i64 8)) none none).run Tryd.prog w = .ok (.string (mk (l.drop 8))) w := fun w => run_from w l .i64 8 (by omega)
    have H8 := Lib.hid h8
    clear h8
    go_enter Tryd.func39, Tryd.ntmps39
    have HK0 := Lib.hid (Blk.new w 33 #[.bool false, .int .i64 0, .string ⟨#[]⟩])
    have HB0 : Hid (Below w.heap.size w (w.alloc (.cells #[.bool false, .int .i64 0, .string ⟨#[]⟩] 33))) := Lib.hid ((Below.refl w.heap.size w).alloc (Nat.le_refl _) _)
    have hz0 : (w.alloc (.cells #[.bool false, .int .i64 0, .string ⟨#[]⟩] 33)).heap.size = w.heap.size + 1 := by simp
    generalize hw0 : (w.alloc (.cells #[.bool false, .int .i64 0, .string ⟨#[]⟩] 33)) = w0 at *
    go_wp2
    go_loopw [5, 11] (fun u v wr => ∃ k : Nat, k ≤ 8 ∧ v = .int .i64 k ∧ u = .int .u64 (val (l.take k) : Nat) ∧ wr = w0) (fun _ v _ => 8 - (intOf v).toNat)
    case atStart => exact ⟨0, by omega, rfl, rfl, rfl⟩
    case round =>
      obtain ⟨k, hk, rfl, rfl, rfl⟩ := hrel
      by_cases hlt : k < 8
      · have hkl : k < l.length := by have := H8.out; omega
        have hix : ∀ w, (Instr.index 9 (.string (mk l)) (.int .i64 (k : Int))).run Tryd.prog w = .ok (.int .u8 ((l.getD k 0).toNat : Nat)) w := fun w => run_idx w l .i64 k hkl
        have hvs : val (l.take (k + 1)) = val (l.take k) * 256 + (l.getD k 0).toNat := by rw [take_snoc l k hkl, val_snoc]
        have hvlt := val_lt (l.take (k + 1))
        have hp : (256 : Nat) ^ (l.take (k + 1)).length ≤ 256 ^ 8 := Nat.pow_le_pow_right (by decide) (by rw [List.length_take]; omega)
        have hv64 : val (l.take (k + 1)) < 18446744073709551616 := Nat.lt_of_lt_of_le hvlt hp
        have hxl := (l.getD k 0).toNat_lt
        have HV := Lib.hid hvs
        rw [hvs] at hv64
        have hww : IntKind.u64.wrap ((val (l.take k) : Int) * 256) = (val (l.take k) : Int) * 256 := by rw [IntKind.wrap_u64]; omega
        have hor := or_byte (val (l.take k)) (l.getD k 0).toNat hv64 hxl
        rw [← hww] at hor
        have HV64 := Lib.hid hv64
        clear hvs hvlt hp hv64 hww
        generalize (l.getD k 0).toNat = x at *
        generalize hdd : val (l.take k) = d at *
        clear hdd
        go_wp2
        go_roundw
        case rel => exact ⟨k + 1, by omega, by go_num, by rw [HV.out]; simp, trivial⟩
        case measure => simp [intOf]; omega
      · obtain rfl : k = 8 := by omega
        have hvlt := val_lt (l.take 8)
        have hpl : (l.take 8).length = 8 := by have := H8.out; rw [List.length_take]; omega
        rw [hpl] at hvlt
        generalize val (l.take 8) = d at *
        have hww : IntKind.i64.wrap (IntKind.u64.wrap ((d : Int) - 9223372036854775808)) = (d : Int) - 9223372036854775808 := by rw [IntKind.wrap_u64, IntKind.wrap_i64]; omega
        clear hvlt hpl
        rw [show ((8 : Nat) : Int) = (8 : Int) from rfl]
        go_wp2_with fail
        go_region_law (go_simp; go_at_call 22; refine (num_any _ _).mono ?_; rintro e w4 ⟨rfl, hb4⟩; unfold Pv; have hbl : Below (w.heap.size + 1) wr w4 := ((Below.refl _ _).drew).trans (hb4.mono (by show _ ≤ wr.heap.size; omega)); have HK := Lib.hid (HK0.out.below hbl (by omega)); have HB4 := Lib.hid hbl; clear hb4 hbl; have c0 : w4.cell? ⟨w.heap.size, 0, none⟩ = some (.bool false) := HK.out.cell 0; have c1 : w4.cell? ⟨w.heap.size, 1, none⟩ = some (.int .i64 0) := HK.out.cell 1; have c2 : w4.cell? ⟨w.heap.size, 2, none⟩ = some (.string ⟨#[]⟩) := HK.out.cell 2; have f0 : w4.frozen? ⟨w.heap.size, 0, none⟩ = false := HK.out.frozen 0; have f1 : w4.frozen? ⟨w.heap.size, 1, none⟩ = false := HK.out.frozen 1; have f2 : w4.frozen? ⟨w.heap.size, 2, none⟩ = false := HK.out.frozen 2)
        go_wp2
        have qK := ((HK.out.put 0 (.bool true)).put 1 (.int .i64 ((d : Int) - 9223372036854775808))).put 2 (.string (mk []))
        have q0 := qK.cell 0
        have q1 := qK.cell 1
        have q2 := qK.cell 2
        refine bodyPost_ret (v := .tuple #[.agg #[.bool true, .int .i64 ((d : Int) - 9223372036854775808), .string (mk [])], .string (mk (l.drop 8)), .bool true]) (by simp [results, Tryd.results39, go_sem, q0, q1, q2]) rfl ⟨by rw [HE.out]; rfl, ?_⟩
        exact (((HB0.out.trans (HB4.out.mono (by omega))).setCell (Nat.le_refl _) _).setCell (Nat.le_refl _) _).setCell (Nat.le_refl _) _
theorem outP_form (x : Option (Pt × List UInt8)) : ∃ (b : Bool) (n : Int) (t r : List UInt8) (g : Bool), outP x = .tuple #[.agg #[.bool b, .int .i64 n, .string (mk t)], .string (mk r), .bool g] := by
  cases x with
  | none => exact ⟨false, 0, [], [], false, rfl⟩
  | some x => exact ⟨_, _, _, _, true, rfl⟩
theorem rp_one (r : List UInt8) : rp (1 :: r) = txtP (rt r) := by rw [rp, if_pos rfl]; rfl
theorem rp_two (r : List UInt8) : rp (2 :: r) = numP r := by rw [rp, if_neg (by decide), if_pos rfl]; rfl
theorem rp_other (c : UInt8) (r : List UInt8) (h1 : c ≠ 1) (h2 : c ≠ 2) : rp (c :: r) = none := by rw [rp, if_neg h1, if_neg h2]
set_option maxHeartbeats 4000000 in
theorem readPart_any (c : UInt8) (r : List UInt8) (w : World) (hl : r.length ≤ 100000) :
    Calls Tryd.prog 26 #[.string (mk (c :: r))] w fun e w' => e = .returned (outP (rp (c :: r))) ∧ Below w.heap.size w w' := by
  have hms := mk_size
  have hmt := mk_toList
  have hs1 : ∀ w, (Instr.slice 9 (.string (mk (c :: r))) (some (.int .i64 1)) none none).run Tryd.prog w = .ok (.string (mk r)) w := fun w => run_from w (c :: r) .i64 1 (by simp)
  have hix : ∀ w, (Instr.index 9 (.string (mk (c :: r))) (.int .i64 0)).run Tryd.prog w = .ok (.int .u8 (c.toNat : Nat)) w := fun w => run_idx w (c :: r) .i64 0 (by simp)
  have hc0 : ∀ x : Nat, x < 256 → c ≠ UInt8.ofNat x → ((c.toNat : Int) == (x : Int)) = false := fun x hx h => by
    rw [beq_eq_false_iff_ne]
    intro e
    apply h
    apply UInt8.toNat_inj.1
    simp only [UInt8.toNat_ofNat']
    omega
  have hz0 : (w.alloc (.cells #[.bool false, .int .i64 0, .string ⟨#[]⟩] 33)).heap.size = w.heap.size + 1 := by simp
  have HK0 := Lib.hid (Blk.new w 33 #[.bool false, .int .i64 0, .string ⟨#[]⟩])
  have HB0 : Hid (Below w.heap.size w (w.alloc (.cells #[.bool false, .int .i64 0, .string ⟨#[]⟩] 33))) := Lib.hid ((Below.refl w.heap.size w).alloc (Nat.le_refl _) _)
  by_cases h1 : c = 1
  · subst h1
    obtain ⟨b, n, t, s, g, hE⟩ := outP_form (txtP (rt r))
    have HE : Hid (outP (rp (1 :: r)) = .tuple #[.agg #[.bool b, .int .i64 n, .string (mk t)], .string (mk s), .bool g]) := Lib.hid (by rw [rp_one, hE])
    clear hc0
    go_enter Tryd.func26, Tryd.ntmps26
    go_wp2_with fail
    refine (readText_any r _ (by omega)).mono ?_
    rintro e w1 ⟨rfl, hb⟩
    rw [hE]
    have HB := Lib.hid hb
    have HK := Lib.hid (HK0.out.below hb (by omega))
    have c0 : w1.cell? ⟨w.heap.size, 0, none⟩ = some (.bool false) := HK.out.cell 0
    have c1 : w1.cell? ⟨w.heap.size, 1, none⟩ = some (.int .i64 0) := HK.out.cell 1
    have c2 : w1.cell? ⟨w.heap.size, 2, none⟩ = some (.string ⟨#[]⟩) := HK.out.cell 2
    have f0 : w1.frozen? ⟨w.heap.size, 0, none⟩ = false := HK.out.frozen 0
    have f1 : w1.frozen? ⟨w.heap.size, 1, none⟩ = false := HK.out.frozen 1
    have f2 : w1.frozen? ⟨w.heap.size, 2, none⟩ = false := HK.out.frozen 2
    clear hb hE
    go_wp2
    have qK := ((HK.out.put 0 (.bool b)).put 1 (.int .i64 n)).put 2 (.string (mk t))
    have q0 := qK.cell 0
    have q1 := qK.cell 1
    have q2 := qK.cell 2
    refine bodyPost_ret (v := .tuple #[.agg #[.bool b, .int .i64 n, .string (mk t)], .string (mk s), .bool g]) (by simp [results, Tryd.results26, go_sem, q0, q1, q2]) rfl ⟨by rw [HE.out], ?_⟩
    exact (((HB0.out.trans (HB.out.mono (by omega))).setCell (Nat.le_refl _) _).setCell (Nat.le_refl _) _).setCell (Nat.le_refl _) _
  by_cases h2 : c = 2
  · subst h2
    obtain ⟨b, n, t, s, g, hE⟩ := outP_form (numP r)
    have HE : Hid (outP (rp (2 :: r)) = .tuple #[.agg #[.bool b, .int .i64 n, .string (mk t)], .string (mk s), .bool g]) := Lib.hid (by rw [rp_two, hE])
    clear hc0 h1
    go_enter Tryd.func26, Tryd.ntmps26
    go_wp2_with fail
    refine (readNumber_any r _ (by omega)).mono ?_
    rintro e w1 ⟨rfl, hb⟩
    rw [hE]
    have HB := Lib.hid hb
    have HK := Lib.hid (HK0.out.below hb (by omega))
    have c0 : w1.cell? ⟨w.heap.size, 0, none⟩ = some (.bool false) := HK.out.cell 0
    have c1 : w1.cell? ⟨w.heap.size, 1, none⟩ = some (.int .i64 0) := HK.out.cell 1
    have c2 : w1.cell? ⟨w.heap.size, 2, none⟩ = some (.string ⟨#[]⟩) := HK.out.cell 2
    have f0 : w1.frozen? ⟨w.heap.size, 0, none⟩ = false := HK.out.frozen 0
    have f1 : w1.frozen? ⟨w.heap.size, 1, none⟩ = false := HK.out.frozen 1
    have f2 : w1.frozen? ⟨w.heap.size, 2, none⟩ = false := HK.out.frozen 2
    clear hb hE
    go_wp2
    have qK := ((HK.out.put 0 (.bool b)).put 1 (.int .i64 n)).put 2 (.string (mk t))
    have q0 := qK.cell 0
    have q1 := qK.cell 1
    have q2 := qK.cell 2
    refine bodyPost_ret (v := .tuple #[.agg #[.bool b, .int .i64 n, .string (mk t)], .string (mk s), .bool g]) (by simp [results, Tryd.results26, go_sem, q0, q1, q2]) rfl ⟨by rw [HE.out], ?_⟩
    exact (((HB0.out.trans (HB.out.mono (by omega))).setCell (Nat.le_refl _) _).setCell (Nat.le_refl _) _).setCell (Nat.le_refl _) _
  · have HE : Hid (outP (rp (c :: r)) = .tuple #[.agg #[.bool false, .int .i64 0, .string ⟨#[]⟩], .string ⟨#[]⟩, .bool false]) := Lib.hid (by rw [rp_other c r h1 h2]; rfl)
    have hq1 : ((c.toNat : Int) == 1) = false := hc0 1 (by decide) h1
    have hq2 : ((c.toNat : Int) == 2) = false := hc0 2 (by decide) h2
    clear hc0 h1 h2
    generalize c.toNat = x at *
    go_enter Tryd.func26, Tryd.ntmps26
    go_wp2
    refine bodyPost_ret (v := .tuple #[.agg #[.bool false, .int .i64 0, .string ⟨#[]⟩], .string ⟨#[]⟩, .bool false]) (by simp [results, Tryd.results26, go_sem]) rfl ⟨by rw [HE.out], ?_⟩
    exact (Below.refl _ _).alloc (Nat.le_refl _) _
end Go.Proofs.YtmbbfdiojcfamaaDoor.Txt
