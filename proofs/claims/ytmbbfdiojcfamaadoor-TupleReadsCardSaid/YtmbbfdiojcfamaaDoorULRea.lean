/-
  The walk of the statement TupleReads: whatever the text it returns true, and nothing that was there before has changed.
-/
import Derived.Test.YtmbbfdiojcfamaaDoorULKey
namespace Go.Proofs.YtmbbfdiojcfamaaDoor.Txt
open Go.RowKit Tup
set_option maxRecDepth 100000
theorem text_key (m : List UInt8) (h : (0 : UInt8) ∉ m) : 1 :: (m ++ [0, 0]) = key [⟨false, 0, m⟩] := by
  rw [key_cons, key_nil, List.append_nil, kb]
  simp only [Bool.false_eq_true, if_false]
  rw [esc0_none m h]
theorem suffix_form {l p : List UInt8} (h : p.isSuffixOf l = true) : ∃ x, l = x ++ p ∧ x = l.take (l.length - p.length) := by
  rw [List.isSuffixOf_iff_suffix] at h
  obtain ⟨x, hx⟩ := h
  refine ⟨x, hx.symm, ?_⟩
  rw [← hx, List.length_append, Nat.add_sub_cancel, List.take_left]
set_option maxHeartbeats 8000000 in
theorem tupleReads_any (l : List UInt8) (w : World) (hm : l.length ≤ 9223372036854775807) (hx : Mx w) (h2 : 2 ≤ w.heap.size) :
    Calls Tryd.prog 4 #[.string (mk l)] w fun e w' => e = .returned (.bool true) ∧ Below w.heap.size w w' := by
  have HX := Lib.hid hx
  clear hx
  have hms := mk_size
  have hmt := mk_toList
  go_enter Tryd.func4, Tryd.ntmps4
  go_wp2_with fail
  refine (anchor_any w HX.out h2).mono ?_
  rintro e w1 ⟨rfl, hb1⟩
  have HB1 := Lib.hid hb1
  have hz1 := hb1.size
  clear hb1
  by_cases h500 : 500 < l.length
  · have hd : (500 : Int) < (l.length : Int) := by omega
    go_wp2
    go_ret
    exact ⟨rfl, HB1.out⟩
  have hd : (l.length : Int) ≤ (500 : Int) := by omega
  have hl500 : l.length ≤ 500 := by omega
  clear h500
  go_wp2_with fail
  refine (read_any l _ (by omega)).mono ?_
  rintro e w2 ⟨hRd, hb2⟩
  have HB2 : Hid (Below w.heap.size w w2) := Lib.hid (HB1.out.trans (hb2.mono hz1))
  have hz2 := HB2.out.size
  clear hb2 HB1
  rcases hRd with ⟨ps, A4, c4, hg, hkp, rfl, _, _, _, hRp, _⟩ | ⟨hno, rfl⟩
  · have HRp := Lib.hid hRp
    have HFw := Lib.hid (good_few hg (by rw [← hkp]; omega))
    have HK := Lib.hid hkp
    clear hRp hg hkp
    go_wp2_with fail
    refine (key_any ps A4 c4 _ HRp.out HFw.out (HX.out.below HB2.out h2) (by omega)).mono ?_
    rintro e w3 ⟨rfl, hb3⟩
    rw [← HK.out]
    have HB3 : Hid (Below w.heap.size w w3) := Lib.hid (HB2.out.trans (hb3.mono hz2))
    have he : (l == l) = true := by rw [beq_iff_eq]
    clear hb3 HB2
    go_wp2
    go_ret
    exact ⟨rfl, HB3.out⟩
  · have HNO := Lib.hid hno
    clear hno
    cases l with
    | nil => exact absurd ⟨[], fun p hp => (by cases hp), rfl⟩ HNO.out
    | cons c r =>
      have hix : ∀ w, (Instr.index 9 (.string (mk (c :: r))) (.int .i64 0)).run Tryd.prog w = .ok (.int .u8 (c.toNat : Nat)) w := fun w => run_idx w (c :: r) .i64 0 (by simp)
      have he : ((c :: r) == ([] : List UInt8)) = false := rfl
      by_cases hc1 : c = 1
      · subst hc1
        have hq : (((1 : UInt8).toNat : Int) != 1) = false := rfl
        have hsfx : ∀ w, Calls Tryd.prog 14 #[.string (mk (1 :: r)), .string ⟨#[97, 0, 0]⟩] w fun e w' => e = .returned (.bool (([97, 0, 0] : List UInt8).isSuffixOf (1 :: r))) ∧ w' = w := fun w => by
          refine (hasSuffix_any (mk (1 :: r)) ⟨#[97, 0, 0]⟩ w (by rw [mk_size]; omega)).mono ?_
          rintro e w' ⟨rfl, rfl⟩
          rw [mk_data]
          exact ⟨rfl, rfl⟩
        have HSF := Lib.hid hsfx
        clear hsfx
        cases hsf : ([97, 0, 0] : List UInt8).isSuffixOf (1 :: r) with
        | false =>
          rw [hsf] at HSF
          clear hsf
          go_wp2_with fail
          refine (HSF.out _).mono ?_
          rintro e w3 ⟨rfl, rfl⟩
          go_wp2
          go_ret
          exact ⟨rfl, HB2.out⟩
        | true =>
          rw [hsf] at HSF
          obtain ⟨x, hx1, hx2⟩ := suffix_form hsf
          clear hsf
          have hlen : (1 :: r).length = x.length + 3 := by rw [hx1, List.length_append]; rfl
          have hto : ∀ w, (Instr.slice 9 (.string (mk (1 :: r))) none (some (.int .i64 (((1 :: r).length : Int) - 3))) none).run Tryd.prog w = .ok (.string (mk x)) w := fun w => by
            have := run_to w (1 :: r) .i64 ((1 :: r).length - 3) (by omega)
            have hx2' : x = (1 :: r).take ((1 :: r).length - 3) := hx2
            rw [← hx2'] at this
            rw [show (((1 :: r).length : Int) - 3) = (((1 :: r).length - 3 : Nat) : Int) by omega]
            exact this
          have h0x : (0 : UInt8) ∈ x := by
            by_cases h0 : (0 : UInt8) ∈ x
            · exact h0
            · exfalso
              refine HNO.out ?_
              cases x with
              | nil => rw [List.nil_append] at hx1; injection hx1 with e; exact absurd e (by decide)
              | cons y x =>
                rw [List.cons_append] at hx1
                injection hx1 with e1 e2
                subst e1
                refine ⟨[⟨false, 0, x ++ [97]⟩], fun p hp => ?_, ?_⟩
                · rw [List.mem_singleton.1 hp]; exact ⟨by simp only; omega, by simp only; omega⟩
                · rw [← text_key (x ++ [97]) (by
                    simp only [List.mem_append, List.mem_singleton, not_or]
                    exact ⟨fun h => h0 (by simp [h]), by decide⟩), e2]
                  simp
          have hcon : ∀ w, Calls Tryd.prog 15 #[.string (mk x), .string ⟨#[0]⟩] w fun e w' => e = .returned (.bool true) ∧ w' = w := fun w => by
            refine (containsOne_any (mk x) 0 w).mono ?_
            rintro e w' ⟨rfl, rfl⟩
            rw [mk_data]
            refine ⟨?_, rfl⟩
            rcases indexByte_spec 0 x with ⟨_, h⟩ | ⟨a, b, _, _, h⟩
            · exact absurd h0x h
            · rw [h]
              have : decide (0 ≤ ((a.length : Nat) : Int)) = true := decide_eq_true (by omega)
              rw [this]
          have HCO := Lib.hid hcon
          have hl3 : (3 : Int) ≤ ((1 :: r).length : Int) := by omega
          clear hcon h0x hx1 hx2 hlen HNO
          have he' : (1 :: r).isEmpty = false := rfl
          generalize 1 :: r = s at *
          go_wp2_with fail
          refine (HSF.out _).mono ?_
          rintro e w3 ⟨rfl, rfl⟩
          go_wp2_with fail
          refine (HCO.out _).mono ?_
          rintro e w3 ⟨rfl, rfl⟩
          go_wp2
          go_ret
          exact ⟨rfl, HB2.out⟩
      · have hq : ((c.toNat : Int) != 1) = true := by
          rw [bne_iff_ne]
          intro e
          exact hc1 (UInt8.toNat_inj.1 (by show c.toNat = 1; omega))
        clear hc1
        generalize c.toNat = x at *
        go_wp2
        go_ret
        exact ⟨rfl, HB2.out⟩
end Go.Proofs.YtmbbfdiojcfamaaDoor.Txt
