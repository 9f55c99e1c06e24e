/-
  What the program's Next answers: the least text behind all that begin so; nothing that was there before is changed.
-/
import Derived.Test.YtmbbfdiojcfamaaDoorU10
namespace Go.Proofs.YtmbbfdiojcfamaaDoor.Txt
open Go.RowKit Tup
set_option maxRecDepth 100000
theorem drop_max : ∀ (l : List UInt8) (k : Nat), (∀ i, k ≤ i → i < l.length → l.getD i 0 = 255) → l.drop k = List.replicate (l.length - k) 255
  | [], k, _ => by simp
  | x :: l, 0, h => by
    have h0 := h 0 (by omega) (by simp)
    have := drop_max l 0 (fun i _ hi => by have := h (i + 1) (by omega) (by simpa using hi); simpa using this)
    simp only [List.drop_zero, Nat.sub_zero] at this ⊢
    rw [List.length_cons, List.replicate_succ, ← this]
    simpa using h0
  | x :: l, k + 1, h => by
    rw [List.drop_succ_cons, drop_max l k (fun i hk hi => by have := h (i + 1) (by omega) (by simpa using hi); simpa using this)]
    simp
theorem nxt_all (l : List UInt8) (h : ∀ i, 0 ≤ i → i < l.length → l.getD i 0 = 255) : nxt l = [] := by
  have := drop_max l 0 h
  rw [List.drop_zero] at this
  rw [this]
  exact nxt_max _
theorem nxt_at (l : List UInt8) (k : Nat) (hk : k < l.length) (h : ∀ i, k + 1 ≤ i → i < l.length → l.getD i 0 = 255) (hne : l.getD k 0 ≠ 255) : nxt l = l.take k ++ [l.getD k 0 + 1] := by
  have hd := drop_max l (k + 1) h
  have e : l = l.take k ++ l.getD k 0 :: List.replicate (l.length - (k + 1)) 255 := by
    rw [← hd]
    conv => lhs; rw [← List.take_append_drop k l]
    rw [List.drop_eq_getElem_cons hk]
    simp [List.getD_eq_getElem?_getD, List.getElem?_eq_getElem hk]
  conv => lhs; rw [e]
  exact nxt_form _ _ hne _
set_option maxHeartbeats 4000000 in
theorem next_any (l : List UInt8) (w : World) (hl : l.length ≤ 100000) :
    Calls Tryd.prog 19 #[.string (mk l)] w fun e w' => e = .returned (.string (mk (nxt l))) ∧ Below w.heap.size w w' := by
  have hms := mk_size
  have hmt := mk_toList
  go_enter Tryd.func19, Tryd.ntmps19
  go_wp2
  go_loopw [3] (fun v wr => ∃ k : Nat, k ≤ l.length ∧ v = .int .i64 ((k : Int) - 1) ∧ (∀ i, k ≤ i → i < l.length → l.getD i 0 = 255) ∧ wr = w) (fun v _ => (intOf v + 1).toNat)
  case atStart => exact ⟨l.length, by omega, rfl, fun i h1 h2 => by omega, rfl⟩
  case round =>
    obtain ⟨k, hk, rfl, hmax, rfl⟩ := hrel
    have HM := Lib.hid hmax
    clear hmax
    rcases k with _ | i
    · rw [show (((0 : Nat) : Int) - 1) = -1 from rfl]
      have HE : Hid (nxt l = []) := Lib.hid (nxt_all l HM.out)
      go_wp2
      go_ret
      exact ⟨by rw [HE.out]; rfl, Below.refl _ _⟩
    · rw [show (((i + 1 : Nat) : Int) - 1) = (i : Int) by omega]
      have hix : ∀ w, (Instr.index 9 (.string (mk l)) (.int .i64 (i : Int))).run Tryd.prog w = .ok (.int .u8 ((l.getD i 0).toNat : Nat)) w := fun w => run_idx w l .i64 i (by omega)
      by_cases h5 : l.getD i 0 = 255
      · have hq : (((l.getD i 0).toNat : Int) == 255) = true := by rw [h5]; rfl
        have HM2 : Hid (∀ j, i ≤ j → j < l.length → l.getD j 0 = 255) := Lib.hid (fun j h1 h2 => by
          rcases Nat.lt_or_ge i j with h | h
          · exact HM.out j (by omega) h2
          · obtain rfl : j = i := by omega
            exact h5)
        clear h5
        generalize (l.getD i 0).toNat = x at *
        go_wp2
        go_roundw
        case rel => exact ⟨i, by omega, rfl, HM2.out, trivial⟩
        case measure => show ((i : Int) - 1 + 1).toNat < ((i : Int) + 1).toNat; omega
      · have hxl := (l.getD i 0).toNat_lt
        have hx5 : (l.getD i 0).toNat ≠ 255 := fun e => h5 (UInt8.toNat_inj.1 e)
        have hq : (((l.getD i 0).toNat : Int) == 255) = false := by rw [beq_eq_false_iff_ne]; omega
        have HE : Hid (nxt l = l.take i ++ [l.getD i 0 + 1]) := Lib.hid (nxt_at l i (by omega) HM.out h5)
        have hy : ((l.getD i 0 + 1).toNat : Int) = ((l.getD i 0).toNat : Int) + 1 := by rw [u8_succ h5]; rfl
        have hto : ∀ w, (Instr.slice 9 (.string (mk l)) none (some (.int .i64 (i : Int))) none).run Tryd.prog w = .ok (.string (mk (l.take i))) w := fun w => run_to w l .i64 i (by omega)
        have hx254 : ((l.getD i 0).toNat : Int) ≤ 254 := by omega
        have HY := Lib.hid hy
        clear h5 hx5 hy hxl
        generalize l.getD i 0 + 1 = y at *
        generalize (l.getD i 0).toNat = x at *
        go_wp2_with fail
        refine (writeS_at wr.heap.size wr.heap.size [] (l.take i) _ (bldF_new wr) (by rw [List.length_nil, List.length_take]; omega) (by simp)).mono ?_
        rintro e w1 ⟨rfl, hI1, hb1⟩
        have HI1 := Lib.hid hI1
        have HB1 : Hid (Below wr.heap.size wr w1) := Lib.hid (((Below.refl _ _).alloc (Nat.le_refl _) _).trans hb1.below)
        clear hI1 hb1
        go_wp2_with fail
        refine (writeK_at wr.heap.size wr.heap.size _ y _ (by rw [HY.out]) _ HI1.out (by rw [List.length_append, List.length_nil, List.length_take]; omega) HB1.out.size).mono ?_
        rintro e w2 ⟨rfl, hI2, hb2⟩
        have HI2 := Lib.hid hI2
        have HB2 : Hid (Below wr.heap.size wr w2) := Lib.hid (HB1.out.trans hb2.below)
        clear hI2 hb2 HI1 HB1
        go_wp2_with fail
        refine (takenF_any _ _ _ _ HI2.out HB2.out.size).mono ?_
        rintro e w3 ⟨rfl, _, hb3⟩
        have HB3 : Hid (Below wr.heap.size wr w3) := Lib.hid (HB2.out.trans hb3)
        clear hb3 HI2 HB2
        go_wp2
        go_ret
        exact ⟨by rw [HE.out]; rfl, HB3.out⟩
end Go.Proofs.YtmbbfdiojcfamaaDoor.Txt
