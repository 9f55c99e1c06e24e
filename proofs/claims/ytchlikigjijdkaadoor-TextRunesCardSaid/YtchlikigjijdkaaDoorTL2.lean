/-
  The walk of the statement TextRunes: whatever the string it returns true, and nothing that was there before has changed.
-/
import Derived.Test.YtchlikigjijdkaaDoorTA
import Derived.Laws.RangeString
import Derived.Laws.RangeAny
namespace Go.Proofs.YtchlikigjijdkaaDoor.Txt
open Go.RowKit
set_option maxRecDepth 100000
theorem decode_mk (l : List UInt8) (a : Nat) : Utf8.decode (mk l) a = dec (l.drop a) := by
  have hg : ∀ i, (mk l).get! i = l.getD i 0 := fun i => by
    show (mk l).data[i]! = _
    simp [mk, List.getD_eq_getElem?_getD]
    rfl
  have hd : ∀ j, (l.drop a).getD j 0 = l.getD (a + j) 0 := fun j => by simp [List.getD_eq_getElem?_getD, List.getElem?_drop]
  rw [Lib.decode_at, mk_size, hg, hg, hg, hg]
  unfold dec
  rw [hd, hd, hd, hd, List.length_drop]
  rfl
theorem take_fffd {y : List UInt8} (h : y.take 3 = [239, 191, 189]) : 3 ≤ y.length ∧ (y.getD 0 0).toNat = 239 ∧ (y.getD 1 0).toNat = 191 ∧ (y.getD 2 0).toNat = 189 := by
  match y with
  | [] => simp at h
  | [_] => simp at h
  | [_, _] => simp at h
  | a :: b :: c :: r =>
    simp only [List.take_succ_cons, List.take_zero, List.cons.injEq, and_true] at h
    obtain ⟨rfl, rfl, rfl⟩ := h
    exact ⟨by simp, rfl, rfl, rfl⟩
theorem fffd_take {y : List UInt8} (hl : 3 ≤ y.length) (h0 : (y.getD 0 0).toNat = 239) (h1 : (y.getD 1 0).toNat = 191) (h2 : (y.getD 2 0).toNat = 189) : y.take 3 = [239, 191, 189] := by
  match y, hl with
  | a :: b :: c :: r, _ =>
    have e0 : a = 239 := UInt8.toNat_inj.1 h0
    have e1 : b = 191 := UInt8.toNat_inj.1 h1
    have e2 : c = 189 := UInt8.toNat_inj.1 h2
    subst e0 e1 e2
    rfl
set_option maxHeartbeats 2000000 in
theorem textRunes_any (l : List UInt8) (w : World) (hT : Tabs w) (hm : l.length ≤ 9223372036854775807) :
    Calls Tryd.prog 4 #[.string (mk l)] w fun e w' => e = .returned (.bool true) ∧ Below w.heap.size w w' := by
  have h2 := hT.two
  have HT := Lib.hid hT
  clear hT
  have hms := mk_size
  have hmt := mk_toList
  go_enter Tryd.func4, Tryd.ntmps4
  go_wp2_with fail
  refine (anchor_any w HT.out).mono ?_
  rintro e w1 ⟨rfl, hb1⟩
  have HB1 := Lib.hid hb1
  have hz1 := hb1.size
  clear hb1
  by_cases hlen : 1000 < l.length
  · have hd1 : (1000 : Int) < (l.length : Int) := by omega
    go_wp2
    go_ret
    exact ⟨rfl, HB1.out⟩
  · have hd1 : (l.length : Int) ≤ (1000 : Int) := by omega
    go_wp2
    go_loopw [3] (fun v wr => ∃ (a : Nat) (f : Bool), v = .bool f ∧ a ≤ l.length ∧ wr = w1.iter (mk l) a ∧ (f = true → wrong (l.drop a) a = wrong l 0) ∧ (f = false → 0 ≤ wrong l 0)) (fun _ wr => l.length - wr.iterPos w1.heap.size)
    case atStart => exact ⟨0, true, rfl, by omega, rfl, fun _ => rfl, fun h => by cases h⟩
    case round =>
      obtain ⟨a, f, rfl, ha, rfl, hft, hff⟩ := hrel
      by_cases hlt : a < l.length
      · have hne : l.drop a ≠ [] := fun e => by have := congrArg List.length e; rw [List.length_drop] at this; simp at this; omega
        have hcl := chr_len _ hne
        rw [List.length_drop] at hcl
        obtain ⟨d0, d1⟩ := dec_chr (l.drop a)
        have hnx := fun ty => run_next_any (P := Tryd.prog) w1 (mk l) a ty (by rw [mk_size]; exact hlt)
        rw [decode_mk] at hnx
        have hit := fun p : Nat => World.iterPos_iter w1 (mk l) p
        by_cases hc : chr (l.drop a) = 0
        · have HE : Hid (0 ≤ wrong l 0) := Lib.hid (by
            cases f with
            | false => exact hff rfl
            | true => rw [← hft rfl, wrong_bad a hne hc]; omega)
          rw [d0 hc] at hnx
          by_cases h3 : l.length < a + 3
          · have hd3 : (l.length : Int) < (a : Int) + 3 := by omega
            clear d0 d1 hc hcl hne hft hff
            go_wp2
            go_roundw
            case rel => exact ⟨a + 1, false, rfl, by omega, rfl, (fun h => by cases h), fun _ => HE.out⟩
            case measure => simp only [hit]; omega
          · have hd3 : (a : Int) + 3 ≤ (l.length : Int) := by omega
            have hsl : ∀ w, (Instr.slice 9 (.string (mk l)) (some (.int .i64 (a : Int))) (some (.int .i64 ((a : Int) + 3))) none).run Tryd.prog w = .ok (.string (mk ((l.drop a).take 3))) w := fun w => by
              have := run_part w l .i64 .i64 a (a + 3) (by omega) (by omega)
              rw [show a + 3 - a = 3 by omega] at this
              exact this
            have hnq : ((l.drop a).take 3 == [239, 191, 189]) = false := by
              rw [beq_eq_false_iff_ne]
              intro h
              obtain ⟨z0, z1, z2, z3⟩ := take_fffd h
              have := chr_fffd _ z0 z1 z2 z3
              omega
            clear d0 d1 hc hcl hne hft hff
            generalize (l.drop a).take 3 = y at *
            go_wp2
            go_roundw
            case rel => exact ⟨a + 1, false, rfl, by omega, rfl, (fun h => by cases h), fun _ => HE.out⟩
            case measure => simp only [hit]; omega
        · obtain ⟨e1, e2⟩ := d1 hc
          have HE : Hid (f = true → wrong (l.drop (a + chr (l.drop a))) (a + chr (l.drop a)) = wrong l 0) := Lib.hid (fun h => by rw [← hft h, wrong_step a hne hc, List.drop_drop])
          have HF := Lib.hid hff
          by_cases hr : (dec (l.drop a)).1 = 65533
          · obtain ⟨g0, g1, g2, g3⟩ := e2 hr
            have hd3 : (a : Int) + 3 ≤ (l.length : Int) := by omega
            have hsl : ∀ w, (Instr.slice 9 (.string (mk l)) (some (.int .i64 (a : Int))) (some (.int .i64 ((a : Int) + 3))) none).run Tryd.prog w = .ok (.string (mk [239, 191, 189])) w := fun w => by
              have := run_part w l .i64 .i64 a (a + 3) (by omega) (by omega)
              rw [show a + 3 - a = 3 by omega, fffd_take (by rw [List.length_drop]; omega) g1 g2 g3] at this
              exact this
            have hqq : ([239, 191, 189] == ([239, 191, 189] : List UInt8)) = true := rfl
            rw [hr, e1, g0] at hnx
            rw [g0] at HE
            clear d0 d1 hc hcl hne hft hff e1 e2 hr g0 g1 g2 g3
            go_wp2
            go_roundw
            case rel => exact ⟨a + 3, f, rfl, by omega, rfl, HE.out, HF.out⟩
            case measure => simp only [hit]; omega
          · rw [e1] at hnx
            have hr1 : ((((dec (l.drop a)).1 : Nat) : Int) == 65533) = false := by rw [beq_eq_false_iff_ne]; omega
            have hc1 : 1 ≤ chr (l.drop a) := by omega
            clear d0 d1 hc hne hft hff e1 e2 hr
            generalize (dec (l.drop a)).1 = r at *
            generalize chr (l.drop a) = k at *
            go_wp2
            go_roundw
            case rel => exact ⟨a + k, f, rfl, by omega, rfl, HE.out, HF.out⟩
            case measure => simp only [hit]; omega
      · obtain rfl : a = l.length := by omega
        have hnx := fun ty => run_next_end (P := Tryd.prog) w1 (mk l) l.length ty (by rw [mk_size]; omega)
        rw [List.drop_length] at hft
        have hbb : (decide (wrong l 0 < 0) == f) = true := by
          cases f with
          | true => rw [← hft rfl]; rfl
          | false => rw [beq_iff_eq]; exact decide_eq_false (by have := hff rfl; omega)
        clear hft hff
        have HBi : Hid (Below w.heap.size w (w1.iter (mk l) l.length)) := Lib.hid (HB1.out.alloc hz1 _)
        have hzi : w1.heap.size ≤ (w1.iter (mk l) l.length).heap.size := by simp [World.iter]
        go_wp2_with fail
        refine (told_any l _ (HT.out.below HBi.out h2) (by omega) (by omega)).mono ?_
        rintro e w3 ⟨rfl, hb3⟩
        have HB3 : Hid (Below w.heap.size w w3) := Lib.hid (HBi.out.trans (hb3.mono (by omega)))
        clear hb3
        go_wp2
        go_ret
        exact ⟨rfl, HB3.out⟩
end Go.Proofs.YtchlikigjijdkaaDoor.Txt
