/-
  What readText, readNumber and readPart answer: the part that a text begins with, and what is behind it; nothing that was there before is changed.
-/
import Derived.Test.YtmbbfdiojcfamaaDoorU2
namespace Go.Proofs.YtmbbfdiojcfamaaDoor.Txt
open Go.RowKit Tup
set_option maxRecDepth 100000
def zp : Pt := ⟨false, 0, []⟩
/-- A part, what is behind it, and whether there is one. -/
def outP : Option (Pt × List UInt8) → Value
  | none => .tuple #[Pv zp, .string (mk []), .bool false]
  | some x => .tuple #[Pv x.1, .string (mk x.2), .bool true]
def txtP (x : Option (List UInt8 × List UInt8)) : Option (Pt × List UInt8) := x.map fun y => (⟨false, 0, y.1⟩, y.2)
def strLen : Value → Nat
  | .string s => s.size
  | _ => 0
theorem toList_lit (a : Array UInt8) : (⟨a⟩ : ByteArray).toList = a.toList := by
  have := mk_toList a.toList
  unfold mk at this
  simpa using this
set_option maxHeartbeats 4000000 in
theorem readText_any (l : List UInt8) (w : World) (hl : l.length ≤ 1000000) :
    Calls Tryd.prog 38 #[.string (mk l)] w fun e w' => e = .returned (outP (txtP (rt l))) ∧ Below w.heap.size w w' := by
  have hms := mk_size
  have hmt := mk_toList
  have hl0 : (⟨#[0]⟩ : ByteArray).toList = [0] := toList_lit _
  have hl255 : (⟨#[255]⟩ : ByteArray).toList = [255] := toList_lit _
  go_enter Tryd.func38, Tryd.ntmps38
  have HK0 := Lib.hid (Blk.new w 33 #[.bool false, .int .i64 0, .string ⟨#[]⟩])
  have HB0 : Hid (Below w.heap.size w (w.alloc (.cells #[.bool false, .int .i64 0, .string ⟨#[]⟩] 33))) := Lib.hid ((Below.refl w.heap.size w).alloc (Nat.le_refl _) _)
  have hz0 : (w.alloc (.cells #[.bool false, .int .i64 0, .string ⟨#[]⟩] 33)).heap.size = w.heap.size + 1 := by simp
  generalize hw0 : (w.alloc (.cells #[.bool false, .int .i64 0, .string ⟨#[]⟩] 33)) = w0 at *
  go_wp2
  go_loopw [0] (fun v wr => ∃ (t acc : List UInt8), v = .string (mk t) ∧ acc.length + t.length ≤ l.length ∧ rt l = (rt t).map (fun x => (acc ++ x.1, x.2)) ∧ BldF wr (w.heap.size + 1) (w.heap.size + 1) acc ∧ Below (w.heap.size + 1) w0 wr) (fun v _ => strLen v)
  case atStart => exact ⟨l, [], rfl, by simp, by cases rt l <;> rfl, by have := bldF_new w0; rw [hz0] at this; exact this, (Below.refl _ _).alloc (by omega) _⟩
  case round =>
    obtain ⟨t, acc, rfl, hal, hrt, hI, hb⟩ := hrel
    have HI := Lib.hid hI
    have HB := Lib.hid hb
    have HR := Lib.hid hrt
    have hz := hb.size
    clear hI hb hrt
    go_wp2_with fail
    refine (cut_any t 0 _ (by omega)).mono ?_
    rintro e w1 ⟨hC, hb1⟩
    -- the piece a, what is behind it b
    obtain ⟨a, b, g, rfl, hal2, hrt2⟩ : ∃ (a b : List UInt8) (g : Bool), e = .returned (.tuple #[.string (mk a), .string (mk b), .bool g]) ∧ a.length + b.length ≤ t.length ∧ (b = [] → rt t = none) ∧ (b ≠ [] → a.length + b.length + 1 = t.length ∧ rt t = (rt (0 :: b)).map (fun x => (a ++ x.1, x.2))) := by
      rcases hC with ⟨h1, rfl⟩ | ⟨a, b, hab, ha, rfl⟩
      · exact ⟨t, [], false, rfl, by simp, fun _ => rt_none t h1, fun h => absurd rfl h⟩
      · have := congrArg List.length hab
        rw [List.length_append, List.length_cons] at this
        refine ⟨a, b, true, rfl, by omega, fun h => ?_, fun _ => ⟨by omega, by rw [hab]; exact rt_skip _ a ha⟩⟩
        subst h
        rw [hab, rt_skip _ a ha]
        rfl
    obtain ⟨hnil, hcons⟩ := hrt2
    have HI1 := Lib.hid (HI.out.below hb1)
    have HB1 : Hid (Below (w.heap.size + 1) w0 w1) := Lib.hid (HB.out.trans (hb1.mono (by omega)))
    have hz1 := HB1.out.size
    clear hC hb1 HI HB hz
    cases b with
    | nil =>
      have HE : Hid (outP (txtP (rt l)) = .tuple #[.agg #[.bool false, .int .i64 0, .string ⟨#[]⟩], .string ⟨#[]⟩, .bool false]) := Lib.hid (by rw [HR.out, hnil rfl]; rfl)
      have HK := Lib.hid (HK0.out.below HB1.out (by omega))
      have c0 : w1.cell? ⟨w.heap.size, 0, none⟩ = some (.bool false) := HK.out.cell 0
      have c1 : w1.cell? ⟨w.heap.size, 1, none⟩ = some (.int .i64 0) := HK.out.cell 1
      have c2 : w1.cell? ⟨w.heap.size, 2, none⟩ = some (.string ⟨#[]⟩) := HK.out.cell 2
      have f0 : w1.frozen? ⟨w.heap.size, 0, none⟩ = false := HK.out.frozen 0
      have f1 : w1.frozen? ⟨w.heap.size, 1, none⟩ = false := HK.out.frozen 1
      have f2 : w1.frozen? ⟨w.heap.size, 2, none⟩ = false := HK.out.frozen 2
      clear hnil hcons HR
      go_wp2
      have qK := ((HK.out.put 0 (.bool false)).put 1 (.int .i64 0)).put 2 (.string ⟨#[]⟩)
      have q0 := qK.cell 0
      have q1 := qK.cell 1
      have q2 := qK.cell 2
      refine bodyPost_ret (v := .tuple #[.agg #[.bool false, .int .i64 0, .string ⟨#[]⟩], .string ⟨#[]⟩, .bool false]) (by simp [results, Tryd.results38, go_sem, q0, q1, q2]) rfl ⟨by rw [HE.out], ?_⟩
      exact (((HB0.out.trans (HB1.out.mono (by omega))).setCell (Nat.le_refl _) _).setCell (Nat.le_refl _) _).setCell (Nat.le_refl _) _
    | cons d r =>
      obtain ⟨hlen, hrt3⟩ := hcons (by simp)
      clear hnil hcons
      rw [List.length_cons] at hlen
      have HR2 : Hid (rt l = (rt (0 :: d :: r)).map (fun x => ((acc ++ a) ++ x.1, x.2))) := Lib.hid (by
        rw [HR.out, hrt3]
        cases rt (0 :: d :: r) <;> simp)
      have hs1 : ∀ w, (Instr.slice 9 (.string (mk (d :: r))) (some (.int .i64 1)) none none).run Tryd.prog w = .ok (.string (mk r)) w := fun w => run_from w (d :: r) .i64 1 (by simp)
      have hs2 : ∀ w, (Instr.slice 9 (.string (mk (d :: r))) none (some (.int .i64 1)) none).run Tryd.prog w = .ok (.string (mk [d])) w := fun w => run_to w (d :: r) .i64 1 (by simp)
      have hne : ((d :: r) == ([] : List UInt8)) = false := rfl
      clear HR hrt3
      have HL := Lib.hid hlen
      clear hlen hal2
      go_wp2_with fail
      refine (writeS_at (w.heap.size + 1) (w.heap.size + 1) acc a _ HI1.out (by have := HL.out; omega) (by omega)).mono ?_
      rintro e w2 ⟨rfl, hI2, hb2⟩
      have HI2 := Lib.hid hI2
      have HB2 : Hid (Below (w.heap.size + 1) w0 w2) := Lib.hid (HB1.out.trans hb2.below)
      have hz2 := HB2.out.size
      clear hI2 hb2 HI1 HB1
      by_cases hd0 : d = 0
      · subst hd0
        have hq0 : (([0] : List UInt8) == [0]) = true := rfl
        have HE : Hid (outP (txtP (rt l)) = .tuple #[.agg #[.bool false, .int .i64 0, .string (mk (acc ++ a))], .string (mk r), .bool true]) := Lib.hid (by rw [HR2.out, rt_zero, if_pos rfl]; simp [txtP, outP, Pv])
        clear HR2
        go_wp2_with fail
        refine (takenF_any _ _ _ _ HI2.out (by omega)).mono ?_
        rintro e w3 ⟨rfl, _, hb3⟩
        have HB3 : Hid (Below (w.heap.size + 1) w0 w3) := Lib.hid (HB2.out.trans hb3)
        clear hb3 HI2
        have HK := Lib.hid (HK0.out.below HB3.out (by omega))
        have c0 : w3.cell? ⟨w.heap.size, 0, none⟩ = some (.bool false) := HK.out.cell 0
        have c1 : w3.cell? ⟨w.heap.size, 1, none⟩ = some (.int .i64 0) := HK.out.cell 1
        have c2 : w3.cell? ⟨w.heap.size, 2, none⟩ = some (.string ⟨#[]⟩) := HK.out.cell 2
        have f0 : w3.frozen? ⟨w.heap.size, 0, none⟩ = false := HK.out.frozen 0
        have f1 : w3.frozen? ⟨w.heap.size, 1, none⟩ = false := HK.out.frozen 1
        have f2 : w3.frozen? ⟨w.heap.size, 2, none⟩ = false := HK.out.frozen 2
        go_wp2
        have qK := ((HK.out.put 0 (.bool false)).put 1 (.int .i64 0)).put 2 (.string (mk (acc ++ a)))
        have q0 := qK.cell 0
        have q1 := qK.cell 1
        have q2 := qK.cell 2
        refine bodyPost_ret (v := .tuple #[.agg #[.bool false, .int .i64 0, .string (mk (acc ++ a))], .string (mk r), .bool true]) (by simp [results, Tryd.results38, go_sem, q0, q1, q2]) rfl ⟨by rw [HE.out], ?_⟩
        exact (((HB0.out.trans (HB3.out.mono (by omega))).setCell (Nat.le_refl _) _).setCell (Nat.le_refl _) _).setCell (Nat.le_refl _) _
      · by_cases hd5 : d = 255
        · subst hd5
          have hq0 : (([255] : List UInt8) == [0]) = false := rfl
          have hq5 : (([255] : List UInt8) == [255]) = true := rfl
          have HR3 : Hid (rt l = (rt r).map (fun x => ((acc ++ a ++ [0]) ++ x.1, x.2))) := Lib.hid (by
            rw [HR2.out, rt_zero, if_neg (by decide), if_pos rfl]
            cases rt r <;> simp)
          clear HR2
          go_wp2_with fail
          refine (writeS_at (w.heap.size + 1) (w.heap.size + 1) (acc ++ a) [0] _ HI2.out (by have := HL.out; rw [List.length_append, List.length_singleton]; omega) (by omega)).mono ?_
          rintro e w3 ⟨rfl, hI3, hb3⟩
          have HI3 := Lib.hid hI3
          have HB3 : Hid (Below (w.heap.size + 1) w0 w3) := Lib.hid (HB2.out.trans hb3.below)
          clear hI3 hb3 HI2 HB2
          go_wp2
          go_roundw
          case rel => exact ⟨r, acc ++ a ++ [0], rfl, by have := HL.out; rw [List.length_append, List.length_append, List.length_singleton]; omega, HR3.out, HI3.out, HB3.out⟩
          case measure => have := HL.out; simp [strLen, mk_size]; omega
        · have hq0 : (([d] : List UInt8) == [0]) = false := by rw [beq_eq_false_iff_ne]; intro h; injection h with h; exact hd0 h
          have hq5 : (([d] : List UInt8) == [255]) = false := by rw [beq_eq_false_iff_ne]; intro h; injection h with h; exact hd5 h
          have HE : Hid (outP (txtP (rt l)) = .tuple #[.agg #[.bool false, .int .i64 0, .string ⟨#[]⟩], .string ⟨#[]⟩, .bool false]) := Lib.hid (by rw [HR2.out, rt_zero, if_neg hd0, if_neg hd5]; rfl)
          clear HR2 hd0 hd5
          have HK := Lib.hid (HK0.out.below HB2.out (by omega))
          have c0 : w2.cell? ⟨w.heap.size, 0, none⟩ = some (.bool false) := HK.out.cell 0
          have c1 : w2.cell? ⟨w.heap.size, 1, none⟩ = some (.int .i64 0) := HK.out.cell 1
          have c2 : w2.cell? ⟨w.heap.size, 2, none⟩ = some (.string ⟨#[]⟩) := HK.out.cell 2
          have f0 : w2.frozen? ⟨w.heap.size, 0, none⟩ = false := HK.out.frozen 0
          have f1 : w2.frozen? ⟨w.heap.size, 1, none⟩ = false := HK.out.frozen 1
          have f2 : w2.frozen? ⟨w.heap.size, 2, none⟩ = false := HK.out.frozen 2
          go_wp2
          have qK := ((HK.out.put 0 (.bool false)).put 1 (.int .i64 0)).put 2 (.string ⟨#[]⟩)
          have q0 := qK.cell 0
          have q1 := qK.cell 1
          have q2 := qK.cell 2
          refine bodyPost_ret (v := .tuple #[.agg #[.bool false, .int .i64 0, .string ⟨#[]⟩], .string ⟨#[]⟩, .bool false]) (by simp [results, Tryd.results38, go_sem, q0, q1, q2]) rfl ⟨by rw [HE.out], ?_⟩
          exact (((HB0.out.trans (HB2.out.mono (by omega))).setCell (Nat.le_refl _) _).setCell (Nat.le_refl _) _).setCell (Nat.le_refl _) _
end Go.Proofs.YtmbbfdiojcfamaaDoor.Txt
