/-
  The document's own reader of numbers: Number.
-/
import Derived.Test.YtbpppjokdmmgnaaGreatDoorJNm3
namespace Go.Proofs.YtbpppjokdmmgnaaGreatDoor.Jsn
open Go.RowKit Txt
/-- What the reader is behind some steps. -/
def At (F : List UInt8 → Bool) (pb : Nat) (s : List UInt8) (w wc : World) : Prop := ∃ (i : Nat) (f a : Int), RP wc pb s i f a ∧ Inv F s i f ∧ G pb w wc
/-- take, by its answer. -/
def TakR (Y N : List UInt8 → Bool) (pb : Nat) (s : List UInt8) (w : World) (e' : Ending) (w' : World) : Prop := (e' = .returned (.bool true) ∧ At Y pb s w w') ∨ (e' = .returned (.bool false) ∧ At N pb s w w')
theorem take_at {F Y N : List UInt8 → Bool} (c : Nat) (pb : Nat) (s : List UInt8) (w wc : World) (h : At F pb s w wc) (hl : s.length ≤ 100000) (hy : ∀ (x : UInt8) r, x.toNat = c → F (x :: r) = Y r) (hn : ∀ l, ¬ hd l c → F l = N l) :
    Calls Tryz.prog 25 #[.pointer (some ⟨pb, 0, none⟩), .int .u8 (c : Nat)] wc (TakR Y N pb s w) := by
  obtain ⟨i, f, a, hp, hv, hg⟩ := h
  refine (takeR_any pb s i f a c wc hp hv.le hl).mono ?_
  rintro e w' ⟨rfl, hp', hg'⟩
  cases hb : isB s i f c with
  | true => rw [hb] at hp'; exact .inl ⟨rfl, i + 1, f, a, hp', hv.yes hb hy, hg.trans hg'⟩
  | false => rw [hb] at hp'; exact .inr ⟨rfl, i, f, a, hp', hv.no hb hn, hg.trans hg'⟩
theorem take_both {F Y : List UInt8 → Bool} (c : Nat) (pb : Nat) (s : List UInt8) (w wc : World) (h : At F pb s w wc) (hl : s.length ≤ 100000) (hy : ∀ (x : UInt8) r, x.toNat = c → F (x :: r) = Y r) (hn : ∀ l, ¬ hd l c → F l = Y l) :
    Calls Tryz.prog 25 #[.pointer (some ⟨pb, 0, none⟩), .int .u8 (c : Nat)] wc fun e' w' => ∃ b, e' = .returned (.bool b) ∧ At Y pb s w w' :=
  (take_at c pb s w wc h hl hy hn).mono fun _ _ h => by
    rcases h with ⟨h1, h2⟩ | ⟨h1, h2⟩
    · exact ⟨true, h1, h2⟩
    · exact ⟨false, h1, h2⟩
theorem digits_at {F : List UInt8 → Bool} (pb : Nat) (s : List UInt8) (w wc : World) (h : At (Dg F) pb s w wc) (hl : s.length ≤ 100000) :
    Calls Tryz.prog 26 #[.pointer (some ⟨pb, 0, none⟩)] wc fun e' w' => e' = .returned (.tuple #[]) ∧ At F pb s w w' := by
  obtain ⟨i, f, a, hp, hv, hg⟩ := h
  refine (digits_inv F pb s i f a wc hp hl hv).mono ?_
  rintro e w' ⟨rfl, j, g, b, hv', hp', hg'⟩
  exact ⟨rfl, j, g, b, hp', hv', hg.trans hg'⟩
def NumR (pb : Nat) (s : List UInt8) (w : World) (e' : Ending) (w' : World) : Prop := ∃ (j : Nat) (f a : Int), e' = .returned (.string (mk (s.take j))) ∧ RP w' pb s j f a ∧ j ≤ s.length ∧ ((f = 0 ∧ j = s.length) ↔ isNum s = true) ∧ G pb w w'
set_option maxRecDepth 100000
set_option maxHeartbeats 8000000 in
theorem number_ref (pb : Nat) (s : List UInt8) (w : World) (h : RP w pb s 0 0 0) (hl : s.length ≤ 100000) : Calls Tryz.prog 9 #[.pointer (some ⟨pb, 0, none⟩)] w (NumR pb s w) := by
  have HL := Lib.hid hl
  have HA : Hid (At (full 0) pb s w w) := Lib.hid ⟨0, 0, 0, h, ⟨Nat.zero_le _, fun _ => by rw [List.drop_zero]; exact isNum_full s, fun h => absurd rfl h⟩, G.refl pb w⟩
  obtain ⟨-, c1, -⟩ := h.cells
  clear h hl
  have hms := mk_size
  have hmt := mk_toList
  go_enter Tryz.func9, Tryz.ntmps9
  go_wp2_with fail
  clear c1
  refine (take_both 45 pb s w w HA.out HL.out s1y s1n).mono ?_
  rintro e v1 ⟨bb, rfl, h2⟩
  have Hv1 := Lib.hid h2
  clear h2 HA
  go_wp2_with fail
  refine (take_at 48 pb s w _ Hv1.out HL.out s2y s2n).mono ?_
  rintro e v2 (⟨rfl, h2⟩ | ⟨rfl, h2⟩)
  · have Hv2 := Lib.hid h2
    clear h2 Hv1
    go_wp2_with fail
    refine (take_at 46 pb s w _ Hv2.out HL.out s3y s3n).mono ?_
    rintro e v3 (⟨rfl, h2⟩ | ⟨rfl, h2⟩)
    · have Hv3 := Lib.hid h2
      clear h2 Hv2
      go_wp2_with fail
      refine (digits_at pb s w _ Hv3.out HL.out).mono ?_
      rintro e v4 ⟨rfl, h2⟩
      have Hv4 := Lib.hid h2
      clear h2 Hv3
      go_wp2_with fail
      refine (take_at 101 pb s w _ Hv4.out HL.out s4y s4n).mono ?_
      rintro e v5 (⟨rfl, h2⟩ | ⟨rfl, h2⟩)
      · have Hv5 := Lib.hid h2
        clear h2 Hv4
        go_wp2_with fail
        refine (take_at 43 pb s w _ Hv5.out HL.out s6y s6n).mono ?_
        rintro e v6 (⟨rfl, h2⟩ | ⟨rfl, h2⟩)
        · have Hv6 := Lib.hid h2
          clear h2 Hv5
          go_wp2_with fail
          refine (digits_at pb s w _ Hv6.out HL.out).mono ?_
          rintro e v7 ⟨rfl, h2⟩
          have Hv7 := Lib.hid h2
          clear h2 Hv6
          go_wp2_with fail
          obtain ⟨j, f, a, hp, hv, hg⟩ := Hv7.out
          have hle := hv.le
          obtain ⟨c0, c1, -⟩ := hp.cells
          have HF := Lib.hid hv.last
          have HP := Lib.hid hp
          have HG := Lib.hid hg
          have hsl := fun w => run_part w s .i64 .i64 0 j (Nat.zero_le _) hle
          rw [show ((0 : Nat) : Int) = (0 : Int) from rfl, List.drop_zero, Nat.sub_zero] at hsl
          clear hp hv hg Hv7
          go_quiet (fail)
          go_wp2
          go_ret
          exact ⟨j, f, a, rfl, HP.out.drewN _, hle, HF.out, HG.out.trans (G.drewN pb _ _)⟩
        · have Hv6 := Lib.hid h2
          clear h2 Hv5
          go_wp2_with fail
          refine (take_both 45 pb s w _ Hv6.out HL.out s7y s7n).mono ?_
          rintro e v8 ⟨bb, rfl, h2⟩
          have Hv8 := Lib.hid h2
          clear h2 Hv6
          go_wp2_with fail
          refine (digits_at pb s w _ Hv8.out HL.out).mono ?_
          rintro e v9 ⟨rfl, h2⟩
          have Hv9 := Lib.hid h2
          clear h2 Hv8
          go_wp2_with fail
          obtain ⟨j, f, a, hp, hv, hg⟩ := Hv9.out
          have hle := hv.le
          obtain ⟨c0, c1, -⟩ := hp.cells
          have HF := Lib.hid hv.last
          have HP := Lib.hid hp
          have HG := Lib.hid hg
          have hsl := fun w => run_part w s .i64 .i64 0 j (Nat.zero_le _) hle
          rw [show ((0 : Nat) : Int) = (0 : Int) from rfl, List.drop_zero, Nat.sub_zero] at hsl
          clear hp hv hg Hv9
          go_quiet (fail)
          go_wp2
          go_ret
          exact ⟨j, f, a, rfl, HP.out.drewN _, hle, HF.out, HG.out.trans (G.drewN pb _ _)⟩
      · have Hv5 := Lib.hid h2
        clear h2 Hv4
        go_wp2_with fail
        refine (take_at 69 pb s w _ Hv5.out HL.out s5y s5n).mono ?_
        rintro e v10 (⟨rfl, h2⟩ | ⟨rfl, h2⟩)
        · have Hv10 := Lib.hid h2
          clear h2 Hv5
          go_wp2_with fail
          refine (take_at 43 pb s w _ Hv10.out HL.out s6y s6n).mono ?_
          rintro e v11 (⟨rfl, h2⟩ | ⟨rfl, h2⟩)
          · have Hv11 := Lib.hid h2
            clear h2 Hv10
            go_wp2_with fail
            refine (digits_at pb s w _ Hv11.out HL.out).mono ?_
            rintro e v12 ⟨rfl, h2⟩
            have Hv12 := Lib.hid h2
            clear h2 Hv11
            go_wp2_with fail
            obtain ⟨j, f, a, hp, hv, hg⟩ := Hv12.out
            have hle := hv.le
            obtain ⟨c0, c1, -⟩ := hp.cells
            have HF := Lib.hid hv.last
            have HP := Lib.hid hp
            have HG := Lib.hid hg
            have hsl := fun w => run_part w s .i64 .i64 0 j (Nat.zero_le _) hle
            rw [show ((0 : Nat) : Int) = (0 : Int) from rfl, List.drop_zero, Nat.sub_zero] at hsl
            clear hp hv hg Hv12
            go_quiet (fail)
            go_wp2
            go_ret
            exact ⟨j, f, a, rfl, HP.out.drewN _, hle, HF.out, HG.out.trans (G.drewN pb _ _)⟩
          · have Hv11 := Lib.hid h2
            clear h2 Hv10
            go_wp2_with fail
            refine (take_both 45 pb s w _ Hv11.out HL.out s7y s7n).mono ?_
            rintro e v13 ⟨bb, rfl, h2⟩
            have Hv13 := Lib.hid h2
            clear h2 Hv11
            go_wp2_with fail
            refine (digits_at pb s w _ Hv13.out HL.out).mono ?_
            rintro e v14 ⟨rfl, h2⟩
            have Hv14 := Lib.hid h2
            clear h2 Hv13
            go_wp2_with fail
            obtain ⟨j, f, a, hp, hv, hg⟩ := Hv14.out
            have hle := hv.le
            obtain ⟨c0, c1, -⟩ := hp.cells
            have HF := Lib.hid hv.last
            have HP := Lib.hid hp
            have HG := Lib.hid hg
            have hsl := fun w => run_part w s .i64 .i64 0 j (Nat.zero_le _) hle
            rw [show ((0 : Nat) : Int) = (0 : Int) from rfl, List.drop_zero, Nat.sub_zero] at hsl
            clear hp hv hg Hv14
            go_quiet (fail)
            go_wp2
            go_ret
            exact ⟨j, f, a, rfl, HP.out.drewN _, hle, HF.out, HG.out.trans (G.drewN pb _ _)⟩
        · have Hv10 := Lib.hid h2
          clear h2 Hv5
          go_wp2_with fail
          obtain ⟨j, f, a, hp, hv, hg⟩ := Hv10.out
          have hle := hv.le
          obtain ⟨c0, c1, -⟩ := hp.cells
          have HF := Lib.hid hv.last
          have HP := Lib.hid hp
          have HG := Lib.hid hg
          have hsl := fun w => run_part w s .i64 .i64 0 j (Nat.zero_le _) hle
          rw [show ((0 : Nat) : Int) = (0 : Int) from rfl, List.drop_zero, Nat.sub_zero] at hsl
          clear hp hv hg Hv10
          go_quiet (fail)
          go_wp2
          go_ret
          exact ⟨j, f, a, rfl, HP.out.drewN _, hle, HF.out, HG.out.trans (G.drewN pb _ _)⟩
    · have Hv3 := Lib.hid h2
      clear h2 Hv2
      go_wp2_with fail
      refine (take_at 101 pb s w _ Hv3.out HL.out s4y s4n).mono ?_
      rintro e v15 (⟨rfl, h2⟩ | ⟨rfl, h2⟩)
      · have Hv15 := Lib.hid h2
        clear h2 Hv3
        go_wp2_with fail
        refine (take_at 43 pb s w _ Hv15.out HL.out s6y s6n).mono ?_
        rintro e v16 (⟨rfl, h2⟩ | ⟨rfl, h2⟩)
        · have Hv16 := Lib.hid h2
          clear h2 Hv15
          go_wp2_with fail
          refine (digits_at pb s w _ Hv16.out HL.out).mono ?_
          rintro e v17 ⟨rfl, h2⟩
          have Hv17 := Lib.hid h2
          clear h2 Hv16
          go_wp2_with fail
          obtain ⟨j, f, a, hp, hv, hg⟩ := Hv17.out
          have hle := hv.le
          obtain ⟨c0, c1, -⟩ := hp.cells
          have HF := Lib.hid hv.last
          have HP := Lib.hid hp
          have HG := Lib.hid hg
          have hsl := fun w => run_part w s .i64 .i64 0 j (Nat.zero_le _) hle
          rw [show ((0 : Nat) : Int) = (0 : Int) from rfl, List.drop_zero, Nat.sub_zero] at hsl
          clear hp hv hg Hv17
          go_quiet (fail)
          go_wp2
          go_ret
          exact ⟨j, f, a, rfl, HP.out.drewN _, hle, HF.out, HG.out.trans (G.drewN pb _ _)⟩
        · have Hv16 := Lib.hid h2
          clear h2 Hv15
          go_wp2_with fail
          refine (take_both 45 pb s w _ Hv16.out HL.out s7y s7n).mono ?_
          rintro e v18 ⟨bb, rfl, h2⟩
          have Hv18 := Lib.hid h2
          clear h2 Hv16
          go_wp2_with fail
          refine (digits_at pb s w _ Hv18.out HL.out).mono ?_
          rintro e v19 ⟨rfl, h2⟩
          have Hv19 := Lib.hid h2
          clear h2 Hv18
          go_wp2_with fail
          obtain ⟨j, f, a, hp, hv, hg⟩ := Hv19.out
          have hle := hv.le
          obtain ⟨c0, c1, -⟩ := hp.cells
          have HF := Lib.hid hv.last
          have HP := Lib.hid hp
          have HG := Lib.hid hg
          have hsl := fun w => run_part w s .i64 .i64 0 j (Nat.zero_le _) hle
          rw [show ((0 : Nat) : Int) = (0 : Int) from rfl, List.drop_zero, Nat.sub_zero] at hsl
          clear hp hv hg Hv19
          go_quiet (fail)
          go_wp2
          go_ret
          exact ⟨j, f, a, rfl, HP.out.drewN _, hle, HF.out, HG.out.trans (G.drewN pb _ _)⟩
      · have Hv15 := Lib.hid h2
        clear h2 Hv3
        go_wp2_with fail
        refine (take_at 69 pb s w _ Hv15.out HL.out s5y s5n).mono ?_
        rintro e v20 (⟨rfl, h2⟩ | ⟨rfl, h2⟩)
        · have Hv20 := Lib.hid h2
          clear h2 Hv15
          go_wp2_with fail
          refine (take_at 43 pb s w _ Hv20.out HL.out s6y s6n).mono ?_
          rintro e v21 (⟨rfl, h2⟩ | ⟨rfl, h2⟩)
          · have Hv21 := Lib.hid h2
            clear h2 Hv20
            go_wp2_with fail
            refine (digits_at pb s w _ Hv21.out HL.out).mono ?_
            rintro e v22 ⟨rfl, h2⟩
            have Hv22 := Lib.hid h2
            clear h2 Hv21
            go_wp2_with fail
            obtain ⟨j, f, a, hp, hv, hg⟩ := Hv22.out
            have hle := hv.le
            obtain ⟨c0, c1, -⟩ := hp.cells
            have HF := Lib.hid hv.last
            have HP := Lib.hid hp
            have HG := Lib.hid hg
            have hsl := fun w => run_part w s .i64 .i64 0 j (Nat.zero_le _) hle
            rw [show ((0 : Nat) : Int) = (0 : Int) from rfl, List.drop_zero, Nat.sub_zero] at hsl
            clear hp hv hg Hv22
            go_quiet (fail)
            go_wp2
            go_ret
            exact ⟨j, f, a, rfl, HP.out.drewN _, hle, HF.out, HG.out.trans (G.drewN pb _ _)⟩
          · have Hv21 := Lib.hid h2
            clear h2 Hv20
            go_wp2_with fail
            refine (take_both 45 pb s w _ Hv21.out HL.out s7y s7n).mono ?_
            rintro e v23 ⟨bb, rfl, h2⟩
            have Hv23 := Lib.hid h2
            clear h2 Hv21
            go_wp2_with fail
            refine (digits_at pb s w _ Hv23.out HL.out).mono ?_
            rintro e v24 ⟨rfl, h2⟩
            have Hv24 := Lib.hid h2
            clear h2 Hv23
            go_wp2_with fail
            obtain ⟨j, f, a, hp, hv, hg⟩ := Hv24.out
            have hle := hv.le
            obtain ⟨c0, c1, -⟩ := hp.cells
            have HF := Lib.hid hv.last
            have HP := Lib.hid hp
            have HG := Lib.hid hg
            have hsl := fun w => run_part w s .i64 .i64 0 j (Nat.zero_le _) hle
            rw [show ((0 : Nat) : Int) = (0 : Int) from rfl, List.drop_zero, Nat.sub_zero] at hsl
            clear hp hv hg Hv24
            go_quiet (fail)
            go_wp2
            go_ret
            exact ⟨j, f, a, rfl, HP.out.drewN _, hle, HF.out, HG.out.trans (G.drewN pb _ _)⟩
        · have Hv20 := Lib.hid h2
          clear h2 Hv15
          go_wp2_with fail
          obtain ⟨j, f, a, hp, hv, hg⟩ := Hv20.out
          have hle := hv.le
          obtain ⟨c0, c1, -⟩ := hp.cells
          have HF := Lib.hid hv.last
          have HP := Lib.hid hp
          have HG := Lib.hid hg
          have hsl := fun w => run_part w s .i64 .i64 0 j (Nat.zero_le _) hle
          rw [show ((0 : Nat) : Int) = (0 : Int) from rfl, List.drop_zero, Nat.sub_zero] at hsl
          clear hp hv hg Hv20
          go_quiet (fail)
          go_wp2
          go_ret
          exact ⟨j, f, a, rfl, HP.out.drewN _, hle, HF.out, HG.out.trans (G.drewN pb _ _)⟩
  · have Hv2 := Lib.hid h2
    clear h2 Hv1
    go_wp2_with fail
    refine (digits_at pb s w _ Hv2.out HL.out).mono ?_
    rintro e v25 ⟨rfl, h2⟩
    have Hv25 := Lib.hid h2
    clear h2 Hv2
    go_wp2_with fail
    refine (take_at 46 pb s w _ Hv25.out HL.out s3y s3n).mono ?_
    rintro e v26 (⟨rfl, h2⟩ | ⟨rfl, h2⟩)
    · have Hv26 := Lib.hid h2
      clear h2 Hv25
      go_wp2_with fail
      refine (digits_at pb s w _ Hv26.out HL.out).mono ?_
      rintro e v27 ⟨rfl, h2⟩
      have Hv27 := Lib.hid h2
      clear h2 Hv26
      go_wp2_with fail
      refine (take_at 101 pb s w _ Hv27.out HL.out s4y s4n).mono ?_
      rintro e v28 (⟨rfl, h2⟩ | ⟨rfl, h2⟩)
      · have Hv28 := Lib.hid h2
        clear h2 Hv27
        go_wp2_with fail
        refine (take_at 43 pb s w _ Hv28.out HL.out s6y s6n).mono ?_
        rintro e v29 (⟨rfl, h2⟩ | ⟨rfl, h2⟩)
        · have Hv29 := Lib.hid h2
          clear h2 Hv28
          go_wp2_with fail
          refine (digits_at pb s w _ Hv29.out HL.out).mono ?_
          rintro e v30 ⟨rfl, h2⟩
          have Hv30 := Lib.hid h2
          clear h2 Hv29
          go_wp2_with fail
          obtain ⟨j, f, a, hp, hv, hg⟩ := Hv30.out
          have hle := hv.le
          obtain ⟨c0, c1, -⟩ := hp.cells
          have HF := Lib.hid hv.last
          have HP := Lib.hid hp
          have HG := Lib.hid hg
          have hsl := fun w => run_part w s .i64 .i64 0 j (Nat.zero_le _) hle
          rw [show ((0 : Nat) : Int) = (0 : Int) from rfl, List.drop_zero, Nat.sub_zero] at hsl
          clear hp hv hg Hv30
          go_quiet (fail)
          go_wp2
          go_ret
          exact ⟨j, f, a, rfl, HP.out.drewN _, hle, HF.out, HG.out.trans (G.drewN pb _ _)⟩
        · have Hv29 := Lib.hid h2
          clear h2 Hv28
          go_wp2_with fail
          refine (take_both 45 pb s w _ Hv29.out HL.out s7y s7n).mono ?_
          rintro e v31 ⟨bb, rfl, h2⟩
          have Hv31 := Lib.hid h2
          clear h2 Hv29
          go_wp2_with fail
          refine (digits_at pb s w _ Hv31.out HL.out).mono ?_
          rintro e v32 ⟨rfl, h2⟩
          have Hv32 := Lib.hid h2
          clear h2 Hv31
          go_wp2_with fail
          obtain ⟨j, f, a, hp, hv, hg⟩ := Hv32.out
          have hle := hv.le
          obtain ⟨c0, c1, -⟩ := hp.cells
          have HF := Lib.hid hv.last
          have HP := Lib.hid hp
          have HG := Lib.hid hg
          have hsl := fun w => run_part w s .i64 .i64 0 j (Nat.zero_le _) hle
          rw [show ((0 : Nat) : Int) = (0 : Int) from rfl, List.drop_zero, Nat.sub_zero] at hsl
          clear hp hv hg Hv32
          go_quiet (fail)
          go_wp2
          go_ret
          exact ⟨j, f, a, rfl, HP.out.drewN _, hle, HF.out, HG.out.trans (G.drewN pb _ _)⟩
      · have Hv28 := Lib.hid h2
        clear h2 Hv27
        go_wp2_with fail
        refine (take_at 69 pb s w _ Hv28.out HL.out s5y s5n).mono ?_
        rintro e v33 (⟨rfl, h2⟩ | ⟨rfl, h2⟩)
        · have Hv33 := Lib.hid h2
          clear h2 Hv28
          go_wp2_with fail
          refine (take_at 43 pb s w _ Hv33.out HL.out s6y s6n).mono ?_
          rintro e v34 (⟨rfl, h2⟩ | ⟨rfl, h2⟩)
          · have Hv34 := Lib.hid h2
            clear h2 Hv33
            go_wp2_with fail
            refine (digits_at pb s w _ Hv34.out HL.out).mono ?_
            rintro e v35 ⟨rfl, h2⟩
            have Hv35 := Lib.hid h2
            clear h2 Hv34
            go_wp2_with fail
            obtain ⟨j, f, a, hp, hv, hg⟩ := Hv35.out
            have hle := hv.le
            obtain ⟨c0, c1, -⟩ := hp.cells
            have HF := Lib.hid hv.last
            have HP := Lib.hid hp
            have HG := Lib.hid hg
            have hsl := fun w => run_part w s .i64 .i64 0 j (Nat.zero_le _) hle
            rw [show ((0 : Nat) : Int) = (0 : Int) from rfl, List.drop_zero, Nat.sub_zero] at hsl
            clear hp hv hg Hv35
            go_quiet (fail)
            go_wp2
            go_ret
            exact ⟨j, f, a, rfl, HP.out.drewN _, hle, HF.out, HG.out.trans (G.drewN pb _ _)⟩
          · have Hv34 := Lib.hid h2
            clear h2 Hv33
            go_wp2_with fail
            refine (take_both 45 pb s w _ Hv34.out HL.out s7y s7n).mono ?_
            rintro e v36 ⟨bb, rfl, h2⟩
            have Hv36 := Lib.hid h2
            clear h2 Hv34
            go_wp2_with fail
            refine (digits_at pb s w _ Hv36.out HL.out).mono ?_
            rintro e v37 ⟨rfl, h2⟩
            have Hv37 := Lib.hid h2
            clear h2 Hv36
            go_wp2_with fail
            obtain ⟨j, f, a, hp, hv, hg⟩ := Hv37.out
            have hle := hv.le
            obtain ⟨c0, c1, -⟩ := hp.cells
            have HF := Lib.hid hv.last
            have HP := Lib.hid hp
            have HG := Lib.hid hg
            have hsl := fun w => run_part w s .i64 .i64 0 j (Nat.zero_le _) hle
            rw [show ((0 : Nat) : Int) = (0 : Int) from rfl, List.drop_zero, Nat.sub_zero] at hsl
            clear hp hv hg Hv37
            go_quiet (fail)
            go_wp2
            go_ret
            exact ⟨j, f, a, rfl, HP.out.drewN _, hle, HF.out, HG.out.trans (G.drewN pb _ _)⟩
        · have Hv33 := Lib.hid h2
          clear h2 Hv28
          go_wp2_with fail
          obtain ⟨j, f, a, hp, hv, hg⟩ := Hv33.out
          have hle := hv.le
          obtain ⟨c0, c1, -⟩ := hp.cells
          have HF := Lib.hid hv.last
          have HP := Lib.hid hp
          have HG := Lib.hid hg
          have hsl := fun w => run_part w s .i64 .i64 0 j (Nat.zero_le _) hle
          rw [show ((0 : Nat) : Int) = (0 : Int) from rfl, List.drop_zero, Nat.sub_zero] at hsl
          clear hp hv hg Hv33
          go_quiet (fail)
          go_wp2
          go_ret
          exact ⟨j, f, a, rfl, HP.out.drewN _, hle, HF.out, HG.out.trans (G.drewN pb _ _)⟩
    · have Hv26 := Lib.hid h2
      clear h2 Hv25
      go_wp2_with fail
      refine (take_at 101 pb s w _ Hv26.out HL.out s4y s4n).mono ?_
      rintro e v38 (⟨rfl, h2⟩ | ⟨rfl, h2⟩)
      · have Hv38 := Lib.hid h2
        clear h2 Hv26
        go_wp2_with fail
        refine (take_at 43 pb s w _ Hv38.out HL.out s6y s6n).mono ?_
        rintro e v39 (⟨rfl, h2⟩ | ⟨rfl, h2⟩)
        · have Hv39 := Lib.hid h2
          clear h2 Hv38
          go_wp2_with fail
          refine (digits_at pb s w _ Hv39.out HL.out).mono ?_
          rintro e v40 ⟨rfl, h2⟩
          have Hv40 := Lib.hid h2
          clear h2 Hv39
          go_wp2_with fail
          obtain ⟨j, f, a, hp, hv, hg⟩ := Hv40.out
          have hle := hv.le
          obtain ⟨c0, c1, -⟩ := hp.cells
          have HF := Lib.hid hv.last
          have HP := Lib.hid hp
          have HG := Lib.hid hg
          have hsl := fun w => run_part w s .i64 .i64 0 j (Nat.zero_le _) hle
          rw [show ((0 : Nat) : Int) = (0 : Int) from rfl, List.drop_zero, Nat.sub_zero] at hsl
          clear hp hv hg Hv40
          go_quiet (fail)
          go_wp2
          go_ret
          exact ⟨j, f, a, rfl, HP.out.drewN _, hle, HF.out, HG.out.trans (G.drewN pb _ _)⟩
        · have Hv39 := Lib.hid h2
          clear h2 Hv38
          go_wp2_with fail
          refine (take_both 45 pb s w _ Hv39.out HL.out s7y s7n).mono ?_
          rintro e v41 ⟨bb, rfl, h2⟩
          have Hv41 := Lib.hid h2
          clear h2 Hv39
          go_wp2_with fail
          refine (digits_at pb s w _ Hv41.out HL.out).mono ?_
          rintro e v42 ⟨rfl, h2⟩
          have Hv42 := Lib.hid h2
          clear h2 Hv41
          go_wp2_with fail
          obtain ⟨j, f, a, hp, hv, hg⟩ := Hv42.out
          have hle := hv.le
          obtain ⟨c0, c1, -⟩ := hp.cells
          have HF := Lib.hid hv.last
          have HP := Lib.hid hp
          have HG := Lib.hid hg
          have hsl := fun w => run_part w s .i64 .i64 0 j (Nat.zero_le _) hle
          rw [show ((0 : Nat) : Int) = (0 : Int) from rfl, List.drop_zero, Nat.sub_zero] at hsl
          clear hp hv hg Hv42
          go_quiet (fail)
          go_wp2
          go_ret
          exact ⟨j, f, a, rfl, HP.out.drewN _, hle, HF.out, HG.out.trans (G.drewN pb _ _)⟩
      · have Hv38 := Lib.hid h2
        clear h2 Hv26
        go_wp2_with fail
        refine (take_at 69 pb s w _ Hv38.out HL.out s5y s5n).mono ?_
        rintro e v43 (⟨rfl, h2⟩ | ⟨rfl, h2⟩)
        · have Hv43 := Lib.hid h2
          clear h2 Hv38
          go_wp2_with fail
          refine (take_at 43 pb s w _ Hv43.out HL.out s6y s6n).mono ?_
          rintro e v44 (⟨rfl, h2⟩ | ⟨rfl, h2⟩)
          · have Hv44 := Lib.hid h2
            clear h2 Hv43
            go_wp2_with fail
            refine (digits_at pb s w _ Hv44.out HL.out).mono ?_
            rintro e v45 ⟨rfl, h2⟩
            have Hv45 := Lib.hid h2
            clear h2 Hv44
            go_wp2_with fail
            obtain ⟨j, f, a, hp, hv, hg⟩ := Hv45.out
            have hle := hv.le
            obtain ⟨c0, c1, -⟩ := hp.cells
            have HF := Lib.hid hv.last
            have HP := Lib.hid hp
            have HG := Lib.hid hg
            have hsl := fun w => run_part w s .i64 .i64 0 j (Nat.zero_le _) hle
            rw [show ((0 : Nat) : Int) = (0 : Int) from rfl, List.drop_zero, Nat.sub_zero] at hsl
            clear hp hv hg Hv45
            go_quiet (fail)
            go_wp2
            go_ret
            exact ⟨j, f, a, rfl, HP.out.drewN _, hle, HF.out, HG.out.trans (G.drewN pb _ _)⟩
          · have Hv44 := Lib.hid h2
            clear h2 Hv43
            go_wp2_with fail
            refine (take_both 45 pb s w _ Hv44.out HL.out s7y s7n).mono ?_
            rintro e v46 ⟨bb, rfl, h2⟩
            have Hv46 := Lib.hid h2
            clear h2 Hv44
            go_wp2_with fail
            refine (digits_at pb s w _ Hv46.out HL.out).mono ?_
            rintro e v47 ⟨rfl, h2⟩
            have Hv47 := Lib.hid h2
            clear h2 Hv46
            go_wp2_with fail
            obtain ⟨j, f, a, hp, hv, hg⟩ := Hv47.out
            have hle := hv.le
            obtain ⟨c0, c1, -⟩ := hp.cells
            have HF := Lib.hid hv.last
            have HP := Lib.hid hp
            have HG := Lib.hid hg
            have hsl := fun w => run_part w s .i64 .i64 0 j (Nat.zero_le _) hle
            rw [show ((0 : Nat) : Int) = (0 : Int) from rfl, List.drop_zero, Nat.sub_zero] at hsl
            clear hp hv hg Hv47
            go_quiet (fail)
            go_wp2
            go_ret
            exact ⟨j, f, a, rfl, HP.out.drewN _, hle, HF.out, HG.out.trans (G.drewN pb _ _)⟩
        · have Hv43 := Lib.hid h2
          clear h2 Hv38
          go_wp2_with fail
          obtain ⟨j, f, a, hp, hv, hg⟩ := Hv43.out
          have hle := hv.le
          obtain ⟨c0, c1, -⟩ := hp.cells
          have HF := Lib.hid hv.last
          have HP := Lib.hid hp
          have HG := Lib.hid hg
          have hsl := fun w => run_part w s .i64 .i64 0 j (Nat.zero_le _) hle
          rw [show ((0 : Nat) : Int) = (0 : Int) from rfl, List.drop_zero, Nat.sub_zero] at hsl
          clear hp hv hg Hv43
          go_quiet (fail)
          go_wp2
          go_ret
          exact ⟨j, f, a, rfl, HP.out.drewN _, hle, HF.out, HG.out.trans (G.drewN pb _ _)⟩
end Go.Proofs.YtbpppjokdmmgnaaGreatDoor.Jsn
