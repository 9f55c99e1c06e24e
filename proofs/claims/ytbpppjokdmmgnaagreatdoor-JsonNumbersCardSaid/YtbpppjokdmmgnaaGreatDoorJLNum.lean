/-
  The walk of the statement JsonNumbers: whatever the number and the text it returns true, and nothing that was there before has changed.
-/
import Derived.Test.YtbpppjokdmmgnaaGreatDoorJNm1
import Derived.Test.YtbpppjokdmmgnaaGreatDoorJNm4
import Derived.Test.YtbpppjokdmmgnaaGreatDoorJNm5
import Derived.Test.YtbpppjokdmmgnaaGreatDoorJAnc2
import Derived.Lib.ItoaLen
namespace Go.Proofs.YtbpppjokdmmgnaaGreatDoor.Jsn
open Go.RowKit Txt
theorem num_right (l : List UInt8) : (V.mk 3 false l [] []).right = isNum l := by
  rw [V.right_eq]
  simp [rightSelf, foreign, V.kind, V.yes, V.text, V.list, V.mem, V.kids]
theorem num_tame (l : List UInt8) (h : l.length ≤ 1000000) : (V.mk 3 false l [] []).tame := by
  rw [V.tame_eq]
  simp [V.kind, V.text, V.list, V.mem, V.kids, h]
theorem num_right_any (l : List UInt8) (hl : l.length ≤ 1000000) (w : World) (he : Env w) :
    Calls Tryz.prog 10 #[numV l] w fun e w' => e = .returned (.bool (isNum l)) ∧ Below w.heap.size w w' := by
  have := right_any (V.mk 3 false l [] []) (numV l) w ⟨none, 0, none, 0, rfl, fun h => absurd h (by simp [V.list]), fun h => absurd h (by simp [V.mem]), fun i x h => by simp [V.list] at h, fun i x h => by simp [V.mem] at h, fun i x h => by simp [V.mem] at h⟩ (num_tame l hl) (by simp [V.size, sizeL, sizeM]) he.tabs (show 3 + 1 ≤ _ by have := he.size; omega)
  rw [num_right] at this
  exact this
theorem g_below {B pp : Nat} {w w' : World} (h : G pp w w') (hB : B ≤ w.heap.size) (hp : B ≤ pp) : Below B w w' := ⟨h.os, h.tape, h.output, h.size, fun k hk => h.block k (by omega) (fun e => by injection e with e; omega)⟩
theorem take_eq (s : List UInt8) (j : Nat) (hj : j ≤ s.length) : (s.take j == s) = (j == s.length) := by
  rw [Bool.eq_iff_iff, beq_iff_eq, beq_iff_eq]
  constructor
  · intro h
    have := congrArg List.length h
    rw [List.length_take] at this
    omega
  · rintro rfl
    exact List.take_length
set_option maxRecDepth 100000
set_option maxHeartbeats 1000000 in
theorem numbers_long (w : World) (n : Int) (s : List UInt8) (he : Env w) (h : 60 < s.length) :
    Calls Tryz.prog 3 #[.int .i64 n, .string (mk s)] w fun e w' => e = .returned (.bool true) ∧ Below w.heap.size w w' := by
  have h1 : (60 : Int) < s.length := by omega
  have hms := mk_size
  have hmt := mk_toList
  have HE := Lib.hid he
  clear he h
  go_enter Tryz.func3, Tryz.ntmps3
  go_wp2_with fail
  refine (anchor_any w HE.out.tabs (by have := HE.out.size; show 3 + 1 ≤ _; omega)).mono ?_
  rintro e w1 ⟨rfl, hb1⟩
  have HB1 := Lib.hid hb1
  clear hb1
  go_wp2
  go_ret
  exact ⟨rfl, HB1.out⟩
set_option maxHeartbeats 8000000 in
theorem numbers_ok (w : World) (n : Int) (s : List UInt8) (he : Env w) (hl : s.length ≤ 60) (h0 : -9223372036854775808 ≤ n) (h1 : n ≤ 9223372036854775807) :
    Calls Tryz.prog 3 #[.int .i64 n, .string (mk s)] w fun e w' => e = .returned (.bool true) ∧ Below w.heap.size w w' := by
  have hms := mk_size
  have hmt := mk_toList
  have HE := Lib.hid he
  have HL := Lib.hid hl
  have hl' : ¬ (60 : Int) < s.length := by omega
  have hji := jInt_itoa n h0 h1
  have hil : (Lib.itoa n).length ≤ 1000000 := by have := Lib.itoa_length_le n h0 h1; omega
  clear he hl
  go_enter Tryz.func3, Tryz.ntmps3
  go_wp2_with fail
  refine (anchor_any w HE.out.tabs (by have := HE.out.size; show 3 + 1 ≤ _; omega)).mono ?_
  rintro e w1 ⟨rfl, hb1⟩
  have HB1 := Lib.hid hb1
  have HE1 := Lib.hid (HE.out.below hb1 HE.out.size)
  clear hb1
  go_wp2_with fail
  refine (num_any n h0 h1 w1 HE1.out).mono ?_
  rintro e w2 ⟨rfl, hb2⟩
  have HB2 := Lib.hid (HB1.out.trans (hb2.mono HB1.out.size))
  have HE2 := Lib.hid (HE.out.below HB2.out HE.out.size)
  clear hb2 HB1 HE1
  have c2 := int_any (Lib.itoa n) hil w2 HE2.out
  unfold intR at c2
  rw [hji] at c2
  clear hji hil
  go_wp2_with fail
  refine c2.mono ?_
  rintro e w3 ⟨rfl, hb3⟩
  have HB3 := Lib.hid (HB2.out.trans (hb3.mono HB2.out.size))
  have HE3 := Lib.hid (HE.out.below HB3.out HE.out.size)
  clear hb3 HB2 HE2 c2
  have hcase : (-9007199254740992 ≤ n ∧ n ≤ 9007199254740992) ∨ n < -9007199254740992 ∨ (-9007199254740992 ≤ n ∧ 9007199254740992 < n) := by omega
  obtain ⟨t3, ht3⟩ : ∃ t3, t3 = (if -9007199254740992 ≤ n ∧ n ≤ 9007199254740992 then some n else none) := ⟨_, rfl⟩
  rw [← ht3]
  have h3 : (t3 = some n ∧ -9007199254740992 ≤ n ∧ n ≤ 9007199254740992) ∨ (t3 = none ∧ n < -9007199254740992) ∨ (t3 = none ∧ -9007199254740992 ≤ n ∧ 9007199254740992 < n) := by
    rcases hcase with h | h | h
    · left; rw [ht3, if_pos h]; exact ⟨rfl, h⟩
    · right; left; rw [ht3, if_neg (by omega)]; exact ⟨rfl, h⟩
    · right; right; rw [ht3, if_neg (by omega)]; exact ⟨rfl, h⟩
  clear hcase ht3
  rcases h3 with ⟨rfl, h3, h4⟩ | ⟨rfl, h3⟩ | ⟨rfl, h3, h4⟩
  all_goals simp only [Option.getD_some, Option.getD_none, Option.isSome_some, Option.isSome_none]
  all_goals go_wp2_with fail
  all_goals
    clear h3
    obtain ⟨w5, hw5⟩ : ∃ w5, w5 = (w3.alloc (.cells #[.int .i64 3, .bool false, .string (mk s), .slice none 0 0, .slice none 0 0] 27)).alloc (.cells #[.string (mk s), .int .i64 0, .int .i64 0, .int .i64 0, .int .i64 0, .int .i64 0] 32) := ⟨_, rfl⟩
    rw [← hw5]
    have hk5 : Blk w5 w3.heap.size 27 #[.int .i64 3, .bool false, .string (mk s), .slice none 0 0, .slice none 0 0] := by rw [hw5]; exact (Below.heap_alloc _ _ _ (by simp)).trans (Blk.new w3 _ _)
    have hr5 : RP w5 (w3.heap.size + 1) s 0 0 0 := by rw [hw5]; exact (show Blk _ _ _ _ by simpa using Blk.new (w3.alloc (.cells #[.int .i64 3, .bool false, .string (mk s), .slice none 0 0, .slice none 0 0] 27)) 32 #[.string (mk s), .int .i64 0, .int .i64 0, .int .i64 0, .int .i64 0, .int .i64 0])
    have HB5 : Hid (Below w.heap.size w w5) := Lib.hid (by rw [hw5]; exact (HB3.out.alloc HB3.out.size _).alloc (by simp; have := HB3.out.size; omega) _)
    have HZ := Lib.hid HB3.out.size
    clear hw5 HB3 HE3
    generalize w3.heap.size = q at *
    refine (number_ref (q + 1) s w5 hr5 (by have := HL.out; omega)).mono ?_
    rintro e w6 ⟨j, f, a, rfl, hp6, hj, hiff, hg6⟩
    have hk6 : Blk w6 q 27 #[.int .i64 3, .bool false, .string (mk s), .slice none 0 0, .slice none 0 0] := (hg6.block q hk5.lt (fun e => by injection e with e; omega)).trans hk5
    have HB6 := Lib.hid (HB5.out.trans (g_below hg6 HB5.out.size (by have := HZ.out; omega)))
    have HE6 := Lib.hid (HE.out.below HB6.out HE.out.size)
    have hte := take_eq s j hj
    obtain ⟨-, -, c4, -⟩ := hp6.cells
    have d0 : w6.cell? ⟨q, 0, none⟩ = some (.int .i64 3) := hk6.cell 0
    have d1 : w6.cell? ⟨q, 1, none⟩ = some (.bool false) := hk6.cell 1
    have d2 : w6.cell? ⟨q, 2, none⟩ = some (.string (mk s)) := hk6.cell 2
    have d3 : w6.cell? ⟨q, 3, none⟩ = some (.slice none 0 0) := hk6.cell 3
    have d4 : w6.cell? ⟨q, 4, none⟩ = some (.slice none 0 0) := hk6.cell 4
    have HK6 := Lib.hid hk6
    have HI := Lib.hid hiff
    have c6 := int_any s (by have := HL.out; omega) w6 HE6.out
    clear hg6 hk5 hr5 HB5 hp6 hk6 hiff
    cases hn : isNum s with
    | false =>
      have hbad : ¬ (f = 0 ∧ j = s.length) := fun h => by rw [HI.out.1 h] at hn; cases hn
      have hx : f ≠ 0 ∨ (f = 0 ∧ j ≠ s.length) := by omega
      have hr : intR s = .tuple #[.int .i64 0, .bool false] := by unfold intR jInt; rw [hn]; rfl
      rw [hr] at c6
      have HN := Lib.hid hn
      clear hbad HI hn hr
      rcases hx with hf | ⟨rfl, hf⟩
      · have hf' : (f == 0) = false := by simpa using hf
        clear hf
        go_wp2_with fail
        refine c6.mono ?_
        rintro e w7 ⟨rfl, hb7⟩
        have HB7 := Lib.hid (HB6.out.trans (hb7.mono HB6.out.size))
        have hk7 := HK6.out.below hb7 HK6.out.lt
        have x0 : w7.cell? ⟨q, 0, none⟩ = some (.int .i64 3) := hk7.cell 0
        have x1 : w7.cell? ⟨q, 1, none⟩ = some (.bool false) := hk7.cell 1
        have x2 : w7.cell? ⟨q, 2, none⟩ = some (.string (mk s)) := hk7.cell 2
        have x3 : w7.cell? ⟨q, 3, none⟩ = some (.slice none 0 0) := hk7.cell 3
        have x4 : w7.cell? ⟨q, 4, none⟩ = some (.slice none 0 0) := hk7.cell 4
        have HK7 := Lib.hid hk7
        have HE7 := Lib.hid (HE.out.below HB7.out HE.out.size)
        have c8 := num_right_any s (by have := HL.out; omega) w7 HE7.out
        rw [HN.out] at c8
        clear hb7 hk7 c6 HB6 HE6 HK6 d0 d1 d2 d3 d4
        go_wp2_with fail
        refine c8.mono ?_
        rintro e w8 ⟨rfl, hb8⟩
        have HB8 := Lib.hid (HB7.out.trans (hb8.mono HB7.out.size))
        clear hb8 c8
        go_wp2
        go_ret
        exact ⟨rfl, HB8.out⟩
      · have hf' : (s.take j == s) = false := by rw [hte]; simpa using hf
        clear hf hte
        go_wp2_with fail
        refine c6.mono ?_
        rintro e w7 ⟨rfl, hb7⟩
        have HB7 := Lib.hid (HB6.out.trans (hb7.mono HB6.out.size))
        have hk7 := HK6.out.below hb7 HK6.out.lt
        have x0 : w7.cell? ⟨q, 0, none⟩ = some (.int .i64 3) := hk7.cell 0
        have x1 : w7.cell? ⟨q, 1, none⟩ = some (.bool false) := hk7.cell 1
        have x2 : w7.cell? ⟨q, 2, none⟩ = some (.string (mk s)) := hk7.cell 2
        have x3 : w7.cell? ⟨q, 3, none⟩ = some (.slice none 0 0) := hk7.cell 3
        have x4 : w7.cell? ⟨q, 4, none⟩ = some (.slice none 0 0) := hk7.cell 4
        have HK7 := Lib.hid hk7
        have HE7 := Lib.hid (HE.out.below HB7.out HE.out.size)
        have c8 := num_right_any s (by have := HL.out; omega) w7 HE7.out
        rw [HN.out] at c8
        clear hb7 hk7 c6 HB6 HE6 HK6 d0 d1 d2 d3 d4
        go_wp2_with fail
        refine c8.mono ?_
        rintro e w8 ⟨rfl, hb8⟩
        have HB8 := Lib.hid (HB7.out.trans (hb8.mono HB7.out.size))
        clear hb8 c8
        go_wp2
        go_ret
        exact ⟨rfl, HB8.out⟩
    | true =>
      obtain ⟨rfl, hjl⟩ := HI.out.2 hn
      have hte' : (s.take j == s) = true := by rw [hte]; simpa using hjl
      have HN := Lib.hid hn
      clear HI hn hte hjl
      unfold intR at c6
      cases hji : jInt s with
      | none =>
        rw [hji] at c6
        simp only [Option.getD_none, Option.isSome_none] at c6
        clear hji
        go_wp2_with fail
        refine c6.mono ?_
        rintro e w7 ⟨rfl, hb7⟩
        have HB7 := Lib.hid (HB6.out.trans (hb7.mono HB6.out.size))
        have hk7 := HK6.out.below hb7 HK6.out.lt
        have x0 : w7.cell? ⟨q, 0, none⟩ = some (.int .i64 3) := hk7.cell 0
        have x1 : w7.cell? ⟨q, 1, none⟩ = some (.bool false) := hk7.cell 1
        have x2 : w7.cell? ⟨q, 2, none⟩ = some (.string (mk s)) := hk7.cell 2
        have x3 : w7.cell? ⟨q, 3, none⟩ = some (.slice none 0 0) := hk7.cell 3
        have x4 : w7.cell? ⟨q, 4, none⟩ = some (.slice none 0 0) := hk7.cell 4
        have HK7 := Lib.hid hk7
        have HE7 := Lib.hid (HE.out.below HB7.out HE.out.size)
        have c8 := num_right_any s (by have := HL.out; omega) w7 HE7.out
        rw [HN.out] at c8
        clear hb7 hk7 c6 HB6 HE6 HK6 d0 d1 d2 d3 d4
        go_wp2_with fail
        go_loopw [88] (fun i wr => ∃ k : Nat, k ≤ s.length ∧ i = .int .i64 k ∧ wr = w7) (fun i _ => s.length - (intOf i).toNat)
        case atStart => exact ⟨0, Nat.zero_le _, rfl, rfl⟩
        case round =>
          obtain ⟨k, hk, rfl, rfl⟩ := hrel
          by_cases hlt : k < s.length
          · have hidx := fun w => run_idx w s .i64 k hlt
            generalize s.getD k 0 = x at hidx
            have hx : x.toNat = 46 ∨ (x.toNat ≠ 46 ∧ x.toNat = 101) ∨ (x.toNat ≠ 46 ∧ x.toNat ≠ 101 ∧ x.toNat = 69) ∨ (x.toNat ≠ 46 ∧ x.toNat ≠ 101 ∧ x.toNat ≠ 69) := by omega
            rcases hx with h5 | ⟨h5, h6⟩ | ⟨h5, h6, h7⟩ | ⟨h5, h6, h7⟩
            · have k1 : ((x.toNat : Int) == 46) = true := by rw [beq_iff_eq]; omega
              clear h5
              go_wp2_with fail
              refine c8.mono ?_
              rintro e w8 ⟨rfl, hb8⟩
              have HB8 := Lib.hid (HB7.out.trans (hb8.mono HB7.out.size))
              clear hb8 c8
              go_wp2
              go_ret
              exact ⟨rfl, HB8.out⟩
            · have k1 : ((x.toNat : Int) == 46) = false := by rw [beq_eq_false_iff_ne]; omega
              have k2 : ((x.toNat : Int) == 101) = true := by rw [beq_iff_eq]; omega
              clear h5 h6
              go_wp2_with fail
              refine c8.mono ?_
              rintro e w8 ⟨rfl, hb8⟩
              have HB8 := Lib.hid (HB7.out.trans (hb8.mono HB7.out.size))
              clear hb8 c8
              go_wp2
              go_ret
              exact ⟨rfl, HB8.out⟩
            · have k1 : ((x.toNat : Int) == 46) = false := by rw [beq_eq_false_iff_ne]; omega
              have k2 : ((x.toNat : Int) == 101) = false := by rw [beq_eq_false_iff_ne]; omega
              have k3 : ((x.toNat : Int) == 69) = true := by rw [beq_iff_eq]; omega
              clear h5 h6 h7
              go_wp2_with fail
              refine c8.mono ?_
              rintro e w8 ⟨rfl, hb8⟩
              have HB8 := Lib.hid (HB7.out.trans (hb8.mono HB7.out.size))
              clear hb8 c8
              go_wp2
              go_ret
              exact ⟨rfl, HB8.out⟩
            · have k1 : ((x.toNat : Int) == 46) = false := by rw [beq_eq_false_iff_ne]; omega
              have k2 : ((x.toNat : Int) == 101) = false := by rw [beq_eq_false_iff_ne]; omega
              have k3 : ((x.toNat : Int) == 69) = false := by rw [beq_eq_false_iff_ne]; omega
              clear h5 h6 h7
              go_wp2
              go_roundw
              case rel => exact ⟨k + 1, by omega, by go_num, by first | rfl | trivial⟩
              case measure => simp [intOf]; omega
          · have hlt' : ¬ (k : Int) < s.length := by omega
            go_wp2_with fail
            refine (num_any 0 (by decide) (by decide) wr HE7.out).mono ?_
            rintro e w8 ⟨rfl, hb8⟩
            have HB8 := Lib.hid (HB7.out.trans (hb8.mono HB7.out.size))
            have HE8 := Lib.hid (HE.out.below HB8.out HE.out.size)
            have hk8 := HK7.out.below hb8 HK7.out.lt
            have HK8 := Lib.hid hk8
            have c9 := int_any (Lib.itoa 0) (by have := Lib.itoa_length_le 0 (by decide) (by decide); omega) w8 HE8.out
            unfold intR at c9
            rw [jInt_itoa 0 (by decide) (by decide), if_pos (by decide)] at c9
            simp only [Option.getD_some, Option.isSome_some] at c9
            clear hb8 hk8 c8 x0 x1 x2 x3 x4
            go_wp2_with fail
            refine c9.mono ?_
            rintro e w9 ⟨rfl, hb9⟩
            have HB9 := Lib.hid (HB8.out.trans (hb9.mono HB8.out.size))
            have HE9 := Lib.hid (HE.out.below HB9.out HE.out.size)
            have hk9 := HK8.out.below hb9 HK8.out.lt
            have z0 : w9.cell? ⟨q, 0, none⟩ = some (.int .i64 3) := hk9.cell 0
            have z1 : w9.cell? ⟨q, 1, none⟩ = some (.bool false) := hk9.cell 1
            have z2 : w9.cell? ⟨q, 2, none⟩ = some (.string (mk s)) := hk9.cell 2
            have z3 : w9.cell? ⟨q, 3, none⟩ = some (.slice none 0 0) := hk9.cell 3
            have z4 : w9.cell? ⟨q, 4, none⟩ = some (.slice none 0 0) := hk9.cell 4
            have c10 := num_right_any s (by have := HL.out; omega) w9 HE9.out
            rw [HN.out] at c10
            clear hb9 hk9 c9
            go_wp2_with fail
            refine c10.mono ?_
            rintro e w10 ⟨rfl, hb10⟩
            have HB10 := Lib.hid (HB9.out.trans (hb10.mono HB9.out.size))
            clear hb10 c10
            go_wp2
            go_ret
            exact ⟨rfl, HB10.out⟩
      | some kk =>
        rw [hji] at c6
        simp only [Option.getD_some, Option.isSome_some] at c6
        have hwh := jInt_whole hji
        have hbk := jInt_back hji hwh
        have hr := jInt_some hji
        obtain ⟨-, -, hr0, hr1⟩ := hr
        have hb0 : -9223372036854775808 ≤ kk := by omega
        have hb1 : kk ≤ 9223372036854775807 := by omega
        have HWh := Lib.hid hwh
        have HBk := Lib.hid hbk
        clear hji hwh hbk
        go_wp2_with fail
        refine c6.mono ?_
        rintro e w7 ⟨rfl, hb7⟩
        have HB7 := Lib.hid (HB6.out.trans (hb7.mono HB6.out.size))
        have hk7 := HK6.out.below hb7 HK6.out.lt
        have x0 : w7.cell? ⟨q, 0, none⟩ = some (.int .i64 3) := hk7.cell 0
        have x1 : w7.cell? ⟨q, 1, none⟩ = some (.bool false) := hk7.cell 1
        have x2 : w7.cell? ⟨q, 2, none⟩ = some (.string (mk s)) := hk7.cell 2
        have x3 : w7.cell? ⟨q, 3, none⟩ = some (.slice none 0 0) := hk7.cell 3
        have x4 : w7.cell? ⟨q, 4, none⟩ = some (.slice none 0 0) := hk7.cell 4
        have HK7 := Lib.hid hk7
        have HE7 := Lib.hid (HE.out.below HB7.out HE.out.size)
        have c8 := num_right_any s (by have := HL.out; omega) w7 HE7.out
        rw [HN.out] at c8
        clear hb7 hk7 c6 HB6 HE6 HK6 d0 d1 d2 d3 d4
        go_wp2_with fail
        go_loopw [88] (fun i wr => ∃ k : Nat, k ≤ s.length ∧ i = .int .i64 k ∧ wr = w7) (fun i _ => s.length - (intOf i).toNat)
        case atStart => exact ⟨0, Nat.zero_le _, rfl, rfl⟩
        case round =>
          obtain ⟨k, hk, rfl, rfl⟩ := hrel
          by_cases hlt : k < s.length
          · have hidx := fun w => run_idx w s .i64 k hlt
            have hw := HWh.out (s.getD k 0) (by rw [List.getD_eq_getElem?_getD, List.getElem?_eq_getElem hlt]; exact List.getElem_mem hlt)
            generalize s.getD k 0 = x at hidx hw
            obtain ⟨h5, h6, h7⟩ := hw
            have k1 : ((x.toNat : Int) == 46) = false := by rw [beq_eq_false_iff_ne]; omega
            have k2 : ((x.toNat : Int) == 101) = false := by rw [beq_eq_false_iff_ne]; omega
            have k3 : ((x.toNat : Int) == 69) = false := by rw [beq_eq_false_iff_ne]; omega
            clear h5 h6 h7
            go_wp2
            go_roundw
            case rel => exact ⟨k + 1, by omega, by go_num, by first | rfl | trivial⟩
            case measure => simp [intOf]; omega
          · have hlt' : ¬ (k : Int) < s.length := by omega
            go_wp2_with fail
            refine (num_any kk hb0 hb1 wr HE7.out).mono ?_
            rintro e w8 ⟨rfl, hb8⟩
            have HB8 := Lib.hid (HB7.out.trans (hb8.mono HB7.out.size))
            have HE8 := Lib.hid (HE.out.below HB8.out HE.out.size)
            have hk8 := HK7.out.below hb8 HK7.out.lt
            have HK8 := Lib.hid hk8
            have c9 := int_any (Lib.itoa kk) (by have := Lib.itoa_length_le kk hb0 hb1; omega) w8 HE8.out
            unfold intR at c9
            rw [jInt_itoa kk hb0 hb1, if_pos ⟨hr0, hr1⟩] at c9
            simp only [Option.getD_some, Option.isSome_some] at c9
            clear hb8 hk8 c8 x0 x1 x2 x3 x4
            go_wp2_with fail
            refine c9.mono ?_
            rintro e w9 ⟨rfl, hb9⟩
            have HB9 := Lib.hid (HB8.out.trans (hb9.mono HB8.out.size))
            have HE9 := Lib.hid (HE.out.below HB9.out HE.out.size)
            have hk9 := HK8.out.below hb9 HK8.out.lt
            have z0 : w9.cell? ⟨q, 0, none⟩ = some (.int .i64 3) := hk9.cell 0
            have z1 : w9.cell? ⟨q, 1, none⟩ = some (.bool false) := hk9.cell 1
            have z2 : w9.cell? ⟨q, 2, none⟩ = some (.string (mk s)) := hk9.cell 2
            have z3 : w9.cell? ⟨q, 3, none⟩ = some (.slice none 0 0) := hk9.cell 3
            have z4 : w9.cell? ⟨q, 4, none⟩ = some (.slice none 0 0) := hk9.cell 4
            have c10 := num_right_any s (by have := HL.out; omega) w9 HE9.out
            rw [HN.out] at c10
            clear hb9 hk9 c9
            go_wp2_with fail
            refine c10.mono ?_
            rintro e w10 ⟨rfl, hb10⟩
            have HB10 := Lib.hid (HB9.out.trans (hb10.mono HB9.out.size))
            clear hb10 c10
            have hbk : (s = [45, 48] ∧ kk = 0) ∨ (s ≠ [45, 48] ∧ Lib.itoa kk = s) ∨ (s = [45, 48] ∧ kk ≠ 0 ∧ Lib.itoa kk = s) := by
              have := HBk.out
              by_cases h5 : s = [45, 48] <;> by_cases h6 : kk = 0
              · exact .inl ⟨h5, h6⟩
              · refine .inr (.inr ⟨h5, h6, this.resolve_left (fun h => h6 h.2)⟩)
              · exact .inr (.inl ⟨h5, this.resolve_left (fun h => h5 h.1)⟩)
              · exact .inr (.inl ⟨h5, this.resolve_left (fun h => h5 h.1)⟩)
            clear HBk HWh
            rcases hbk with ⟨h5, rfl⟩ | ⟨h5, h6⟩ | ⟨h5, h7, h6⟩
            · have hz : (s == [45, 48]) = true := by rw [h5]; decide
              clear h5
              go_wp2
              go_ret
              exact ⟨rfl, HB10.out⟩
            · have hz : (s == [45, 48]) = false := by simpa using h5
              have hq : (Lib.itoa kk == s) = true := by rw [h6]; simp
              clear h5 h6
              go_wp2_with fail
              refine (num_any kk hb0 hb1 w10 (HE.out.below HB10.out HE.out.size)).mono ?_
              rintro e w11 ⟨rfl, hb11⟩
              have HB11 := Lib.hid (HB10.out.trans (hb11.mono HB10.out.size))
              clear hb11
              have hrt := run_text (Lib.itoa kk)
              go_wp2
              go_ret
              exact ⟨rfl, HB11.out⟩
            · have hz : (s == [45, 48]) = true := by rw [h5]; decide
              have hq : (Lib.itoa kk == s) = true := by rw [h6]; simp
              have hk0 : (kk == 0) = false := by simpa using h7
              clear h5 h6 h7
              go_wp2_with fail
              refine (num_any kk hb0 hb1 w10 (HE.out.below HB10.out HE.out.size)).mono ?_
              rintro e w11 ⟨rfl, hb11⟩
              have HB11 := Lib.hid (HB10.out.trans (hb11.mono HB10.out.size))
              clear hb11
              have hrt := run_text (Lib.itoa kk)
              go_wp2
              go_ret
              exact ⟨rfl, HB11.out⟩
theorem numbers_any (w : World) (n : Int) (s : List UInt8) (he : Env w) (h0 : -9223372036854775808 ≤ n) (h1 : n ≤ 9223372036854775807) :
    Calls Tryz.prog 3 #[.int .i64 n, .string (mk s)] w fun e w' => e = .returned (.bool true) ∧ Below w.heap.size w w' := by
  by_cases h : 60 < s.length
  · exact numbers_long w n s he h
  · exact numbers_ok w n s he (by omega) h0 h1
end Go.Proofs.YtbpppjokdmmgnaaGreatDoor.Jsn
