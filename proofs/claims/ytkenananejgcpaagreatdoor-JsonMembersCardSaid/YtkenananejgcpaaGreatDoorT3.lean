/-
  What the document's in, character and Wrong answer: all leave the world as it was.
-/
import Derived.Test.YtkenananejgcpaaGreatDoorTMem
namespace Go.Proofs.YtkenananejgcpaaGreatDoor.Txt
open Go.RowKit
set_option maxRecDepth 100000
theorem inn_drop (l : List UInt8) (a j lo hi : Nat) (ha : a ≤ l.length) : inn (l.drop a) j lo hi = inn l (a + j) lo hi := by
  unfold inn
  have h1 : (l.drop a).getD j 0 = l.getD (a + j) 0 := by simp [List.getD_eq_getElem?_getD, List.getElem?_drop]
  rw [h1, List.length_drop]
  congr 1
  exact decide_eq_decide.2 (by omega)
theorem drop_get (l : List UInt8) (a : Nat) : (l.drop a).getD 0 0 = l.getD a 0 := by simp [List.getD_eq_getElem?_getD, List.getElem?_drop]
section
variable (l : List UInt8)
theorem chr_A (h : (l.getD 0 0).toNat < 128) : chr l = 1 := by unfold chr; rw [if_pos h]
theorem chr_B (h : 194 ≤ (l.getD 0 0).toNat) (h' : (l.getD 0 0).toNat ≤ 223) : chr l = if inn l 1 128 191 = true then 2 else 0 := by
  unfold chr
  rw [if_neg (by omega)]
  by_cases c : inn l 1 128 191 = true
  · rw [if_pos ⟨⟨h, h'⟩, c⟩, if_pos c]
  · rw [if_neg (fun e => c e.2), if_neg (fun e => by have := e.1.1.1; omega), if_neg (fun e => by have := e.1.1.1.1; omega), if_neg c]
theorem chr_C (h : 224 ≤ (l.getD 0 0).toNat) (h' : (l.getD 0 0).toNat ≤ 239) (lo hi : Nat) (hlo : lo = if (l.getD 0 0).toNat = 224 then 160 else 128) (hhi : hi = if (l.getD 0 0).toNat = 237 then 159 else 191) :
    chr l = if inn l 1 lo hi = true then (if inn l 2 128 191 = true then 3 else 0) else 0 := by
  unfold chr
  rw [if_neg (by omega), if_neg (fun e => by have := e.1.2; omega), ← hlo, ← hhi]
  by_cases c : inn l 1 lo hi = true
  · by_cases d : inn l 2 128 191 = true
    · rw [if_pos ⟨⟨⟨h, h'⟩, c⟩, d⟩, if_pos c, if_pos d]
    · rw [if_neg (fun e => d e.2), if_neg (fun e => by have := e.1.1.1.1; omega), if_pos c, if_neg d]
  · rw [if_neg (fun e => c e.1.2), if_neg (fun e => by have := e.1.1.1.1; omega), if_neg c]
theorem chr_D (h : 240 ≤ (l.getD 0 0).toNat) (h' : (l.getD 0 0).toNat ≤ 244) (lo hi : Nat) (hlo : lo = if (l.getD 0 0).toNat = 240 then 144 else 128) (hhi : hi = if (l.getD 0 0).toNat = 244 then 143 else 191) :
    chr l = if inn l 1 lo hi = true then (if inn l 2 128 191 = true then (if inn l 3 128 191 = true then 4 else 0) else 0) else 0 := by
  unfold chr
  rw [if_neg (by omega), if_neg (fun e => by have := e.1.2; omega), if_neg (fun e => by have := e.1.1.2; omega), ← hlo, ← hhi]
  by_cases c : inn l 1 lo hi = true
  · by_cases d : inn l 2 128 191 = true
    · by_cases f : inn l 3 128 191 = true
      · rw [if_pos ⟨⟨⟨⟨h, h'⟩, c⟩, d⟩, f⟩, if_pos c, if_pos d, if_pos f]
      · rw [if_neg (fun e => f e.2), if_pos c, if_pos d, if_neg f]
    · rw [if_neg (fun e => d e.1.2), if_pos c, if_neg d]
  · rw [if_neg (fun e => c e.1.1.2), if_neg c]
theorem chr_E (h : 128 ≤ (l.getD 0 0).toNat) (h' : (l.getD 0 0).toNat < 194 ∨ 244 < (l.getD 0 0).toNat) : chr l = 0 := by
  unfold chr
  rw [if_neg (by omega), if_neg (fun e => by have := e.1; omega), if_neg (fun e => by have := e.1.1; omega), if_neg (fun e => by have := e.1.1.1; omega)]
end
set_option maxHeartbeats 1000000 in
theorem in_any (l : List UInt8) (i : Int) (n lo hi : Nat) (hin : i = (n : Int)) (w : World) :
    Calls Tryz.prog 50 #[.string (mk l), .int .i64 i, .int .i64 lo, .int .i64 hi] w fun e w' => e = .returned (.bool (inn l n lo hi)) ∧ w = w' := by
  subst hin
  by_cases h : n < l.length
  · have hix : ∀ w, (Instr.index 9 (.string (mk l)) (.int .i64 (n : Int))).run Tryz.prog w = .ok (.int .u8 ((l.getD n 0).toNat : Nat)) w := fun w => run_idx w l .i64 n h
    have HE : Hid (inn l n lo hi = (decide (lo ≤ (l.getD n 0).toNat) && decide ((l.getD n 0).toNat ≤ hi))) := Lib.hid (by unfold inn; rw [decide_eq_true h]; rfl)
    have hb := (l.getD n 0).toNat_lt
    generalize (l.getD n 0).toNat = b at *
    generalize inn l n lo hi = r at *
    have hms := mk_size
    have hmt := mk_toList
    go_enter Tryz.func50, Tryz.ntmps50
    by_cases h1 : lo ≤ b
    · have h1' : (lo : Int) ≤ (b : Int) := by omega
      go_wp2
      all_goals go_ret
      all_goals refine ⟨ret_bool ?_, rfl⟩
      all_goals rw [HE.out, decide_eq_true h1, Bool.true_and]
      all_goals exact decide_eq_decide.2 (by omega)
    · have h1' : (b : Int) < (lo : Int) := by omega
      go_wp2
      all_goals go_ret
      all_goals refine ⟨ret_bool ?_, rfl⟩
      all_goals rw [HE.out, decide_eq_false h1, Bool.false_and]
  · have HE : Hid (inn l n lo hi = false) := Lib.hid (by unfold inn; rw [decide_eq_false h]; rfl)
    have h' : (l.length : Int) ≤ (n : Int) := by omega
    generalize inn l n lo hi = r at *
    have hms := mk_size
    have hmt := mk_toList
    go_enter Tryz.func50, Tryz.ntmps50
    go_wp2
    all_goals go_ret
    all_goals exact ⟨ret_bool HE.out.symm, rfl⟩
set_option maxHeartbeats 4000000 in
theorem character_any (l : List UInt8) (a : Nat) (ha : a < l.length) (hl : l.length ≤ 140737488351232) (w : World) :
    Calls Tryz.prog 30 #[.string (mk l), .int .i64 a] w fun e w' => e = .returned (.int .i64 (chr (l.drop a) : Nat)) ∧ w = w' := by
  have hix : ∀ w, (Instr.index 9 (.string (mk l)) (.int .i64 (a : Int))).run Tryz.prog w = .ok (.int .u8 ((l.getD a 0).toNat : Nat)) w := fun w => run_idx w l .i64 a ha
  have hb := (l.getD a 0).toNat_lt
  have hA := chr_A (l.drop a)
  have hB := chr_B (l.drop a)
  have hC := chr_C (l.drop a)
  have hD := chr_D (l.drop a)
  have hE := chr_E (l.drop a)
  simp only [drop_get, inn_drop l a _ _ _ (Nat.le_of_lt ha)] at hA hB hC hD hE
  generalize (l.getD a 0).toNat = c at *
  generalize chr (l.drop a) = r at *
  have hms := mk_size
  have hmt := mk_toList
  go_enter Tryz.func30, Tryz.ntmps30
  by_cases cA : c < 128
  · have HR : Hid (r = 1) := Lib.hid (hA cA)
    clear hA hB hC hD hE
    have g : (c : Int) < 128 := by omega
    go_wp2
    go_ret
    exact ⟨ret_num (by rw [HR.out]; rfl), rfl⟩
  by_cases cE : c < 194 ∨ 244 < c
  · have HR : Hid (r = 0) := Lib.hid (hE (by omega) cE)
    clear hA hB hC hD hE
    have g128 : (128 : Int) ≤ (c : Int) := by omega
    rcases cE with cE | cE
    · have k : (c : Int) < 194 := by omega
      have n224 : ((c : Int) == 224) = false := by rw [beq_eq_false_iff_ne]; omega
      have n237 : ((c : Int) == 237) = false := by rw [beq_eq_false_iff_ne]; omega
      have n240 : ((c : Int) == 240) = false := by rw [beq_eq_false_iff_ne]; omega
      have n244 : ((c : Int) == 244) = false := by rw [beq_eq_false_iff_ne]; omega
      have k2 : (c : Int) < 224 := by omega
      have k3 : (c : Int) < 240 := by omega
      go_wp2
      go_ret
      exact ⟨ret_num (by rw [HR.out]; rfl), rfl⟩
    · have g194 : (194 : Int) ≤ (c : Int) := by omega
      have k : (223 : Int) < (c : Int) := by omega
      have k2 : (239 : Int) < (c : Int) := by omega
      have k3 : (244 : Int) < (c : Int) := by omega
      have g224 : (224 : Int) ≤ (c : Int) := by omega
      have g240 : (240 : Int) ≤ (c : Int) := by omega
      have n224 : ((c : Int) == 224) = false := by rw [beq_eq_false_iff_ne]; omega
      have n237 : ((c : Int) == 237) = false := by rw [beq_eq_false_iff_ne]; omega
      have n240 : ((c : Int) == 240) = false := by rw [beq_eq_false_iff_ne]; omega
      have n244 : ((c : Int) == 244) = false := by rw [beq_eq_false_iff_ne]; omega
      go_wp2
      go_ret
      exact ⟨ret_num (by rw [HR.out]; rfl), rfl⟩
  by_cases cB : c ≤ 223
  · have HR := Lib.hid (hB (by omega) cB)
    clear hA hB hC hD hE
    have g128 : (128 : Int) ≤ (c : Int) := by omega
    have g194 : (194 : Int) ≤ (c : Int) := by omega
    have k223 : (c : Int) ≤ 223 := by omega
    have k2 : (c : Int) < 224 := by omega
    have k3 : (c : Int) < 240 := by omega
    have n224 : ((c : Int) == 224) = false := by rw [beq_eq_false_iff_ne]; omega
    have n237 : ((c : Int) == 237) = false := by rw [beq_eq_false_iff_ne]; omega
    have n240 : ((c : Int) == 240) = false := by rw [beq_eq_false_iff_ne]; omega
    have n244 : ((c : Int) == 244) = false := by rw [beq_eq_false_iff_ne]; omega
    go_wp2_with fail
    refine (in_any l _ (a + 1) 128 191 (by go_num) _).mono ?_
    rintro e w1 ⟨rfl, rfl⟩
    generalize inn l (a + 1) 128 191 = i1 at *
    cases i1 with
    | true =>
      go_wp2
      go_ret
      exact ⟨ret_num (by rw [HR.out]; rfl), rfl⟩
    | false =>
      go_wp2
      go_ret
      exact ⟨ret_num (by rw [HR.out]; rfl), rfl⟩
  by_cases cC : c ≤ 239
  · by_cases e1 : c = 224
    · have HR := Lib.hid (hC (by omega) cC 160 191 (by rw [if_pos e1]) (by rw [if_neg (by omega)]))
      clear hA hB hC hD hE
      have q : ((c : Int) == 224) = true := by rw [beq_iff_eq]; omega
      have e2 := Lib.hid e1
      have e3 : 224 ≤ c ∧ c ≤ 224 := by omega
      clear e1
      have g128 : (128 : Int) ≤ (c : Int) := by omega
      have g194 : (194 : Int) ≤ (c : Int) := by omega
      have g223 : (223 : Int) < (c : Int) := by omega
      have g224 : (224 : Int) ≤ (c : Int) := by omega
      have k239 : (c : Int) ≤ 239 := by omega
      have k3 : (c : Int) < 240 := by omega
      have n237 : ((c : Int) == 237) = false := by rw [beq_eq_false_iff_ne]; omega
      have n240 : ((c : Int) == 240) = false := by rw [beq_eq_false_iff_ne]; omega
      have n244 : ((c : Int) == 244) = false := by rw [beq_eq_false_iff_ne]; omega
      go_wp2_with fail
      refine (in_any l _ (a + 1) 160 191 (by go_num) _).mono ?_
      rintro e w1 ⟨rfl, rfl⟩
      generalize inn l (a + 1) 160 191 = i1 at *
      cases i1 with
      | true =>
        go_wp2_with fail
        refine (in_any l _ (a + 2) 128 191 (by go_num) _).mono ?_
        rintro e w1 ⟨rfl, rfl⟩
        generalize inn l (a + 2) 128 191 = i2 at *
        cases i2 with
        | true =>
          go_wp2
          go_ret
          exact ⟨ret_num (by rw [HR.out]; rfl), rfl⟩
        | false =>
          go_wp2
          go_ret
          exact ⟨ret_num (by rw [HR.out]; rfl), rfl⟩
      | false =>
        go_wp2
        go_ret
        exact ⟨ret_num (by rw [HR.out]; rfl), rfl⟩
    · by_cases e2 : c = 237
      · have HR := Lib.hid (hC (by omega) cC 128 159 (by rw [if_neg e1]) (by rw [if_pos e2]))
        clear hA hB hC hD hE
        have q : ((c : Int) == 237) = true := by rw [beq_iff_eq]; omega
        have e3 : 237 ≤ c ∧ c ≤ 237 := by omega
        clear e1 e2
        have g128 : (128 : Int) ≤ (c : Int) := by omega
        have g194 : (194 : Int) ≤ (c : Int) := by omega
        have g223 : (223 : Int) < (c : Int) := by omega
        have g224 : (224 : Int) ≤ (c : Int) := by omega
        have k239 : (c : Int) ≤ 239 := by omega
        have k3 : (c : Int) < 240 := by omega
        have n224 : ((c : Int) == 224) = false := by rw [beq_eq_false_iff_ne]; omega
        have n240 : ((c : Int) == 240) = false := by rw [beq_eq_false_iff_ne]; omega
        have n244 : ((c : Int) == 244) = false := by rw [beq_eq_false_iff_ne]; omega
        go_wp2_with fail
        refine (in_any l _ (a + 1) 128 159 (by go_num) _).mono ?_
        rintro e w1 ⟨rfl, rfl⟩
        generalize inn l (a + 1) 128 159 = i1 at *
        cases i1 with
        | true =>
          go_wp2_with fail
          refine (in_any l _ (a + 2) 128 191 (by go_num) _).mono ?_
          rintro e w1 ⟨rfl, rfl⟩
          generalize inn l (a + 2) 128 191 = i2 at *
          cases i2 with
          | true =>
            go_wp2
            go_ret
            exact ⟨ret_num (by rw [HR.out]; rfl), rfl⟩
          | false =>
            go_wp2
            go_ret
            exact ⟨ret_num (by rw [HR.out]; rfl), rfl⟩
        | false =>
          go_wp2
          go_ret
          exact ⟨ret_num (by rw [HR.out]; rfl), rfl⟩
      · have HR := Lib.hid (hC (by omega) cC 128 191 (by rw [if_neg e1]) (by rw [if_neg e2]))
        clear hA hB hC hD hE
        have g128 : (128 : Int) ≤ (c : Int) := by omega
        have g194 : (194 : Int) ≤ (c : Int) := by omega
        have g223 : (223 : Int) < (c : Int) := by omega
        have g224 : (224 : Int) ≤ (c : Int) := by omega
        have k239 : (c : Int) ≤ 239 := by omega
        have k3 : (c : Int) < 240 := by omega
        have n224 : ((c : Int) == 224) = false := by rw [beq_eq_false_iff_ne]; omega
        have n237 : ((c : Int) == 237) = false := by rw [beq_eq_false_iff_ne]; omega
        have n240 : ((c : Int) == 240) = false := by rw [beq_eq_false_iff_ne]; omega
        have n244 : ((c : Int) == 244) = false := by rw [beq_eq_false_iff_ne]; omega
        go_wp2_with fail
        refine (in_any l _ (a + 1) 128 191 (by go_num) _).mono ?_
        rintro e w1 ⟨rfl, rfl⟩
        generalize inn l (a + 1) 128 191 = i1 at *
        cases i1 with
        | true =>
          go_wp2_with fail
          refine (in_any l _ (a + 2) 128 191 (by go_num) _).mono ?_
          rintro e w1 ⟨rfl, rfl⟩
          generalize inn l (a + 2) 128 191 = i2 at *
          cases i2 with
          | true =>
            go_wp2
            go_ret
            exact ⟨ret_num (by rw [HR.out]; rfl), rfl⟩
          | false =>
            go_wp2
            go_ret
            exact ⟨ret_num (by rw [HR.out]; rfl), rfl⟩
        | false =>
          go_wp2
          go_ret
          exact ⟨ret_num (by rw [HR.out]; rfl), rfl⟩
  by_cases e1 : c = 240
  · have HR := Lib.hid (hD (by omega) (by omega) 144 191 (by rw [if_pos e1]) (by rw [if_neg (by omega)]))
    clear hA hB hC hD hE
    have q : ((c : Int) == 240) = true := by rw [beq_iff_eq]; omega
    have e3 : 240 ≤ c ∧ c ≤ 240 := by omega
    clear e1
    have g128 : (128 : Int) ≤ (c : Int) := by omega
    have g194 : (194 : Int) ≤ (c : Int) := by omega
    have g223 : (223 : Int) < (c : Int) := by omega
    have g224 : (224 : Int) ≤ (c : Int) := by omega
    have g239 : (239 : Int) < (c : Int) := by omega
    have g240 : (240 : Int) ≤ (c : Int) := by omega
    have k244 : (c : Int) ≤ 244 := by omega
    have n224 : ((c : Int) == 224) = false := by rw [beq_eq_false_iff_ne]; omega
    have n237 : ((c : Int) == 237) = false := by rw [beq_eq_false_iff_ne]; omega
    have n244 : ((c : Int) == 244) = false := by rw [beq_eq_false_iff_ne]; omega
    go_wp2_with fail
    refine (in_any l _ (a + 1) 144 191 (by go_num) _).mono ?_
    rintro e w1 ⟨rfl, rfl⟩
    generalize inn l (a + 1) 144 191 = i1 at *
    cases i1 with
    | true =>
      go_wp2_with fail
      refine (in_any l _ (a + 2) 128 191 (by go_num) _).mono ?_
      rintro e w1 ⟨rfl, rfl⟩
      generalize inn l (a + 2) 128 191 = i2 at *
      cases i2 with
      | true =>
        go_wp2_with fail
        refine (in_any l _ (a + 3) 128 191 (by go_num) _).mono ?_
        rintro e w1 ⟨rfl, rfl⟩
        generalize inn l (a + 3) 128 191 = i3 at *
        cases i3 with
        | true =>
          go_wp2
          go_ret
          exact ⟨ret_num (by rw [HR.out]; rfl), rfl⟩
        | false =>
          go_wp2
          go_ret
          exact ⟨ret_num (by rw [HR.out]; rfl), rfl⟩
      | false =>
        go_wp2
        go_ret
        exact ⟨ret_num (by rw [HR.out]; rfl), rfl⟩
    | false =>
      go_wp2
      go_ret
      exact ⟨ret_num (by rw [HR.out]; rfl), rfl⟩
  by_cases e2 : c = 244
  · have HR := Lib.hid (hD (by omega) (by omega) 128 143 (by rw [if_neg e1]) (by rw [if_pos e2]))
    clear hA hB hC hD hE
    have q : ((c : Int) == 244) = true := by rw [beq_iff_eq]; omega
    have e3 : 244 ≤ c ∧ c ≤ 244 := by omega
    clear e1 e2
    have g128 : (128 : Int) ≤ (c : Int) := by omega
    have g194 : (194 : Int) ≤ (c : Int) := by omega
    have g223 : (223 : Int) < (c : Int) := by omega
    have g224 : (224 : Int) ≤ (c : Int) := by omega
    have g239 : (239 : Int) < (c : Int) := by omega
    have g240 : (240 : Int) ≤ (c : Int) := by omega
    have k244 : (c : Int) ≤ 244 := by omega
    have n224 : ((c : Int) == 224) = false := by rw [beq_eq_false_iff_ne]; omega
    have n237 : ((c : Int) == 237) = false := by rw [beq_eq_false_iff_ne]; omega
    have n240 : ((c : Int) == 240) = false := by rw [beq_eq_false_iff_ne]; omega
    go_wp2_with fail
    refine (in_any l _ (a + 1) 128 143 (by go_num) _).mono ?_
    rintro e w1 ⟨rfl, rfl⟩
    generalize inn l (a + 1) 128 143 = i1 at *
    cases i1 with
    | true =>
      go_wp2_with fail
      refine (in_any l _ (a + 2) 128 191 (by go_num) _).mono ?_
      rintro e w1 ⟨rfl, rfl⟩
      generalize inn l (a + 2) 128 191 = i2 at *
      cases i2 with
      | true =>
        go_wp2_with fail
        refine (in_any l _ (a + 3) 128 191 (by go_num) _).mono ?_
        rintro e w1 ⟨rfl, rfl⟩
        generalize inn l (a + 3) 128 191 = i3 at *
        cases i3 with
        | true =>
          go_wp2
          go_ret
          exact ⟨ret_num (by rw [HR.out]; rfl), rfl⟩
        | false =>
          go_wp2
          go_ret
          exact ⟨ret_num (by rw [HR.out]; rfl), rfl⟩
      | false =>
        go_wp2
        go_ret
        exact ⟨ret_num (by rw [HR.out]; rfl), rfl⟩
    | false =>
      go_wp2
      go_ret
      exact ⟨ret_num (by rw [HR.out]; rfl), rfl⟩
  have HR := Lib.hid (hD (by omega) (by omega) 128 191 (by rw [if_neg e1]) (by rw [if_neg e2]))
  clear hA hB hC hD hE
  have g128 : (128 : Int) ≤ (c : Int) := by omega
  have g194 : (194 : Int) ≤ (c : Int) := by omega
  have g223 : (223 : Int) < (c : Int) := by omega
  have g224 : (224 : Int) ≤ (c : Int) := by omega
  have g239 : (239 : Int) < (c : Int) := by omega
  have g240 : (240 : Int) ≤ (c : Int) := by omega
  have k244 : (c : Int) ≤ 244 := by omega
  have n224 : ((c : Int) == 224) = false := by rw [beq_eq_false_iff_ne]; omega
  have n237 : ((c : Int) == 237) = false := by rw [beq_eq_false_iff_ne]; omega
  have n240 : ((c : Int) == 240) = false := by rw [beq_eq_false_iff_ne]; omega
  have n244 : ((c : Int) == 244) = false := by rw [beq_eq_false_iff_ne]; omega
  go_wp2_with fail
  refine (in_any l _ (a + 1) 128 191 (by go_num) _).mono ?_
  rintro e w1 ⟨rfl, rfl⟩
  generalize inn l (a + 1) 128 191 = i1 at *
  cases i1 with
  | true =>
    go_wp2_with fail
    refine (in_any l _ (a + 2) 128 191 (by go_num) _).mono ?_
    rintro e w1 ⟨rfl, rfl⟩
    generalize inn l (a + 2) 128 191 = i2 at *
    cases i2 with
    | true =>
      go_wp2_with fail
      refine (in_any l _ (a + 3) 128 191 (by go_num) _).mono ?_
      rintro e w1 ⟨rfl, rfl⟩
      generalize inn l (a + 3) 128 191 = i3 at *
      cases i3 with
      | true =>
        go_wp2
        go_ret
        exact ⟨ret_num (by rw [HR.out]; rfl), rfl⟩
      | false =>
        go_wp2
        go_ret
        exact ⟨ret_num (by rw [HR.out]; rfl), rfl⟩
    | false =>
      go_wp2
      go_ret
      exact ⟨ret_num (by rw [HR.out]; rfl), rfl⟩
  | false =>
    go_wp2
    go_ret
    exact ⟨ret_num (by rw [HR.out]; rfl), rfl⟩
set_option maxHeartbeats 1000000 in
theorem rwrong_any (l : List UInt8) (w : World) (hl : l.length ≤ 140737488351232) :
    Calls Tryz.prog 11 #[.string (mk l)] w fun e w' => e = .returned (.int .i64 (wrong l 0)) ∧ w = w' := by
  have hms := mk_size
  have hmt := mk_toList
  go_enter Tryz.func11, Tryz.ntmps11
  go_wp2
  go_loop [3] (fun v => ∃ a : Nat, a ≤ l.length ∧ v = .int .i64 a ∧ wrong (l.drop a) a = wrong l 0) (fun v => l.length - (intOf v).toNat)
  case atStart => exact ⟨0, by omega, rfl, rfl⟩
  case round =>
    obtain ⟨a, ha, rfl, hw⟩ := hrel
    have HW := Lib.hid hw
    clear hw
    by_cases hlt : a < l.length
    · have hne : l.drop a ≠ [] := fun e => by have := congrArg List.length e; rw [List.length_drop] at this; simp at this; omega
      have HC := Lib.hid (character_any l a hlt hl w)
      have hcl := chr_len _ hne
      rw [List.length_drop] at hcl
      by_cases hc : chr (l.drop a) = 0
      · have HE : Hid (wrong l 0 = a) := Lib.hid (by rw [← HW.out]; exact wrong_bad a hne hc)
        rw [hc] at HC
        clear hc hcl hne
        go_wp2_with fail
        refine HC.out.mono ?_
        rintro e w1 ⟨rfl, rfl⟩
        clear HC
        go_wp2
        go_ret
        exact ⟨ret_num HE.out.symm, rfl⟩
      · have HE : Hid (wrong (l.drop (a + chr (l.drop a))) (a + chr (l.drop a)) = wrong l 0) := Lib.hid (by rw [← HW.out, wrong_step a hne hc, List.drop_drop])
        generalize chr (l.drop a) = k at *
        have hk : ((k : Int) == 0) = false := by rw [beq_eq_false_iff_ne]; omega
        go_wp2_with fail
        refine HC.out.mono ?_
        rintro e w1 ⟨rfl, rfl⟩
        clear HC
        go_wp2
        go_round
        case rel => exact ⟨a + k, by omega, by go_num, HE.out⟩
        case measure => simp [intOf]; omega
    · obtain rfl : a = l.length := by omega
      have HE : Hid (wrong l 0 = -1) := Lib.hid (by rw [← HW.out, List.drop_length]; rfl)
      clear HW
      go_wp2
      go_ret
      exact ⟨ret_num HE.out.symm, rfl⟩
end Go.Proofs.YtkenananejgcpaaGreatDoor.Txt
