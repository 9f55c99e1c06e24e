/-
  The text of a number: what fits behind what, how far a text begins so, and whether it is one.
-/
import Derived.Test.YtkenananejgcpaaGreatDoorTMem
import Derived.Laws.RangeAny
import Derived.Laws.RangeString
namespace Go.Proofs.YtkenananejgcpaaGreatDoor.Jsn
open Go.RowKit Txt
def ifd (r : Int) (t : Nat) : Nat := if 48 ≤ r ∧ r ≤ 57 then t else 9
/-- What r is behind what was read last; 9: it does not fit. -/
def nxt (st : Nat) (r : Int) : Nat :=
  if st = 0 ∨ st = 1 then (if r = 45 ∧ st = 0 then 1 else if r = 48 then 2 else ifd r 3)
  else if st = 2 ∨ st = 3 ∨ st = 5 then (if r = 46 ∧ st ≠ 5 then 4 else if r = 101 ∨ r = 69 then 6 else if st = 2 then 9 else ifd r st)
  else if st = 4 then ifd r 5
  else if st = 6 ∧ (r = 43 ∨ r = 45) then 7
  else ifd r 8
def mayEnd (st : Nat) : Bool := st == 2 || st == 3 || st == 5 || st == 8
/-- How far a text goes on so, and whether it may end there. -/
def nend : List UInt8 → Nat → Nat × Bool
  | [], st => (0, mayEnd st)
  | b :: l, st => if nxt st (b.toNat : Nat) = 9 then (0, mayEnd st) else ((nend l (nxt st (b.toNat : Nat))).1 + 1, (nend l (nxt st (b.toNat : Nat))).2)
def isNum (l : List UInt8) : Bool := (nend l 0).2 && (nend l 0).1 == l.length
theorem nxt_high (st : Nat) {r : Int} (h : 128 ≤ r) : nxt st r = 9 := by
  unfold nxt ifd
  repeat' split
  all_goals omega
theorem iter_below (w : World) (s : ByteArray) (p : Nat) : Below w.heap.size w (w.iter s p) := (Below.refl _ w).alloc (Nat.le_refl _) _
set_option maxRecDepth 100000
set_option maxHeartbeats 1000000 in
theorem ifDigit_any (r : Int) (t : Nat) (w : World) : Calls Tryz.prog 90 #[.int .i32 r, .int .i64 t] w fun e w' => e = .returned (.int .i64 (ifd r t : Nat)) ∧ w' = w := by
  go_enter Tryz.func90, Tryz.ntmps90
  go_wp2
  all_goals go_ret
  all_goals refine ⟨ret_num ?_, rfl⟩
  all_goals unfold ifd
  all_goals split <;> omega
set_option maxHeartbeats 4000000 in
theorem after_any (st : Nat) (hs : st < 9) (r : Int) (w : World) : Calls Tryz.prog 64 #[.int .i64 st, .int .i32 r] w fun e w' => e = .returned (.int .i64 (nxt st r : Nat)) ∧ w' = w := by
  have hcase : st = 0 ∨ st = 1 ∨ st = 2 ∨ st = 3 ∨ st = 4 ∨ st = 5 ∨ st = 6 ∨ st = 7 ∨ st = 8 := by omega
  clear hs
  rcases hcase with rfl | rfl | rfl | rfl | rfl | rfl | rfl | rfl | rfl
  all_goals
    go_enter Tryz.func64, Tryz.ntmps64
    go_wp2
    all_goals go_ret
    all_goals refine ⟨ret_num ?_, rfl⟩
    all_goals unfold nxt ifd
    all_goals (repeat' split) <;> first | omega | (simp only [beq_iff_eq, beq_eq_false_iff_ne] at *; omega) | simp_all
set_option maxHeartbeats 1000000 in
theorem mayEnd_any (st : Nat) (w : World) : Calls Tryz.prog 65 #[.int .i64 st] w fun e w' => e = .returned (.bool (mayEnd st)) ∧ w' = w := by
  have hb : ∀ k : Nat, ((st : Int) == (k : Int)) = (st == k) := fun k => by
    rw [Bool.eq_iff_iff, beq_iff_eq, beq_iff_eq]
    omega
  have h2 : ((st : Int) == (2 : Int)) = (st == 2) := hb 2
  have h3 : ((st : Int) == (3 : Int)) = (st == 3) := hb 3
  have h5 : ((st : Int) == (5 : Int)) = (st == 5) := hb 5
  have h8 : ((st : Int) == (8 : Int)) = (st == 8) := hb 8
  clear hb
  have HM : Hid (mayEnd st = (st == 2 || st == 3 || st == 5 || st == 8)) := Lib.hid rfl
  generalize (st == 2) = a at *
  generalize (st == 3) = b at *
  generalize (st == 5) = c at *
  generalize (st == 8) = d at *
  generalize mayEnd st = m at *
  cases a <;> cases b <;> cases c <;> cases d
  all_goals
    obtain rfl := HM.out
    clear HM
    go_enter Tryz.func65, Tryz.ntmps65
    go_wp2
    go_ret
    exact ⟨rfl, rfl⟩
theorem nxt_lt (st : Nat) (hs : st < 9) (r : Int) (h : nxt st r ≠ 9) : nxt st r < 9 := by
  unfold nxt ifd at *
  repeat' split
  all_goals (repeat' split at h)
  all_goals omega
theorem nend_len (l : List UInt8) : ∀ st, (nend l st).1 ≤ l.length := by
  induction l with
  | nil => intro st; simp [nend]
  | cons b l ih => intro st; have := ih (nxt st (b.toNat : Nat)); unfold nend; split <;> simp; omega
set_option maxHeartbeats 2000000 in
/-- How far a text begins as a number's. -/
theorem numberEnd_any (l : List UInt8) (w : World) (hl : l.length ≤ 140737488351232) : Calls Tryz.prog 40 #[.string (mk l)] w fun e w' => e = .returned (.tuple #[.int .i64 ((nend l 0).1 : Nat), .bool (nend l 0).2]) ∧ Below w.heap.size w w' := by
  have hms := mk_size
  have hmt := mk_toList
  go_enter Tryz.func40, Tryz.ntmps40
  go_wp2
  go_loopw [4] (fun v wr => ∃ (a st : Nat), v = .int .i64 st ∧ st < 9 ∧ a ≤ l.length ∧ wr = w.iter (mk l) a ∧ nend l 0 = ((nend (l.drop a) st).1 + a, (nend (l.drop a) st).2)) (fun _ wr => l.length - wr.iterPos w.heap.size)
  case atStart => exact ⟨0, 0, rfl, by omega, by omega, rfl, by simp⟩
  case round =>
    obtain ⟨a, st, rfl, hst, ha, rfl, hE⟩ := hrel
    have HE := Lib.hid hE
    clear hE
    have hit := fun p : Nat => World.iterPos_iter w (mk l) p
    by_cases hlt : a < l.length
    · have hnx := fun ty => run_next_any (P := Tryz.prog) w (mk l) a ty (by rw [mk_size]; exact hlt)
      obtain ⟨b, hb⟩ : ∃ b, b = l.getD a 0 := ⟨_, rfl⟩
      have hdrop : l.drop a = b :: l.drop (a + 1) := by
        rw [hb, List.getD_eq_getElem?_getD, List.getElem?_eq_getElem hlt, Option.getD_some]
        exact List.drop_eq_getElem_cons hlt
      have hgb : (mk l)[a]'(by rw [mk_size]; exact hlt) = b := by rw [hb]; exact get_mk l a hlt
      have HS := HE.out
      rw [hdrop] at HS
      have HSS := Lib.hid HS
      clear HS
      have hC := fun w r => Lib.hid (after_any st hst r w)
      have hM := fun w => Lib.hid (mayEnd_any st w)
      by_cases hlow : b.toNat < 128
      · have hdec := decode_ascii (mk l) a (by rw [mk_size]; exact hlt) (by rw [hgb]; exact hlow)
        rw [hgb] at hdec
        rw [hdec] at hnx
        by_cases h9 : nxt st (b.toNat : Nat) = 9
        · have HF : Hid (nend l 0 = (a, mayEnd st)) := Lib.hid (by rw [HSS.out]; unfold nend; rw [if_pos h9]; simp)
          clear hdec hgb hdrop hb
          have HC := Lib.hid (hC (w.iter (mk l) (a + 1)) (b.toNat : Nat)).out
          rw [h9] at HC
          go_wp2_with fail
          refine HC.out.mono ?_
          rintro e w1 ⟨rfl, rfl⟩
          go_wp2_with fail
          refine (hM _).out.mono ?_
          rintro e w1 ⟨rfl, rfl⟩
          go_wp2
          go_ret2
          exact ⟨by rw [HF.out]; rfl, iter_below _ _ _⟩
        · have h9' := nxt_lt st hst _ h9
          have HF : Hid (nend l 0 = ((nend (l.drop (a + 1)) (nxt st (b.toNat : Nat))).1 + (a + 1), (nend (l.drop (a + 1)) (nxt st (b.toNat : Nat))).2)) := Lib.hid (by
            rw [HSS.out]; conv => lhs; unfold nend
            rw [if_neg h9]; simp; omega)
          clear hdec hgb hdrop hb
          have HC := Lib.hid (hC (w.iter (mk l) (a + 1)) (b.toNat : Nat)).out
          generalize nxt st (b.toNat : Nat) = st' at *
          have e9 : ((st' : Int) == 9) = false := by rw [beq_eq_false_iff_ne]; omega
          go_wp2_with fail
          refine HC.out.mono ?_
          rintro e w1 ⟨rfl, rfl⟩
          go_wp2
          go_roundw
          case rel => exact ⟨a + 1, st', rfl, h9', by omega, rfl, HF.out⟩
          case measure => rw [hit, hit]; omega
      · have hdec := decode_high (mk l) a (by rw [mk_size]; exact hlt) (by rw [hgb]; omega)
        have h9 := nxt_high st (r := (b.toNat : Nat)) (by omega)
        have HF : Hid (nend l 0 = (a, mayEnd st)) := Lib.hid (by rw [HSS.out]; unfold nend; rw [if_pos h9]; simp)
        clear hgb hdrop hb h9
        generalize Utf8.decode (mk l) a = d at *
        obtain ⟨r, z⟩ := d
        have h9 := nxt_high st (r := (r : Nat)) (by have := hdec.1; simp only at this; omega)
        simp only at hnx
        have HC := Lib.hid (hC (w.iter (mk l) (a + z)) (r : Nat)).out
        rw [h9] at HC
        clear hdec h9
        go_wp2_with fail
        refine HC.out.mono ?_
        rintro e w1 ⟨rfl, rfl⟩
        go_wp2_with fail
        refine (hM _).out.mono ?_
        rintro e w1 ⟨rfl, rfl⟩
        go_wp2
        go_ret2
        exact ⟨by rw [HF.out]; rfl, iter_below _ _ _⟩
    · obtain rfl : a = l.length := by omega
      have hnx := fun ty => run_next_end (P := Tryz.prog) w (mk l) l.length ty (by rw [mk_size]; omega)
      have HF : Hid (nend l 0 = (l.length, mayEnd st)) := Lib.hid (by rw [HE.out, List.drop_length]; simp [nend])
      have hM := fun w => Lib.hid (mayEnd_any st w)
      go_wp2_with fail
      refine (hM _).out.mono ?_
      rintro e w1 ⟨rfl, rfl⟩
      go_wp2
      go_ret2
      exact ⟨by rw [HF.out]; rfl, iter_below _ _ _⟩
set_option maxHeartbeats 1000000 in
theorem isNumber_any (l : List UInt8) (w : World) (hl : l.length ≤ 140737488351232) : Calls Tryz.prog 23 #[.string (mk l)] w fun e w' => e = .returned (.bool (isNum l)) ∧ Below w.heap.size w w' := by
  have HC := Lib.hid (numberEnd_any l w hl)
  have hms := mk_size
  have hmt := mk_toList
  have HN : Hid (isNum l = ((nend l 0).2 && (nend l 0).1 == l.length)) := Lib.hid rfl
  generalize nend l 0 = d at *
  obtain ⟨a, b⟩ := d
  have hb : ((a : Int) == (l.length : Int)) = (a == l.length) := by rw [Bool.eq_iff_iff, beq_iff_eq, beq_iff_eq]; omega
  generalize (a == l.length) = c at *
  cases b <;> cases c
  all_goals
    go_enter Tryz.func23, Tryz.ntmps23
    go_wp2_with fail
    refine HC.out.mono ?_
    rintro e w1 ⟨rfl, HB⟩
    go_wp2
    go_ret
    exact ⟨by rw [HN.out]; rfl, HB⟩
end Go.Proofs.YtkenananejgcpaaGreatDoor.Jsn
