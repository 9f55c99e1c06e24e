/-
  What Text, Num, writeText and writeNumber do: a part, a part's bytes behind what the builder holds; nothing that was there before is changed.
-/
import Derived.Test.YtmbbfdiojcfamaaDoorUMem
import Derived.Lib.Replace
namespace Go.Proofs.YtmbbfdiojcfamaaDoor.Txt
open Go.RowKit Tup
set_option maxRecDepth 100000
/-- A part as a value; its cells. -/
def Pv (p : Pt) : Value := .agg #[.bool p.num, .int .i64 p.n, .string (mk p.t)]
def pc (p : Pt) : List Value := [.bool p.num, .int .i64 p.n, .string (mk p.t)]
set_option maxHeartbeats 1000000 in
theorem clone_any (l : List UInt8) (w : World) (hl : l.length ≤ 100000000) :
    Calls Tryd.prog 36 #[.string (mk l)] w fun e w' => e = .returned (.string (mk l)) ∧ Below w.heap.size w w' := by
  have HC := Lib.hid (clone_lib (mk l) w (by rw [mk_size]; omega))
  have hms := mk_size
  have hmt := mk_toList
  go_enter Tryd.func36, Tryd.ntmps36
  go_wp2_with fail
  refine HC.out.mono ?_
  rintro e w1 ⟨rfl, hb⟩
  have HB := Lib.hid hb
  clear hb HC
  go_wp2
  go_ret
  exact ⟨rfl, HB.out⟩
set_option maxHeartbeats 1000000 in
theorem text_any (l : List UInt8) (w : World) (hl : l.length ≤ 100000000) :
    Calls Tryd.prog 21 #[.string (mk l)] w fun e w' => e = .returned (Pv ⟨false, 0, l⟩) ∧ Below w.heap.size w w' := by
  have hms := mk_size
  have hmt := mk_toList
  go_enter Tryd.func21, Tryd.ntmps21
  go_wp2_with fail
  refine (clone_any l _ hl).mono ?_
  rintro e w1 ⟨rfl, hb⟩
  have HK := Lib.hid ((Blk.new w 33 #[.bool false, .int .i64 0, .string ⟨#[]⟩]).below hb (by simp))
  have HB : Hid (Below w.heap.size w w1) := Lib.hid (((Below.refl w.heap.size w).alloc (Nat.le_refl _) _).trans (hb.mono (by simp)))
  clear hb
  have c0 := HK.out.cell 0
  have c1 := HK.out.cell 1
  have c2 := HK.out.cell 2
  have f0 := HK.out.frozen 0
  have f1 := HK.out.frozen 1
  have f2 := HK.out.frozen 2
  go_wp2
  have qK := ((HK.out.put 0 (.bool false)).put 1 (.int .i64 0)).put 2 (.string (mk l))
  have q0 := qK.cell 0
  have q1 := qK.cell 1
  have q2 := qK.cell 2
  refine bodyPost_ret (v := .agg #[.bool false, .int .i64 0, .string (mk l)]) (by simp [results, Tryd.results21, go_sem, q0, q1, q2]) rfl ⟨rfl, ?_⟩
  exact ((HB.out.setCell (Nat.le_refl _) _).setCell (Nat.le_refl _) _).setCell (Nat.le_refl _) _
set_option maxHeartbeats 1000000 in
theorem num_any (n : Int) (w : World) :
    Calls Tryd.prog 22 #[.int .i64 n] w fun e w' => e = .returned (Pv ⟨true, n, []⟩) ∧ Below w.heap.size w w' := by
  go_enter Tryd.func22, Tryd.ntmps22
  have HK := Lib.hid (Blk.new w 33 #[.bool false, .int .i64 0, .string ⟨#[]⟩])
  have HB : Hid (Below w.heap.size w (w.alloc (.cells #[.bool false, .int .i64 0, .string ⟨#[]⟩] 33))) := Lib.hid ((Below.refl w.heap.size w).alloc (Nat.le_refl _) _)
  go_wp2
  refine bodyPost_ret (v := .agg #[.bool true, .int .i64 n, .string ⟨#[]⟩]) (by simp [results, Tryd.results22, go_sem]) rfl ⟨rfl, ?_⟩
  exact (Below.refl _ _).alloc (Nat.le_refl _) _
/-! ReplaceAll of the byte 0. -/
theorem index_cons (b c : UInt8) (l : List UInt8) : Lib.index (b :: l) [c] = if b = c then 0 else if Lib.index l [c] = -1 then -1 else Lib.index l [c] + 1 := by
  show (if ([c] : List UInt8).isPrefixOf (b :: l) = true then (0 : Int) else _) = _
  have : (([c] : List UInt8).isPrefixOf (b :: l)) = (c == b) := by simp [List.isPrefixOf]
  rw [this]
  by_cases h : b = c
  · subst h; simp
  · rw [if_neg h, if_neg (by simp; exact fun e => h e.symm)]
    by_cases h1 : Lib.index l [c] = -1
    · rw [if_pos h1, if_pos (by simp [h1])]
    · rw [if_neg h1, if_neg (by simp [h1])]
theorem index_one (c : UInt8) : ∀ l : List UInt8, (Lib.index l [c] = -1 ∧ c ∉ l) ∨ ∃ a b, l = a ++ c :: b ∧ c ∉ a ∧ Lib.index l [c] = (a.length : Nat)
  | [] => .inl ⟨rfl, by simp⟩
  | x :: l => by
    rw [index_cons]
    by_cases h : x = c
    · subst h
      exact .inr ⟨[], l, rfl, by simp, by simp⟩
    · rw [if_neg h]
      rcases index_one c l with ⟨h1, h2⟩ | ⟨a, b, rfl, h2, h3⟩
      · refine .inl ⟨by rw [if_pos h1], ?_⟩
        simp only [List.mem_cons, not_or]
        exact ⟨fun e => h e.symm, h2⟩
      · refine .inr ⟨x :: a, b, rfl, ?_, ?_⟩
        · simp only [List.mem_cons, not_or]
          exact ⟨fun e => h e.symm, h2⟩
        · rw [h3, if_neg (by omega), List.length_cons]; omega
theorem count_one (c : UInt8) : ∀ (n : Nat) (l : List UInt8), l.length ≤ n → Lib.count l [c] = l.count c
  | n, l, hn => by
    rcases index_one c l with ⟨h1, h2⟩ | ⟨a, b, hab, h2, h3⟩
    · rw [Lib.count_miss h1, List.count_eq_zero.2 h2]
    · have hl := congrArg List.length hab
      rw [List.length_append, List.length_cons] at hl
      cases n with
      | zero => omega
      | succ n =>
        rw [Lib.count_hit (by simp) h3]
        have hd : l.drop (a.length + [c].length) = b := by rw [hab, ← List.drop_drop, List.drop_left]; rfl
        rw [hd, count_one c n b (by omega), hab, List.count_append, List.count_eq_zero.2 h2, List.count_cons_self]
        omega
theorem replaceK_esc : ∀ (n : Nat) (l : List UInt8), l.length ≤ n → Lib.replaceK [0] [0, 255] (l.count 0) l = esc0 l
  | n, l, hn => by
    rcases index_one 0 l with ⟨h1, h2⟩ | ⟨a, b, hab, h2, h3⟩
    · rw [List.count_eq_zero.2 h2, Lib.replaceK, esc0_none l h2]
    · have hl := congrArg List.length hab
      rw [List.length_append, List.length_cons] at hl
      cases n with
      | zero => omega
      | succ n =>
        have hc : l.count 0 = b.count 0 + 1 := by rw [hab, List.count_append, List.count_eq_zero.2 h2, List.count_cons_self]; omega
        have hd : l.drop (a.length + ([0] : List UInt8).length) = b := by rw [hab, ← List.drop_drop, List.drop_left]; rfl
        rw [hc, Lib.replaceK_hit _ _ _ _ _ h3, hd, replaceK_esc n b (by omega)]
        rw [hab, List.take_left, esc0_append, esc0_none a h2, esc0_cons]
        simp [esc1]
theorem replaceAll_esc (l : List UInt8) : Lib.replaceAll l [0] [0, 255] = esc0 l := by
  unfold Lib.replaceAll Lib.replace
  rw [if_neg (by decide)]
  unfold Lib.replaceNum
  rw [if_pos (.inl (by decide)), count_one 0 _ l (Nat.le_refl _), replaceK_esc _ l (Nat.le_refl _)]
theorem replace_any (l : List UInt8) (w : World) (hm : Mx w) (hl : l.length ≤ 10000000) :
    Calls Tryd.prog 37 #[.string (mk l), .string ⟨#[0]⟩, .string ⟨#[0, 255]⟩] w fun e w' => e = .returned (.string (mk (esc0 l))) ∧ Below w.heap.size w w' := by
  have hc : Lib.countB (mk l) ⟨#[0]⟩ ≤ l.length := by
    show Lib.count (mk l).data.toList [0] ≤ _
    rw [mk_data, count_one 0 _ l (Nat.le_refl _)]
    exact List.count_le_length
  refine (replaceAll_lib (mk l) ⟨#[0]⟩ ⟨#[0, 255]⟩ w (by rw [mk_size]; omega) hm (by decide) ?_).mono ?_
  · show (mk l).size + _ * 2 ≤ _
    rw [mk_size]
    omega
  · rintro e w' ⟨rfl, hb⟩
    refine ⟨?_, hb⟩
    rw [mk_data]
    show Ending.returned (.string ⟨(Lib.replaceAll l [0] [0, 255]).toArray⟩) = _
    rw [replaceAll_esc]
    rfl
set_option maxHeartbeats 1000000 in
theorem writeText_any (B b : Nat) (l o : List UInt8) (w : World) (hI : BldF w B b o) (hBw : B ≤ w.heap.size) (h2 : 2 ≤ B) (hm : Mx w) (hlen : o.length + 2 * l.length ≤ 10000000) :
    Calls Tryd.prog 24 #[.pointer (some ⟨b, 0, none⟩), .string (mk l)] w fun e w' => e = .returned (.tuple #[]) ∧ BldF w' B b (o ++ (1 :: (esc0 l ++ [0, 0]))) ∧ Below B w w' := by
  have HI0 := Lib.hid hI
  have HM := Lib.hid hm
  clear hI hm
  have hel := esc0_len l
  have hms := mk_size
  have hmt := mk_toList
  go_enter Tryd.func24, Tryd.ntmps24
  go_wp2_with fail
  refine (writeK_at B b o 1 _ rfl _ HI0.out (by omega) hBw).mono ?_
  rintro e w1 ⟨rfl, hI1, hb1⟩
  have HI1 := Lib.hid hI1
  have HB1 := Lib.hid hb1
  have hz1 := hb1.below.size
  clear hI1 hb1 HI0
  go_wp2_with fail
  refine (replace_any l _ (HM.out.below HB1.out.below h2) (by omega)).mono ?_
  rintro e w2 ⟨rfl, hb2⟩
  have hz2 := hb2.size
  have HI2 := Lib.hid (HI1.out.below hb2)
  have HB2 : Hid (Below B w w2) := Lib.hid (HB1.out.below.trans (hb2.mono (by omega)))
  clear hb2 HI1 HB1
  go_wp2_with fail
  refine (writeS_at B b _ (esc0 l) _ HI2.out (by rw [List.length_append, List.length_singleton]; omega) (by omega)).mono ?_
  rintro e w3 ⟨rfl, hI3, hb3⟩
  have HI3 := Lib.hid hI3
  have HB3 : Hid (Below B w w3) := Lib.hid (HB2.out.trans hb3.below)
  have hz3 := HB3.out.size
  clear hI3 hb3 HI2 HB2
  go_wp2_with fail
  refine (writeS_at B b _ [0, 0] _ HI3.out (by rw [List.length_append, List.length_append, List.length_singleton, List.length_cons, List.length_singleton]; omega) (by omega)).mono ?_
  rintro e w4 ⟨rfl, hI4, hb4⟩
  have HI4 := Lib.hid hI4
  have HB4 : Hid (Below B w w4) := Lib.hid (HB3.out.trans hb4.below)
  clear hI4 hb4 HI3 HB3
  go_wp2
  go_end0
  refine ⟨rfl, ?_, HB4.out⟩
  have := HI4.out
  simpa using this
/-! A number's bytes. -/
theorem shr_byte (D : Nat) (k : Nat) : IntKind.u8.wrap ((D : Int) / (256 ^ k : Nat)) = ((UInt8.ofNat (D / 256 ^ k)).toNat : Nat) := by
  rw [IntKind.wrap_u8, ← Int.natCast_ediv]
  simp only [UInt8.toNat_ofNat']
  omega
set_option maxHeartbeats 2000000 in
theorem writeNumber_any (B b : Nat) (n : Int) (hn : -9223372036854775808 ≤ n ∧ n ≤ 9223372036854775807) (o : List UInt8) (w : World) (hI : BldF w B b o) (hBw : B ≤ w.heap.size) (hlen : o.length ≤ 10000000) :
    Calls Tryd.prog 23 #[.pointer (some ⟨b, 0, none⟩), .int .i64 n] w fun e w' => e = .returned (.tuple #[]) ∧ BldF w' B b (o ++ (2 :: be 8 (n + 9223372036854775808).toNat)) ∧ Below B w w' := by
  have HI0 := Lib.hid hI
  obtain ⟨D, hD⟩ : ∃ D : Nat, (n + 9223372036854775808).toNat = D := ⟨_, rfl⟩
  have hDn : (D : Int) = n + 9223372036854775808 := by omega
  have hDlt : (D : Int) < 18446744073709551616 := by omega
  rw [hD]
  have hw1 : IntKind.u64.wrap (IntKind.u64.wrap n + 9223372036854775808) = (D : Int) := by rw [IntKind.wrap_u64, IntKind.wrap_u64]; omega
  have HDn := Lib.hid hDn
  clear hI hDn hn hD
  have hms := mk_size
  have hmt := mk_toList
  go_enter Tryd.func23, Tryd.ntmps23
  go_wp2_with fail
  refine (writeK_at B b o 2 _ rfl _ HI0.out (by omega) hBw).mono ?_
  rintro e w1 ⟨rfl, hI1, hb1⟩
  have HI1 := Lib.hid hI1
  have HB1 : Hid (Below B w w1) := Lib.hid hb1.below
  have hz1 := hb1.below.size
  clear hI1 hb1 HI0
  go_wp2
  go_loopw [11] (fun v wr => ∃ k : Nat, k ≤ 8 ∧ v = .int .i64 k ∧ BldF wr B b (o ++ (2 :: (be 8 D).take k)) ∧ Below B w wr) (fun v _ => 8 - (intOf v).toNat)
  case atStart => exact ⟨0, by omega, rfl, by simpa using HI1.out, HB1.out⟩
  case round =>
    obtain ⟨k, hk, rfl, hI, hb⟩ := hrel
    have HI := Lib.hid hI
    have HB := Lib.hid hb
    have hz := hb.size
    clear hI hb HI1 HB1
    have hll := be_length 8 D
    by_cases hlt : k < 8
    · have HN : Hid (o ++ 2 :: (be 8 D).take (k + 1) = (o ++ 2 :: (be 8 D).take k) ++ [UInt8.ofNat (D / 256 ^ (7 - k))]) := Lib.hid (by
        rw [take_snoc _ k (by omega), be_getD 8 D k hlt, List.append_assoc]
        rfl)
      have hol : (o ++ 2 :: (be 8 D).take k).length ≤ 10000009 := by
        rw [List.length_append, List.length_cons, List.length_take]; omega
      generalize o ++ 2 :: (be 8 D).take k = p at *
      obtain ⟨q, hq⟩ : ∃ q, q = k + 1 := ⟨_, rfl⟩
      rw [← hq] at HN
      have HQ := Lib.hid hq
      obtain ⟨p', hp'⟩ : ∃ p', p' = o ++ 2 :: (be 8 D).take q := ⟨_, rfl⟩
      rw [← hp'] at HN
      have HP := Lib.hid hp'
      clear hq hp'
      have hsh := shr_byte D (7 - k)
      generalize hx : UInt8.ofNat (D / 256 ^ (7 - k)) = x at *
      rcases (by omega : k = 0 ∨ k = 1 ∨ k = 2 ∨ k = 3 ∨ k = 4 ∨ k = 5 ∨ k = 6 ∨ k = 7) with rfl | rfl | rfl | rfl | rfl | rfl | rfl | rfl
      all_goals (
        clear hx hll hk hlt
        have hs2 := hsh
        rw [IntKind.wrap_u8] at hs2
        simp only [Nat.reduceSub, Nat.reducePow] at hs2
        have HS := Lib.hid hs2
        clear hs2 hsh
        go_wp2_with fail
        refine (writeK_at B b p x _ ?_ _ HI.out (by omega) (by omega)).mono ?_
        · have := HS.out
          first | omega | (rw [IntKind.wrap_u8]; omega)
        rintro e w2 ⟨rfl, hI2, hb2⟩
        have HI2 : Hid (BldF w2 B b p') := Lib.hid (by rw [HN.out]; exact hI2)
        have HB2 : Hid (Below B w w2) := Lib.hid (HB.out.trans hb2.below)
        clear hI2 hb2
        go_wp2
        go_roundw
        case rel => exact ⟨q, by have := HQ.out; omega, by rw [HQ.out]; rfl, by rw [← HP.out]; exact HI2.out, HB2.out⟩
        case measure => simp [intOf])
    · obtain rfl : k = 8 := by omega
      rw [List.take_of_length_le (by omega)] at HI
      rw [show ((8 : Nat) : Int) = (8 : Int) from rfl]
      go_wp2
      go_end0
      exact ⟨rfl, HI.out, HB.out⟩
end Go.Proofs.YtmbbfdiojcfamaaDoor.Txt
