/-
  What decode does: the bytes of which these are the letters, in a row of their own, or none; nothing that was there before is changed.
-/
import Derived.Test.YtcpifencjmlhaaaDoorQ2
import Derived.OwnWalk
namespace Go.Proofs.YtcpifencjmlhaaaDoor.B64
open Go.RowKit
/-- The number of a letter in an alphabet; -1: it has none. -/
def ixI (al : List Nat) (c : Nat) : Int := Lib.indexByte (al.map UInt8.ofNat) (UInt8.ofNat c)
theorem index_lt (l : List UInt8) (c : UInt8) : Lib.indexByte l c < l.length := by
  induction l with
  | nil => show (-1 : Int) < 0; decide
  | cons b l ih =>
    unfold Lib.indexByte
    rw [List.length_cons]
    split
    · omega
    · split <;> omega
theorem ixI_lt (al : List Nat) (c : Nat) : ixI al c < al.length := by
  have := index_lt (al.map UInt8.ofNat) (UInt8.ofNat c)
  rw [List.length_map] at this
  exact this
/-- All are letters. -/
def AllIn (al l : List Nat) : Prop := ∀ c ∈ l, 0 ≤ ixI al c
def nums (al l : List Nat) : List Nat := l.map fun c => (ixI al c).toNat
theorem nums_Ls {al : List Nat} (h : al.length = 64) (l : List Nat) : Ls (nums al l) := fun x hx => by
  simp only [nums, List.mem_map] at hx
  obtain ⟨c, _, rfl⟩ := hx
  have := ixI_lt al c
  omega
theorem nums_length (al l : List Nat) : (nums al l).length = l.length := by simp [nums]
instance (al l : List Nat) : Decidable (AllIn al l) := inferInstanceAs (Decidable (∀ c ∈ l, 0 ≤ ixI al c))
/-- The bytes of which these are the letters, if there are any. -/
def decO (al l : List Nat) : Option (List Nat) := if AllIn al l then dec (nums al l) else none
theorem nums_snoc (al l : List Nat) (k : Nat) (h : k < l.length) : nums al (l.take (k + 1)) = nums al (l.take k) ++ [(ixI al (l.getD k 0)).toNat] := by
  rw [List.take_add_one, List.getElem?_eq_getElem h, Option.toList_some, List.getD_eq_getElem?_getD, List.getElem?_eq_getElem h, Option.getD_some]
  unfold nums
  rw [List.map_append, List.map_cons, List.map_nil]
theorem AllIn.snoc {al l : List Nat} {k : Nat} (h : k < l.length) (ha : AllIn al (l.take k)) (hx : 0 ≤ ixI al (l.getD k 0)) : AllIn al (l.take (k + 1)) := by
  rw [List.getD_eq_getElem?_getD, List.getElem?_eq_getElem h, Option.getD_some] at hx
  rw [List.take_add_one, List.getElem?_eq_getElem h, Option.toList_some]
  intro c hc
  rcases List.mem_append.1 hc with hc | hc
  · exact ha c hc
  · rw [List.mem_singleton] at hc; rw [hc]; exact hx
theorem notIn {al l : List Nat} {k : Nat} (h : k < l.length) (hx : ixI al (l.getD k 0) < 0) : ¬ AllIn al l := fun ha => by
  rw [List.getD_eq_getElem?_getD, List.getElem?_eq_getElem h, Option.getD_some] at hx
  have := ha _ (List.getElem_mem h)
  omega
theorem drun_append (s : St) (l m : List Nat) : drun s (l ++ m) = drun (drun s l) m := by unfold drun; rw [List.foldl_append]
theorem or6 (B v : Nat) (hv : v < 64) : bits .or .u32 ((B : Int) * 64 % 4294967296) (v : Int) = (((B * 64 + v) % 4294967296 : Nat) : Int) := by
  rw [show (B : Int) * 64 % 4294967296 = ((B * 64 % 4294967296 : Nat) : Int) by omega]
  rw [u32_or_nat _ _ (Nat.mod_lt _ (by decide)) (by omega)]
  congr 1
  have := Nat.two_pow_add_eq_or_of_lt (i := 6) (b := v) hv (B % 67108864)
  rw [show 2 ^ 6 * (B % 67108864) = B * 64 % 4294967296 by omega] at this
  omega
theorem dstep_len (s : St) (v : Nat) : (dstep s v).out.length ≤ s.out.length + 1 := by
  unfold dstep
  split
  · simp
  · simp
/-- What is answered: the bytes, in a row of one's own, or ErrForm beside none. -/
def Told (w : World) (base : Nat) (o : Option (List Nat)) (e : Ending) : Prop := match o with
  | some d => ∃ v, e = .returned (.tuple #[v, .int .i64 0]) ∧ Own w base v d
  | none => e = .returned (.tuple #[.slice none 0 0, .int .i64 10])
set_option maxRecDepth 100000
set_option maxHeartbeats 1000000 in
theorem decode_any (w : World) (cs al : List Nat) (hb : Bs cs) (hal : al.length = 64) (hab : Bs al) (hm : cs.length ≤ 1000000) :
    Calls Tryd.prog 14 #[.string (str cs), .string (str al)] w fun e w' => Told w' w.heap.size (decO al cs) e ∧ Below w.heap.size w w' := by
  obtain ⟨i0, hi0, hz0, hz1, hz2⟩ := info_parts info5
  have HBs := Lib.hid hb
  have HAL := Lib.hid hal
  have HAB := Lib.hid hab
  have hsz := str_size cs
  clear hb hal hab
  generalize hS : str al = sal
  have HS := Lib.hid hS
  generalize hT : str cs = scs at *
  have HT := Lib.hid hT
  clear hS hT
  go_enter Tryd.func14, Tryd.ntmps14
  go_wp2_with fail
  refine (byteCount_any cs.length _ (by omega)).mono ?_
  rintro e w1 ⟨⟨m, hmn, rfl⟩, rfl⟩
  go_wp2_with (at_make; refine wpList_make_own _ rfl _ _ 22 rfl w.heap.size 5 i0 _ 1 Tryd.underlying22 hi0 hz0 hz1 _ _ _ m rfl rfl rfl (by rw [hz2]; omega) (by unfold maxLen; omega) (Nat.le_refl _) ?_; intro w2 hown2 hgrow2)
  have HO : Hid (Own w2 w.heap.size (.slice (some ⟨w.heap.size, 0, none⟩) 0 m) []) := Lib.hid hown2
  have HB : Hid (Below w.heap.size w w2) := Lib.hid ((Below.refl _ _).grown hgrow2 (Nat.le_refl _) (fun k hk => by cases hk))
  clear hown2 hgrow2
  go_loopw [6, 7, 8, 17] (fun v b h i wr => ∃ k : Nat, k ≤ cs.length ∧ i = .int .i64 k ∧ AllIn al (cs.take k) ∧ b = .int .u32 ((drun ⟨[], 0, 0⟩ (nums al (cs.take k))).B : Nat) ∧ h = .int .u64 ((drun ⟨[], 0, 0⟩ (nums al (cs.take k))).h : Nat) ∧ (drun ⟨[], 0, 0⟩ (nums al (cs.take k))).out.length ≤ k ∧ Own wr w.heap.size v (drun ⟨[], 0, 0⟩ (nums al (cs.take k))).out ∧ Below w.heap.size w wr) (fun _ _ _ i _ => cs.length - (intOf i).toNat)
  case atStart => exact ⟨0, by omega, rfl, (fun c hc => by cases hc), rfl, rfl, by simp [nums, drun_nil], HO.out, HB.out⟩
  case round =>
    obtain ⟨k, hk, rfl, hall, rfl, rfl, hlen, hO, hbel⟩ := hrel
    clear HO HB
    have hheld : DHeld (drun ⟨[], 0, 0⟩ (nums al (cs.take k))) := drun_held _ _ ⟨.inl rfl, by decide⟩
    have HO := Lib.hid hO
    have HB := Lib.hid hbel
    have HA := Lib.hid hall
    clear hO hbel hall
    by_cases hlt : k < cs.length
    · have hx := HBs.out.getD k
      have hix : ∀ w, (Instr.index 9 (.string scs) (.int .i64 (k : Int))).run Tryd.prog w = .ok (.int .u8 (cs.getD k 0 : Nat)) w := fun w => by rw [← HT.out]; exact run_idx w cs HBs.out .i64 k hlt
      have HN : Hid (drun ⟨[], 0, 0⟩ (nums al (cs.take (k + 1))) = dstep (drun ⟨[], 0, 0⟩ (nums al (cs.take k))) (ixI al (cs.getD k 0)).toNat) := Lib.hid (by rw [nums_snoc al cs k hlt, drun_append]; rfl)
      have HX : Hid (0 ≤ ixI al (cs.getD k 0) → AllIn al (cs.take (k + 1))) := Lib.hid (HA.out.snoc hlt)
      have HY : Hid (ixI al (cs.getD k 0) < 0 → ¬ AllIn al cs) := Lib.hid (notIn hlt)
      have hil := ixI_lt al (cs.getD k 0)
      rw [HAL.out] at hil
      generalize drun ⟨[], 0, 0⟩ (nums al (cs.take k)) = st at *
      generalize hxx : cs.getD k 0 = x at *
      have HI : Hid (∀ w, Calls Tryd.prog 29 #[.string sal, .int .u8 (x : Int)] w fun e w' => e = .returned (.int .i64 (ixI al x)) ∧ w' = w) := Lib.hid (fun w => by
        have h := indexByte_any sal (x : Int) w
        rw [← HS.out, str_list] at h
        rw [← HS.out]
        exact h)
      clear hxx
      generalize ixI al x = ix at *
      go_wp2_with fail
      refine (HI.out _).mono ?_
      rintro e w3 ⟨rfl, rfl⟩
      clear HI hix
      by_cases hneg : ix < 0
      · have HD : Hid (decO al cs = none) := Lib.hid (by unfold decO; rw [if_neg (HY.out hneg)])
        go_wp2
        go_ret2
        rw [HD.out]
        exact ⟨rfl, HB.out⟩
      · obtain ⟨v, rfl⟩ : ∃ v : Nat, ix = (v : Int) := ⟨ix.toNat, by omega⟩
        have hd : decide ((v : Int) < 0) = false := decide_eq_false (by omega)
        have hA2 := HX.out (by omega)
        have HA2 := Lib.hid hA2
        rw [Int.toNat_natCast] at HN
        clear hA2 HX HY hneg
        obtain ⟨o, B, h⟩ := st
        obtain ⟨hh, hBl⟩ := hheld
        simp only at hh hBl hlen HO
        have hv : v < 64 := by omega
        have hor := or6 B v hv
        rcases hh with rfl | rfl | rfl | rfl
        · have hN := dstep0 o B v
          rw [hN] at HN
          clear hN
          have hNB : (B * 64 + v) % 4294967296 < 4294967296 := Nat.mod_lt _ (by decide)
          generalize (B * 64 + v) % 4294967296 = NB at *
          rw [show ((0 : Nat) : Int) = (0 : Int) from rfl]
          go_wp2
          go_roundw
          case rel => exact ⟨k + 1, by omega, by go_num, HA2.out, by rw [HN.out], by rw [HN.out]; rfl, by rw [HN.out]; show o.length ≤ _; omega, by rw [HN.out]; exact HO.out, HB.out⟩
          case measure => simp [intOf]; omega
        · have hN := dstep2 o B v
          rw [hN] at HN
          clear hN
          have hNB : (B * 64 + v) % 4294967296 < 4294967296 := Nat.mod_lt _ (by decide)
          generalize (B * 64 + v) % 4294967296 = NB at *
          rw [show ((2 : Nat) : Int) = (2 : Int) from rfl]
          have hq : (NB : Int) % 256 = ((NB % 256 : Nat) : Int) := by omega
          generalize NB % 256 = y at *
          go_wp2_with (at_builtin; refine wpList_append_one rfl _ _ rfl w.heap.size _ o rfl HO.out y rfl (by omega) HB.out.size ?_; intro v4 w4 hown4 hbel4 _)
          have HO4 : Hid (Own w4 w.heap.size v4 (o ++ [y])) := Lib.hid hown4
          have HB4 : Hid (Below w.heap.size w w4) := Lib.hid (HB.out.trans hbel4)
          clear hown4 hbel4 HO HB
          go_wp2
          go_roundw
          case rel => exact ⟨k + 1, by omega, by go_num, HA2.out, by rw [HN.out], by rw [HN.out]; rfl, by rw [HN.out]; show (o ++ [y]).length ≤ _; rw [List.length_append, List.length_singleton]; omega, by rw [HN.out]; exact HO4.out, HB4.out⟩
          case measure => simp [intOf]; omega
        · have hN := dstep4 o B v
          rw [hN] at HN
          clear hN
          have hNB : (B * 64 + v) % 4294967296 < 4294967296 := Nat.mod_lt _ (by decide)
          generalize (B * 64 + v) % 4294967296 = NB at *
          rw [show ((4 : Nat) : Int) = (4 : Int) from rfl]
          have hq : (NB : Int) / 4 % 256 = ((NB / 4 % 256 : Nat) : Int) := by omega
          generalize NB / 4 % 256 = y at *
          go_wp2_with (at_builtin; refine wpList_append_one rfl _ _ rfl w.heap.size _ o rfl HO.out y rfl (by omega) HB.out.size ?_; intro v4 w4 hown4 hbel4 _)
          have HO4 : Hid (Own w4 w.heap.size v4 (o ++ [y])) := Lib.hid hown4
          have HB4 : Hid (Below w.heap.size w w4) := Lib.hid (HB.out.trans hbel4)
          clear hown4 hbel4 HO HB
          go_wp2
          go_roundw
          case rel => exact ⟨k + 1, by omega, by go_num, HA2.out, by rw [HN.out], by rw [HN.out]; rfl, by rw [HN.out]; show (o ++ [y]).length ≤ _; rw [List.length_append, List.length_singleton]; omega, by rw [HN.out]; exact HO4.out, HB4.out⟩
          case measure => simp [intOf]; omega
        · have hN := dstep6 o B v
          rw [hN] at HN
          clear hN
          have hNB : (B * 64 + v) % 4294967296 < 4294967296 := Nat.mod_lt _ (by decide)
          generalize (B * 64 + v) % 4294967296 = NB at *
          rw [show ((6 : Nat) : Int) = (6 : Int) from rfl]
          have hq : (NB : Int) / 16 % 256 = ((NB / 16 % 256 : Nat) : Int) := by omega
          generalize NB / 16 % 256 = y at *
          go_wp2_with (at_builtin; refine wpList_append_one rfl _ _ rfl w.heap.size _ o rfl HO.out y rfl (by omega) HB.out.size ?_; intro v4 w4 hown4 hbel4 _)
          have HO4 : Hid (Own w4 w.heap.size v4 (o ++ [y])) := Lib.hid hown4
          have HB4 : Hid (Below w.heap.size w w4) := Lib.hid (HB.out.trans hbel4)
          clear hown4 hbel4 HO HB
          go_wp2
          go_roundw
          case rel => exact ⟨k + 1, by omega, by go_num, HA2.out, by rw [HN.out], by rw [HN.out]; rfl, by rw [HN.out]; show (o ++ [y]).length ≤ _; rw [List.length_append, List.length_singleton]; omega, by rw [HN.out]; exact HO4.out, HB4.out⟩
          case measure => simp [intOf]; omega
    · obtain rfl : k = cs.length := by omega
      rw [List.take_length] at *
      have HF := Lib.hid (dfin_drun (nums al cs) (nums_Ls HAL.out cs) [] 0)
      have HD : Hid (decO al cs = dec (nums al cs)) := Lib.hid (by unfold decO; rw [if_pos HA.out])
      have hid : (dec (nums al cs)).map ([] ++ ·) = dec (nums al cs) := by cases dec (nums al cs) <;> rfl
      rw [hid] at HF
      clear hid
      generalize drun ⟨[], 0, 0⟩ (nums al cs) = st at *
      obtain ⟨o, B, h⟩ := st
      obtain ⟨hh, hBl⟩ := hheld
      simp only at hh hBl hlen HO
      rcases hh with rfl | rfl | rfl | rfl
      · rw [dfin0] at HF
        rw [show ((0 : Nat) : Int) = (0 : Int) from rfl]
        have hand : bits .and .u32 (B : Int) 0 = 0 := by
          have := u32_and_nat B 0 hBl (by decide)
          rw [Nat.and_zero] at this
          exact this
        go_wp2
        go_ret2
        rw [HD.out, ← HF.out]
        exact ⟨⟨_, rfl, HO.out⟩, HB.out⟩
      · rw [dfin2] at HF
        rw [show ((2 : Nat) : Int) = (2 : Int) from rfl]
        have hand : bits .and .u32 (B : Int) 3 = ((B % 4 : Nat) : Int) := by
          have := u32_and_nat B 3 hBl (by decide)
          rw [show (3 : Nat) = 2 ^ 2 - 1 from rfl, Nat.and_two_pow_sub_one_eq_mod] at this
          exact this
        by_cases hz : B % 4 = 0
        · rw [if_pos hz] at HF
          rw [hz] at hand
          clear hz
          go_wp2
          go_ret2
          rw [HD.out, ← HF.out]
          exact ⟨⟨_, rfl, HO.out⟩, HB.out⟩
        · rw [if_neg hz] at HF
          have hne : (((B % 4 : Nat) : Int) != 0) = true := by rw [bne_iff_ne]; omega
          generalize B % 4 = q at *
          go_wp2
          go_ret2
          rw [HD.out, ← HF.out]
          exact ⟨rfl, HB.out⟩
      · rw [dfin4] at HF
        rw [show ((4 : Nat) : Int) = (4 : Int) from rfl]
        have hand : bits .and .u32 (B : Int) 15 = ((B % 16 : Nat) : Int) := by
          have := u32_and_nat B 15 hBl (by decide)
          rw [show (15 : Nat) = 2 ^ 4 - 1 from rfl, Nat.and_two_pow_sub_one_eq_mod] at this
          exact this
        by_cases hz : B % 16 = 0
        · rw [if_pos hz] at HF
          rw [hz] at hand
          clear hz
          go_wp2
          go_ret2
          rw [HD.out, ← HF.out]
          exact ⟨⟨_, rfl, HO.out⟩, HB.out⟩
        · rw [if_neg hz] at HF
          have hne : (((B % 16 : Nat) : Int) != 0) = true := by rw [bne_iff_ne]; omega
          generalize B % 16 = q at *
          go_wp2
          go_ret2
          rw [HD.out, ← HF.out]
          exact ⟨rfl, HB.out⟩
      · rw [dfin6] at HF
        rw [show ((6 : Nat) : Int) = (6 : Int) from rfl]
        go_wp2
        go_ret2
        rw [HD.out, ← HF.out]
        exact ⟨rfl, HB.out⟩
end Go.Proofs.YtcpifencjmlhaaaDoor.B64
