/-
  What the document's Unescape answers; nothing that was there before is changed.
-/
import Derived.Test.YtchlikigjijdkaaDoorT3
import Derived.Test.YtchlikigjijdkaaDoorT6
import Derived.Deep.AppendLies
import Derived.BigRegion
import Derived.Deep.RegionLaw
namespace Go.Proofs.YtchlikigjijdkaaDoor.Txt
open Go.RowKit
set_option maxRecDepth 100000
/-- append(out, y) of one byte, in a slice that was made for it. -/
theorem wpList_append_byte {w : World} {ops : Array Oper} {rest : List Oper} {o : Oper} {a : Act} {Q : Exit → Act → World → Prop} (hgd : o.guard = none) (s x : Operand)
    (ho : o.op = .call { callee := .builtin .append, args := #[s, x], argTypes := #[48, 48] }) (base : Nat) (v : Value) (l : List UInt8) (hs : a.eval s = v) (hown : Own w base v l)
    (y : UInt8) (c : Int) (hc : c = (y.toNat : Nat)) (hx : a.eval x = .slice (some ⟨w.heap.size, 0, none⟩) 1 1) (hb : l.length + 1 ≤ 1000000) (hbase : base ≤ w.heap.size)
    (h : ∀ v' w', Own w' base v' (l ++ [y]) → Below base w w' → wpList Tryd.prog ops Q rest (a.put o.dst v') w') :
    wpList Tryd.prog ops Q (o :: rest) a (w.alloc (.cells #[.int .u8 c] 5)) := by
  subst hc
  refine wpList_append_elem hgd s x 48 5 ho base 1 1 _ Tryd.underlying48 info5 rfl (by decide) (by decide) v l.length (Lib.byteCells l) [.int .u8 (y.toNat : Nat)] hs hown rfl (by intro u hu; rw [List.mem_singleton.1 hu]; rfl) hx hb hbase _ rfl (fun v' w' h1 h2 _ => h v' w' ?_ h2)
  unfold Own
  rw [byteCells_append, List.length_append]
  exact h1
theorem un1_eq (l : List UInt8) : un1 l =
  if (l.getD 0 0).toNat = 43 then some (32, 1)
  else if (l.getD 0 0).toNat = 37 then (if l.length < 3 then none else if hv (l.getD 1 0) < 0 ∨ hv (l.getD 2 0) < 0 then none else some (UInt8.ofNat (16 * hv (l.getD 1 0) + hv (l.getD 2 0)).toNat, 3))
  else if (l.getD 0 0).toNat < 33 ∨ (l.getD 0 0).toNat > 126 ∨ (l.getD 0 0).toNat = 38 ∨ (l.getD 0 0).toNat = 61 then none
  else some (l.getD 0 0, 1) := rfl
theorem drop_getD (l : List UInt8) (a j : Nat) : (l.drop a).getD j 0 = l.getD (a + j) 0 := by simp [List.getD_eq_getElem?_getD, List.getElem?_drop]
set_option maxHeartbeats 4000000 in
theorem runescape_any (l : List UInt8) (w : World) (hl : l.length ≤ 100000) :
    Calls Tryd.prog 16 #[.string (mk l)] w fun e w' => e = .returned (.tuple #[.string (mk (unE l).1), .int .i64 ((unE l).2 : Nat)]) ∧ Below w.heap.size w w' := by
  have hms := mk_size
  have hmt := mk_toList
  go_enter Tryd.func16, Tryd.ntmps16
  go_wp2
  go_loopw [4, 5] (fun v i wr => ∃ (a : Nat) (o : List UInt8), a ≤ l.length ∧ i = .int .i64 a ∧ o.length ≤ a ∧ un l = (un (l.drop a)).map (o ++ ·) ∧ Own wr w.heap.size v o ∧ Below w.heap.size w wr) (fun _ i _ => l.length - (intOf i).toNat)
  case atStart => exact ⟨0, [], by omega, rfl, by simp, by simp, ⟨rfl, .inl ⟨rfl, rfl⟩⟩, Below.refl _ _⟩
  case round =>
    rename_i v4 v5
    obtain ⟨a, o, ha, rfl, hoa, hu, hI, hb⟩ := hrel
    have HU := Lib.hid hu
    have HO := Lib.hid hI
    have HB := Lib.hid hb
    clear hu hI hb
    by_cases hlt : a < l.length
    · have hix : ∀ w, (Instr.index 9 (.string (mk l)) (.int .i64 (a : Int))).run Tryd.prog w = .ok (.int .u8 ((l.getD a 0).toNat : Nat)) w := fun w => run_idx w l .i64 a hlt
      have hne : l.drop a ≠ [] := fun e => by have := congrArg List.length e; rw [List.length_drop] at this; simp at this; omega
      have hstep : ∀ b k, un1 (l.drop a) = some (b, k) → un l = (un (l.drop (a + k))).map ((o ++ [b]) ++ ·) := fun b k hf => by
        rw [HU.out, un_step hne hf, List.drop_drop, Option.map_map]
        congr 1
        funext r
        simp
      have hbad : un1 (l.drop a) = none → unE l = ([], 31) := fun hf => unE_none (by rw [HU.out, un_bad hne hf]; rfl)
      have h1 := un1_eq (l.drop a)
      rw [drop_getD, drop_getD, drop_getD, List.length_drop, Nat.add_zero] at h1
      have hb := (l.getD a 0).toNat_lt
      generalize un1 (l.drop a) = u at *
      by_cases h43 : (l.getD a 0).toNat = 43
      · rw [if_pos h43] at h1
        have HE := Lib.hid (hstep _ _ h1)
        have hq : (((l.getD a 0).toNat : Int) == 43) = true := by rw [beq_iff_eq]; omega
        clear h43 h1 hstep hbad hne
        generalize (l.getD a 0).toNat = b at *
        go_wp2_with (at_builtin; refine wpList_append_byte rfl _ _ rfl w.heap.size _ o rfl HO.out 32 _ rfl rfl (by omega) HB.out.size ?_; intro v6 w6 hown6 hbel6)
        have HO6 := Lib.hid hown6
        have HB6 : Hid (Below w.heap.size w w6) := Lib.hid (HB.out.trans hbel6)
        clear hown6 hbel6 HO HB
        go_wp2
        go_roundw
        case rel => exact ⟨a + 1, o ++ [32], by omega, by go_num, by simp; omega, HE.out, HO6.out, HB6.out⟩
        case measure => simp [intOf]; omega
      rw [if_neg h43] at h1
      have hq : (((l.getD a 0).toNat : Int) == 43) = false := by rw [beq_eq_false_iff_ne]; omega
      by_cases h37 : (l.getD a 0).toNat = 37
      · rw [if_pos h37] at h1
        have hq2 : (((l.getD a 0).toNat : Int) == 37) = true := by rw [beq_iff_eq]; omega
        by_cases h3 : l.length - a < 3
        · rw [if_pos h3] at h1
          have HE := Lib.hid (hbad h1)
          clear h43 h37 h1 hstep hbad hne
          generalize (l.getD a 0).toNat = b at *
          have k1 : (l.length : Int) ≤ (a : Int) + 2 := by omega
          go_wp2
          go_ret2
          exact ⟨by rw [HE.out]; rfl, HB.out⟩
        · rw [if_neg h3] at h1
          have k1 : (a : Int) + 2 < (l.length : Int) := by omega
          have hi1 : ∀ w, (Instr.index 9 (.string (mk l)) (.int .i64 ((a : Int) + 1))).run Tryd.prog w = .ok (.int .u8 ((l.getD (a + 1) 0).toNat : Nat)) w := fun w => run_idx w l .i64 (a + 1) (by omega)
          have hi2 : ∀ w, (Instr.index 9 (.string (mk l)) (.int .i64 ((a : Int) + 2))).run Tryd.prog w = .ok (.int .u8 ((l.getD (a + 2) 0).toNat : Nat)) w := fun w => run_idx w l .i64 (a + 2) (by omega)
          have r1 := hv_range (l.getD (a + 1) 0)
          have r2 := hv_range (l.getD (a + 2) 0)
          have HC1 := Lib.hid (fun w => digit_any (l.getD (a + 1) 0) w)
          have HC2 := Lib.hid (fun w => digit_any (l.getD (a + 2) 0) w)
          generalize (l.getD a 0).toNat = b at *
          generalize l.getD (a + 1) 0 = x1 at *
          generalize l.getD (a + 2) 0 = x2 at *
          generalize hv x1 = v1 at *
          generalize hv x2 = v2 at *
          by_cases n1 : v1 < 0
          · rw [if_pos (.inl n1)] at h1
            have HE := Lib.hid (hbad h1)
            clear h43 h37 h1 hstep hbad hne
            go_wp2_with fail
            refine (HC1.out _).mono ?_
            rintro e w1 ⟨rfl, rfl⟩
            go_wp2
            go_ret2
            exact ⟨by rw [HE.out]; rfl, HB.out⟩
          have m1 : 0 ≤ v1 := by omega
          by_cases n2 : v2 < 0
          · rw [if_pos (.inr n2)] at h1
            have HE := Lib.hid (hbad h1)
            clear h43 h37 h1 hstep hbad hne n1
            go_wp2_with fail
            refine (HC1.out _).mono ?_
            rintro e w1 ⟨rfl, rfl⟩
            go_wp2_with fail
            refine (HC2.out _).mono ?_
            rintro e w1 ⟨rfl, rfl⟩
            go_wp2
            go_ret2
            exact ⟨by rw [HE.out]; rfl, HB.out⟩
          have m2 : 0 ≤ v2 := by omega
          rw [if_neg (by omega)] at h1
          have HE := Lib.hid (hstep _ _ h1)
          have HX : Hid (16 * v1 + v2 = ((UInt8.ofNat (16 * v1 + v2).toNat).toNat : Int)) := Lib.hid (by
            simp only [UInt8.toNat_ofNat']
            omega)
          generalize UInt8.ofNat (16 * v1 + v2).toNat = y at *
          clear h43 h37 h1 hstep hbad hne n1 n2
          have k3 : v1 ≤ 15 := by omega
          have k4 : v2 ≤ 15 := by omega
          clear r1 r2
          go_wp2_with fail
          refine (HC1.out _).mono ?_
          rintro e w1 ⟨rfl, rfl⟩
          go_wp2_with fail
          refine (HC2.out _).mono ?_
          rintro e w1 ⟨rfl, rfl⟩
          go_wp2_with fail
          obtain ⟨i5, hi5, hz50, hz51, hz52⟩ := info_parts info5
          have q1 : IntKind.i64.wrap ((a : Int) + 1) = (a : Int) + 1 := by rw [IntKind.wrap_i64]; omega
          have q2 : IntKind.i64.wrap ((a : Int) + 2) = (a : Int) + 2 := by rw [IntKind.wrap_i64]; omega
          have q3 : IntKind.i64.wrap (16 * v1) = 16 * v1 := by rw [IntKind.wrap_i64]; omega
          have q4 : IntKind.i64.wrap (16 * v1 + v2) = 16 * v1 + v2 := by rw [IntKind.wrap_i64]; omega
          have q5 : IntKind.u8.wrap (16 * v1 + v2) = 16 * v1 + v2 := by rw [IntKind.wrap_u8]; omega
          have hsz := HB.out.size
          go_region_law (first
            | (refine step_append_lies _ (by rfl) _ _ 48 (by rfl) w.heap.size 5 i5 _ 1 1 Tryd.underlying48 hi5 hz50 hz51 hz52 rfl (by decide) u4 o.length (Lib.byteCells o) (by rfl) ((HO.out.alloc _).drew)
                ⟨wr.heap.size, 0, none⟩ 1 1 [.int .u8 (16 * v1 + v2)] (by rfl) (by rfl) (World.news_of_block (cs := #[.int .u8 (16 * v1 + v2)]) (t := 5) (fr := (0, 0)) (heap_alloc_new wr _)) (by intro u hu; rw [List.mem_singleton.1 hu]; rfl)
                (by omega) (by unfold maxLen; omega) (by omega) (by simp; omega) (wr.heap.size + 1) (by simp) ?_; intro gg cap9 wz hownz hgrow hat hlt9)
            | (go_simp; go_at_call 28; with_reducible refine (HC1.out _).mono ?_; rintro e w1 ⟨rfl, rfl⟩)
            | (go_simp; go_at_call 28; with_reducible refine (HC2.out _).mono ?_; rintro e w1 ⟨rfl, rfl⟩))
          all_goals
            have HO6 : Hid (wz.ownsRow w.heap.size 5 1 (.slice (some ⟨gg, 0, none⟩) (o.length + 1) cap9) (o ++ [y]).length (Lib.byteCells (o ++ [y]))) := Lib.hid (by rw [byteCells_append, List.length_append]; rw [HX.out] at hownz; exact hownz)
            have HB6 : Hid (Below w.heap.size w wz) := Lib.hid (((HB.out.alloc hsz _).drew).grown hgrow (by simp; omega) (fun j hj => row_base HO.out j hj))
            clear hownz hgrow hat hlt9 q1 q2 q3 q4 q5 HX HO HB HC1 HC2
            go_wp2
            go_roundw
            case rel => exact ⟨a + 3, o ++ [y], by omega, by go_num, by simp; omega, HE.out, HO6.out, HB6.out⟩
            case measure => simp [intOf]; omega
      rw [if_neg h37] at h1
      have hq2 : (((l.getD a 0).toNat : Int) == 37) = false := by rw [beq_eq_false_iff_ne]; omega
      by_cases hbd : (l.getD a 0).toNat < 33 ∨ (l.getD a 0).toNat > 126 ∨ (l.getD a 0).toNat = 38 ∨ (l.getD a 0).toNat = 61
      · rw [if_pos hbd] at h1
        have HE := Lib.hid (hbad h1)
        have HD := Lib.hid hbd
        clear h43 h37 h1 hstep hbad hne hbd
        generalize (l.getD a 0).toNat = b at *
        go_wp2
        all_goals (try simp only [beq_iff_eq, beq_eq_false_iff_ne, ne_eq] at *)
        all_goals (try (exfalso; have := HD.out; omega))
        all_goals go_ret2
        all_goals exact ⟨by rw [HE.out]; rfl, HB.out⟩
      · rw [if_neg hbd] at h1
        have HE := Lib.hid (hstep _ _ h1)
        have k1 : (33 : Int) ≤ ((l.getD a 0).toNat : Int) := by omega
        have k2 : ((l.getD a 0).toNat : Int) ≤ (126 : Int) := by omega
        have hq3 : (((l.getD a 0).toNat : Int) == 38) = false := by rw [beq_eq_false_iff_ne]; omega
        have hq4 : (((l.getD a 0).toNat : Int) == 61) = false := by rw [beq_eq_false_iff_ne]; omega
        clear h43 h37 hbd h1 hstep hbad hne
        generalize l.getD a 0 = x at *
        go_wp2_with (at_builtin; refine wpList_append_byte rfl _ _ rfl w.heap.size _ o rfl HO.out x _ rfl rfl (by omega) HB.out.size ?_; intro v6 w6 hown6 hbel6)
        have HO6 := Lib.hid hown6
        have HB6 : Hid (Below w.heap.size w w6) := Lib.hid (HB.out.trans hbel6)
        clear hown6 hbel6 HO HB
        go_wp2
        go_roundw
        case rel => exact ⟨a + 1, o ++ [x], by omega, by go_num, by simp; omega, HE.out, HO6.out, HB6.out⟩
        case measure => simp [intOf]; omega
    · obtain rfl : a = l.length := by omega
      rw [List.drop_length] at HU
      have hu : un l = some o := by rw [HU.out, un_nil]; simp
      clear HU
      have hcv := conv_own HO.out
      have HC := Lib.hid (rwrong_any o wr (by omega))
      by_cases hw : wrong o 0 < 0
      · have HE := Lib.hid (unE_good hu hw)
        clear hu
        generalize wrong o 0 = r at *
        go_wp2_with fail
        refine HC.out.mono ?_
        rintro e w1 ⟨rfl, rfl⟩
        go_wp2
        go_ret2
        exact ⟨by rw [HE.out]; rfl, HB.out⟩
      · have HE := Lib.hid (unE_wrong hu hw)
        clear hu
        have hw' : 0 ≤ wrong o 0 := by omega
        generalize wrong o 0 = r at *
        go_wp2_with fail
        refine HC.out.mono ?_
        rintro e w1 ⟨rfl, rfl⟩
        go_wp2
        go_ret2
        exact ⟨by rw [HE.out]; rfl, HB.out⟩
end Go.Proofs.YtchlikigjijdkaaDoor.Txt
