/-
  The walk of the statement CrcXors: whatever the three texts it returns true, and nothing that was there before has changed.
-/
import Derived.Test.YtidmcccbblmmeaaBytes
import Derived.Test.YtidmcccbblmmeaaReg3
import Derived.BigRegion
import Derived.Deep.CutRange
namespace Go.Proofs.Ytidmcccbblmmeaa
open Go.RowKit
theorem min4_run (a : Act) (o : Oper) (x y z t : Operand) (hop : o.op = .call { callee := .builtin .min, args := #[x, y, z, t], argTypes := #[3, 3, 3, 3] }) (m n p q r : Int) (e1 : a.eval x = .int .i64 m) (e2 : a.eval y = .int .i64 n) (e3 : a.eval z = .int .i64 p) (e4 : a.eval t = .int .i64 q)
    (h1 : r ≤ m) (h2 : r ≤ n) (h3 : r ≤ p) (h4 : r ≤ q) (hr : r = m ∨ r = n ∨ r = p ∨ r = q) (w : World) : (execOp a.eval o).run Try.prog w = .ok (.value (.int .i64 r)) w := by
  unfold execOp
  simp only [hop, resolve, List.map_toArray, List.map_cons, List.map_nil, e1, e2, e3, e4]
  have hmin : (Builtin.min_ #[3, 3, 3, 3] o.type #[Value.int IntKind.i64 m, Value.int IntKind.i64 n, Value.int IntKind.i64 p, Value.int IntKind.i64 q]).run Try.prog w = .ok (.int .i64 (if q < (if p < (if n < m then n else m) then p else (if n < m then n else m)) then q else (if p < (if n < m then n else m) then p else (if n < m then n else m)))) w := by
    simp [Builtin.min_, Builtin.min2]
  have hval : (if q < (if p < (if n < m then n else m) then p else (if n < m then n else m)) then q else (if p < (if n < m then n else m) then p else (if n < m then n else m))) = r := by
    (repeat' split) <;> omega
  rw [hval] at hmin
  simp [go_sem, hmin]
theorem wpList_min4 {ops : Array Oper} {rest : List Oper} {o : Oper} {a : Act} {w : World} {Q : Exit → Act → World → Prop} (hgd : o.guard = none) (x y z t : Operand) (hop : o.op = .call { callee := .builtin .min, args := #[x, y, z, t], argTypes := #[3, 3, 3, 3] }) (m n p q r : Int) (e1 : a.eval x = .int .i64 m) (e2 : a.eval y = .int .i64 n) (e3 : a.eval z = .int .i64 p) (e4 : a.eval t = .int .i64 q)
    (h1 : r ≤ m) (h2 : r ≤ n) (h3 : r ≤ p) (h4 : r ≤ q) (hr : r = m ∨ r = n ∨ r = p ∨ r = q) (h : wpList Try.prog ops Q rest (a.put o.dst (.int .i64 r)) w) : wpList Try.prog ops Q (o :: rest) a w :=
  wpList_plain hgd fun _ hK => by
    unfold Oper.wp
    rw [min4_run a o x y z t hop m n p q r e1 e2 e3 e4 h1 h2 h3 h4 hr w]
    exact hK _ _ h
theorem made_zero (n : Nat) : (madeCells (Value.int IntKind.u8 0).cells (n * 1)).toList = vals .u8 (List.replicate n 0) := by
  rw [Nat.mul_one]
  show (madeCells #[Value.int IntKind.u8 0] n).toList = _
  rw [toList_madeCells_one]
  simp [vals]
/-- The first j of these n bytes are the xor of three texts' bytes. -/
def Xored (xs ys zs : List Nat) (n j : Nat) (ds : List Nat) : Prop := ds.length = n ∧ Crc.Bs ds ∧ ∀ i, i < j → ds.getD i 0 = xs.getD i 0 ^^^ ys.getD i 0 ^^^ zs.getD i 0
theorem Xored.start (xs ys zs : List Nat) (n : Nat) : Xored xs ys zs n 0 (List.replicate n 0) :=
  ⟨by simp, fun x hx => by have := List.eq_of_mem_replicate hx; omega, fun i hi => absurd hi (Nat.not_lt_zero i)⟩
theorem Xored.next {xs ys zs ds : List Nat} {n j : Nat} (h : Xored xs ys zs n j ds) (hj : j < n) (hx : Crc.Bs xs) (hy : Crc.Bs ys) (hz : Crc.Bs zs) : Xored xs ys zs n (j + 1) (ds.set j (xs.getD j 0 ^^^ ys.getD j 0 ^^^ zs.getD j 0)) := by
  obtain ⟨h1, h2, h3⟩ := h
  refine ⟨by simpa using h1, Crc.Bs_set h2 _ _ (Nat.xor_lt_two_pow (n := 8) (Nat.xor_lt_two_pow (hx.getD j) (hy.getD j)) (hz.getD j)), fun i hi => ?_⟩
  rw [List.getD_eq_getElem?_getD, List.getElem?_set]
  by_cases e : j = i
  · subst e
    rw [if_pos rfl, if_pos (by omega), Option.getD_some]
  · rw [if_neg e, ← List.getD_eq_getElem?_getD]
    exact h3 i (by omega)
theorem take_getD (l : List Nat) (n i : Nat) (h : i < n) : (l.take n).getD i 0 = l.getD i 0 := by
  rw [List.getD_eq_getElem?_getD, List.getElem?_take, if_pos h, ← List.getD_eq_getElem?_getD]
theorem Xored.sum {xs ys zs ds : List Nat} {n : Nat} (h : Xored xs ys zs n n ds) (hx : Crc.Bs xs) (hy : Crc.Bs ys) (hz : Crc.Bs zs) (lx : n ≤ xs.length) (ly : n ≤ ys.length) (lz : n ≤ zs.length) :
    Crc.sum (xs.take n) ^^^ Crc.sum (ys.take n) ^^^ Crc.sum (zs.take n) = Crc.sum ds := by
  obtain ⟨h1, h2, h3⟩ := h
  have tx : (xs.take n).length = ds.length := by rw [List.length_take]; omega
  have ty : (ys.take n).length = ds.length := by rw [List.length_take]; omega
  have tz : (zs.take n).length = ds.length := by rw [List.length_take]; omega
  refine Crc.sum3 (hx.take n) (hy.take n) (hz.take n) h2 tx ty tz (Crc.val_xor3 _ _ _ _ tx ty tz fun i hi => ?_)
  rw [take_getD _ _ _ (by omega), take_getD _ _ _ (by omega), take_getD _ _ _ (by omega)]
  exact h3 i (by omega)
def kindsX (A B C : Option Addr) (c d e g n : Nat) (xs ys zs ds : List Nat) : List Kind := [.val (.slice A xs.length c), .val (.int .i64 (n : Int)), .val (.slice A n c), partsK [xs.take n], .val (.int .u32 (Crc.sum (xs.take n) : Nat)), .val (.slice B ys.length d), .val (.int .i64 (n : Int)), .val (.slice B n d), partsK [ys.take n], .val (.int .u32 (Crc.sum (ys.take n) : Nat)), .val (.int .u32 ((Crc.sum (xs.take n) ^^^ Crc.sum (ys.take n) : Nat) : Int)), .val (.slice C zs.length e), .val (.int .i64 (n : Int)), .val (.slice C n e), partsK [zs.take n], .val (.int .u32 (Crc.sum (zs.take n) : Nat)), .val (.int .u32 ((Crc.sum (xs.take n) ^^^ Crc.sum (ys.take n) ^^^ Crc.sum (zs.take n) : Nat) : Int)), .val (.slice (some ⟨g, 0, none⟩) n n), partsK [ds], .val (.int .u32 ((Crc.sum (xs.take n) ^^^ Crc.sum (ys.take n) ^^^ Crc.sum (zs.take n) : Nat) : Int)), .val (.bool true), .val (.bool true)]
set_option maxRecDepth 100000
set_option maxHeartbeats 1000000 in
theorem crcXors_any (w : World) (A B C : Option Addr) (c d e : Nat) (xs ys zs : List Nat) (hRx : RdB w w.heap.size A xs) (hRy : RdB w w.heap.size B ys) (hRz : RdB w w.heap.size C zs) (hcx : xs.length ≤ c) (hcy : ys.length ≤ d) (hcz : zs.length ≤ e) (hbx : Crc.Bs xs) (hby : Crc.Bs ys) (hbz : Crc.Bs zs)
    (hmx : xs.length ≤ 9223372036854775807) (hmy : ys.length ≤ 9223372036854775807) (hmz : zs.length ≤ 9223372036854775807) :
    Calls Try.prog 6 #[.slice A xs.length c, .slice B ys.length d, .slice C zs.length e] w fun e w' => e = .returned (.bool true) ∧ Below w.heap.size w w' := by
  have HRx := Lib.hid hRx
  have HRy := Lib.hid hRy
  have HRz := Lib.hid hRz
  have HBx := Lib.hid hbx
  have HBy := Lib.hid hby
  have HBz := Lib.hid hbz
  clear hRx hRy hRz hbx hby hbz
  go_enter Try.func6, Try.ntmps6
  go_wp2_with fail
  refine (anchor_any w).mono ?_
  rintro e w1 ⟨rfl, hb1⟩
  have HB1 := Lib.hid hb1
  have hz1 := hb1.size
  clear hb1
  obtain ⟨n, hnx, hny, hnz, hnk, hno⟩ : ∃ n : Nat, n ≤ xs.length ∧ n ≤ ys.length ∧ n ≤ zs.length ∧ n ≤ 1000 ∧ (n = xs.length ∨ n = ys.length ∨ n = zs.length ∨ n = 1000) :=
    ⟨min (min (min xs.length ys.length) zs.length) 1000, by omega, by omega, by omega, by omega, by omega⟩
  have HNO := Lib.hid hno
  clear hno
  obtain ⟨i0, hi0, hz0, hzz1, hz2⟩ := info_parts Try.info5
  go_wp2_with (first
    | (refine wpList_min4 rfl _ _ _ _ rfl (xs.length : Int) (ys.length : Int) (zs.length : Int) 1000 (n : Int) rfl rfl rfl rfl (by omega) (by omega) (by omega) (by omega) (by have := HNO.out; omega) ?_)
    | (refine wpList_make_full _ rfl _ _ 22 rfl w1.heap.size 5 i0 _ 1 Try.underlying22 hi0 hz0 hzz1 _ _ _ _ n rfl rfl rfl rfl (by rw [hz2]; omega) (by simp [maxLen]; omega) (Nat.le_refl _) ?_; intro w2 hown2 hgrow2)
    | fail)
  rw [made_zero] at hown2
  have HO2 := Lib.hid hown2
  have HB2 : Hid (Below w.heap.size w w2) := Lib.hid (HB1.out.grown hgrow2 hz1 (fun j hj => by cases hj))
  clear hown2 hgrow2 HB1 hz0 hzz1 hz2 hi0
  generalize hg : w1.heap.size = g at *
  clear hg
  go_loopw [23] (fun i wr => ∃ j : Nat, j ≤ n ∧ i = .int .i64 j ∧ Below w.heap.size w wr ∧ ∃ ds : List Nat, Xored xs ys zs n j ds ∧ wr.ownsRow g 5 1 (.slice (some ⟨g, 0, none⟩) n n) n (vals .u8 ds)) (fun i _ => n - (intOf i).toNat)
  case atStart => exact ⟨0, by omega, rfl, HB2.out, _, Xored.start _ _ _ _, HO2.out⟩
  case round =>
    obtain ⟨j, hj, rfl, hbel, ds, hX, hown⟩ := hrel
    have HB := Lib.hid hbel
    have HO := Lib.hid hown
    have HX := Lib.hid hX
    have hzw := hbel.size
    clear hbel hown hX HO2 HB2
    by_cases hlt : j < n
    · obtain ⟨ax, rfl, hax, hrx⟩ := (HRx.out.below HB.out) (by omega)
      obtain ⟨ay, rfl, hay, hry⟩ := (HRy.out.below HB.out) (by omega)
      obtain ⟨az, rfl, haz, hrz⟩ := (HRz.out.below HB.out) (by omega)
      have c1 : wr.cell? (ax.add j) = some (.int .u8 (xs.getD j 0 : Nat)) := hrx j _ (vals_get _ _ _ (by omega))
      have c2 : wr.cell? (ay.add j) = some (.int .u8 (ys.getD j 0 : Nat)) := hry j _ (vals_get _ _ _ (by omega))
      have c3 : wr.cell? (az.add j) = some (.int .u8 (zs.getD j 0 : Nat)) := hrz j _ (vals_get _ _ _ (by omega))
      have c4 : wr.cell? ⟨g, j, none⟩ = some (.int .u8 (ds.getD j 0 : Nat)) := (HO.out.cellAt _ (by omega)).trans (vals_get _ _ _ (by rw [HX.out.1]; omega))
      have c5 : wr.frozen? ⟨g, j, none⟩ = false := HO.out.frozenAt j
      have HN := Lib.hid (HX.out.next hlt HBx.out HBy.out HBz.out)
      have b1 := HBx.out.getD j
      have b2 := HBy.out.getD j
      have b3 := HBz.out.getD j
      have lx : (j : Int) < (xs.length : Int) := by omega
      have ly : (j : Int) < (ys.length : Int) := by omega
      have lz : (j : Int) < (zs.length : Int) := by omega
      have ln : (j : Int) < (n : Int) := by omega
      clear hrx hry hrz
      generalize xs.getD j 0 = x at *
      generalize ys.getD j 0 = y at *
      generalize zs.getD j 0 = z at *
      generalize ds.getD j 0 = t at *
      have e1 := u8_xor_nat x y b1 b2
      have e2 := u8_xor_nat (x ^^^ y) z (Nat.xor_lt_two_pow (n := 8) b1 b2) b3
      go_wp2
      go_region
      clear e1 e2
      go_wp2
      go_roundw
      case rel =>
        have h2 := (HO.out.stored j (.int .u8 ((x ^^^ y ^^^ z : Nat) : Int))).1
        rw [vals_set] at h2
        exact ⟨j + 1, by omega, by go_num, (HB.out.setCell (by show w.heap.size ≤ g; omega) _).drew, _, HN.out, h2⟩
      case measure => simp [intOf]; omega
    · obtain rfl : n = j := by omega
      clear hlt hj
      have HE := Lib.hid (HX.out.sum HBx.out HBy.out HBz.out hnx hny hnz)
      have HL := Lib.hid HX.out.1
      have HD := Lib.hid HX.out.2.1
      have hd0 : RdB wr wr.heap.size (some ⟨g, 0, none⟩) ds := fun hp => ⟨_, rfl, (HO.out.lt g rfl).2, HO.out.cells rfl⟩
      have hbr : ∀ w', Rw wr.drew w' → Below wr.heap.size wr w' := fun w' hr => Below.trans ((Below.refl wr.heap.size wr).drew) hr
      have hx0 : ∀ (X : Option Addr) (l : List Nat), RdB w w.heap.size X l → ∀ w', Rw wr.drew w' → RdB w' w'.heap.size X (l.take n) := fun X l h w' hr =>
        ((h.below (HB.out.trans ((hbr w' hr).mono hzw))).more (Nat.le_trans hzw (hbr w' hr).size)).head n
      have Hx := Lib.hid (hx0 A xs HRx.out)
      have Hy := Lib.hid (hx0 B ys HRy.out)
      have Hz := Lib.hid (hx0 C zs HRz.out)
      have Hd : Hid (∀ w', Rw wr.drew w' → RdB w' w'.heap.size (some ⟨g, 0, none⟩) ds) := Lib.hid (fun w' hr => (hd0.below (hbr w' hr)).more (hbr w' hr).size)
      clear hx0 hbr hd0
      go_upto_region 10 with (fail)
      refine region_inv (Rw wr.drew) (fun i => (kinds (kindsX A B C c d e g n xs ys zs ds) i).is) (by kernel_rfl) (by kernel_rfl) (Below.refl _ _) ⟨?_, ?_, ?_, ?_, ?_, ?_, ?_, ?_, ?_, ?_, ?_, ?_, ?_, ?_, ?_, ?_, ?_, ?_, ?_, ?_, ?_, ?_, trivial⟩ ?_
      · exact ob_old ⟨by kernel_rfl, (at0 _ _), ⟨_, rfl, by exact (by decide : 44 < 65)⟩, (.inl rfl)⟩ 0 rfl (by kernel_rfl) (fun _ _ => rfl)
      · exact ob_old ⟨by kernel_rfl, (atS (at0 _ _)), ⟨_, rfl, by exact (by decide : 45 < 65)⟩, (.inl rfl)⟩ 7 rfl (by kernel_rfl) (fun _ _ => rfl)
      · exact ob_head ⟨by kernel_rfl, (atS (atS (at0 _ _))), ⟨_, rfl, by exact (by decide : 46 < 65)⟩, (.inl rfl)⟩ 22 _ _ rfl (.slice A xs.length c) (.int .i64 (n : Int)) (.slice A n c) (ev_tmp (j := 0) (by kernel_rfl) rfl rfl) (ev_tmp (j := 1) (by kernel_rfl) rfl rfl) (slice_to A xs.length c n (by omega)) rfl
      · exact ob_part ⟨by kernel_rfl, (atS (atS (atS (at0 _ _)))), ⟨_, rfl, by exact (by decide : 47 < 65)⟩, (.inl rfl)⟩ _ rfl A n c (xs.take n) (ev_tmp (j := 2) (by kernel_rfl) rfl rfl) (by rw [List.length_take]; omega) (by rw [List.length_take]; omega) (HBx.out.take n) (fun w' hr => Hx.out w' hr) rfl
      · exact ob_sum1 ⟨by kernel_rfl, (atS (atS (atS (atS (at0 _ _))))), ⟨_, rfl, by exact (by decide : 48 < 65)⟩, (.inl rfl)⟩ _ _ rfl (xs.take n) (ev_tmp (j := 3) (by kernel_rfl) rfl rfl) (by rw [List.length_take]; omega) rfl
      · exact ob_old ⟨by kernel_rfl, (atS (atS (atS (atS (atS (at0 _ _)))))), ⟨_, rfl, by exact (by decide : 49 < 65)⟩, (.inl rfl)⟩ 1 rfl (by kernel_rfl) (fun _ _ => rfl)
      · exact ob_old ⟨by kernel_rfl, (atS (atS (atS (atS (atS (atS (at0 _ _))))))), ⟨_, rfl, by exact (by decide : 50 < 65)⟩, (.inl rfl)⟩ 7 rfl (by kernel_rfl) (fun _ _ => rfl)
      · exact ob_head ⟨by kernel_rfl, (atS (atS (atS (atS (atS (atS (atS (at0 _ _)))))))), ⟨_, rfl, by exact (by decide : 51 < 65)⟩, (.inl rfl)⟩ 22 _ _ rfl (.slice B ys.length d) (.int .i64 (n : Int)) (.slice B n d) (ev_tmp (j := 5) (by kernel_rfl) rfl rfl) (ev_tmp (j := 6) (by kernel_rfl) rfl rfl) (slice_to B ys.length d n (by omega)) rfl
      · exact ob_part ⟨by kernel_rfl, (atS (atS (atS (atS (atS (atS (atS (atS (at0 _ _))))))))), ⟨_, rfl, by exact (by decide : 52 < 65)⟩, (.inl rfl)⟩ _ rfl B n d (ys.take n) (ev_tmp (j := 7) (by kernel_rfl) rfl rfl) (by rw [List.length_take]; omega) (by rw [List.length_take]; omega) (HBy.out.take n) (fun w' hr => Hy.out w' hr) rfl
      · exact ob_sum1 ⟨by kernel_rfl, (atS (atS (atS (atS (atS (atS (atS (atS (atS (at0 _ _)))))))))), ⟨_, rfl, by exact (by decide : 53 < 65)⟩, (.inl rfl)⟩ _ _ rfl (ys.take n) (ev_tmp (j := 8) (by kernel_rfl) rfl rfl) (by rw [List.length_take]; omega) rfl
      · exact ob_bin ⟨by kernel_rfl, (atS (atS (atS (atS (atS (atS (atS (atS (atS (atS (at0 _ _))))))))))), ⟨_, rfl, by exact (by decide : 54 < 65)⟩, (.inl rfl)⟩ .xor 24 24 _ _ rfl _ _ _ (ev_tmp (j := 4) (by kernel_rfl) rfl rfl) (ev_tmp (j := 9) (by kernel_rfl) rfl rfl) (guard_any _ _ _ _ _ _ _ _) (xor_run (Crc.sum_lt _) (Crc.sum_lt _)) rfl
      · exact ob_old ⟨by kernel_rfl, (atS (atS (atS (atS (atS (atS (atS (atS (atS (atS (atS (at0 _ _)))))))))))), ⟨_, rfl, by exact (by decide : 55 < 65)⟩, (.inl rfl)⟩ 2 rfl (by kernel_rfl) (fun _ _ => rfl)
      · exact ob_old ⟨by kernel_rfl, (atS (atS (atS (atS (atS (atS (atS (atS (atS (atS (atS (atS (at0 _ _))))))))))))), ⟨_, rfl, by exact (by decide : 56 < 65)⟩, (.inl rfl)⟩ 7 rfl (by kernel_rfl) (fun _ _ => rfl)
      · exact ob_head ⟨by kernel_rfl, (atS (atS (atS (atS (atS (atS (atS (atS (atS (atS (atS (atS (atS (at0 _ _)))))))))))))), ⟨_, rfl, by exact (by decide : 57 < 65)⟩, (.inl rfl)⟩ 22 _ _ rfl (.slice C zs.length e) (.int .i64 (n : Int)) (.slice C n e) (ev_tmp (j := 11) (by kernel_rfl) rfl rfl) (ev_tmp (j := 12) (by kernel_rfl) rfl rfl) (slice_to C zs.length e n (by omega)) rfl
      · exact ob_part ⟨by kernel_rfl, (atS (atS (atS (atS (atS (atS (atS (atS (atS (atS (atS (atS (atS (atS (at0 _ _))))))))))))))), ⟨_, rfl, by exact (by decide : 58 < 65)⟩, (.inl rfl)⟩ _ rfl C n e (zs.take n) (ev_tmp (j := 13) (by kernel_rfl) rfl rfl) (by rw [List.length_take]; omega) (by rw [List.length_take]; omega) (HBz.out.take n) (fun w' hr => Hz.out w' hr) rfl
      · exact ob_sum1 ⟨by kernel_rfl, (atS (atS (atS (atS (atS (atS (atS (atS (atS (atS (atS (atS (atS (atS (atS (at0 _ _)))))))))))))))), ⟨_, rfl, by exact (by decide : 59 < 65)⟩, (.inl rfl)⟩ _ _ rfl (zs.take n) (ev_tmp (j := 14) (by kernel_rfl) rfl rfl) (by rw [List.length_take]; omega) rfl
      · exact ob_bin ⟨by kernel_rfl, (atS (atS (atS (atS (atS (atS (atS (atS (atS (atS (atS (atS (atS (atS (atS (atS (at0 _ _))))))))))))))))), ⟨_, rfl, by exact (by decide : 60 < 65)⟩, (.inl rfl)⟩ .xor 24 24 _ _ rfl _ _ _ (ev_tmp (j := 10) (by kernel_rfl) rfl rfl) (ev_tmp (j := 15) (by kernel_rfl) rfl rfl) (guard_any _ _ _ _ _ _ _ _) (xor_run (Nat.xor_lt_two_pow (n := 32) (Crc.sum_lt _) (Crc.sum_lt _)) (Crc.sum_lt _)) rfl
      · exact ob_old ⟨by kernel_rfl, (atS (atS (atS (atS (atS (atS (atS (atS (atS (atS (atS (atS (atS (atS (atS (atS (atS (at0 _ _)))))))))))))))))), ⟨_, rfl, by exact (by decide : 61 < 65)⟩, (.inl rfl)⟩ 8 rfl (by kernel_rfl) (fun _ _ => rfl)
      · exact ob_part ⟨by kernel_rfl, (atS (atS (atS (atS (atS (atS (atS (atS (atS (atS (atS (atS (atS (atS (atS (atS (atS (atS (at0 _ _))))))))))))))))))), ⟨_, rfl, by exact (by decide : 62 < 65)⟩, (.inl rfl)⟩ _ rfl (some ⟨g, 0, none⟩) n n ds (ev_tmp (j := 17) (by kernel_rfl) rfl rfl) HL.out (by rw [HL.out]; exact Nat.le_refl _) HD.out (fun w' hr => Hd.out w' hr) rfl
      · exact ob_sum1 ⟨by kernel_rfl, (atS (atS (atS (atS (atS (atS (atS (atS (atS (atS (atS (atS (atS (atS (atS (atS (atS (atS (atS (at0 _ _)))))))))))))))))))), ⟨_, rfl, by exact (by decide : 63 < 65)⟩, (.inl rfl)⟩ _ _ rfl ds (ev_tmp (j := 18) (by kernel_rfl) rfl rfl) (by rw [HL.out]; omega) (by rw [← HE.out]; rfl)
      · exact ob_bin ⟨by kernel_rfl, (atS (atS (atS (atS (atS (atS (atS (atS (atS (atS (atS (atS (atS (atS (atS (atS (atS (atS (atS (atS (at0 _ _))))))))))))))))))))), ⟨_, rfl, by exact (by decide : 64 < 65)⟩, (.inl rfl)⟩ .eql 24 24 _ _ rfl _ _ _ (ev_tmp (j := 16) (by kernel_rfl) rfl rfl) (ev_tmp (j := 19) (by kernel_rfl) rfl rfl) (guard_any _ _ _ _ _ _ _ _) (eql_run _) rfl
      · exact ob_assign ⟨by kernel_rfl, (atS (atS (atS (atS (atS (atS (atS (atS (atS (atS (atS (atS (atS (atS (atS (atS (atS (atS (atS (atS (atS (at0 _ _)))))))))))))))))))))), ⟨_, rfl, by exact (by decide : 6 < 65)⟩, (.inl rfl)⟩ 20 64 rfl (by kernel_rfl) rfl rfl
      · intro a' w' hG hdf hsz hold hr
        have hv : a'.tmps.getD 6 undef = .bool true := hG 21 6 (by exact (by decide : 21 < 22)) rfl
        have HF := Lib.hid (HB.out.drew.trans (hr.mono (show w.heap.size ≤ wr.heap.size from hzw)))
        clear hr hG hold hsz
        go_wp2
        refine bodyPost_ret (results_tmp rfl _ _ _) hdf ⟨?_, HF.out⟩
        rw [hv]
end Go.Proofs.Ytidmcccbblmmeaa
