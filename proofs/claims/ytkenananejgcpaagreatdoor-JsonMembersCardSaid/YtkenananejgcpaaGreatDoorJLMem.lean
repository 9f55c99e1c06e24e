/-
  The walk of the statement JsonMembers.
-/
import Derived.Test.YtkenananejgcpaaGreatDoorJKd
import Derived.Test.YtkenananejgcpaaGreatDoorJAnc2
import Derived.Test.YtkenananejgcpaaGreatDoorT3
import Derived.Lib.ItoaLen
namespace Go.Proofs.YtkenananejgcpaaGreatDoor.Jsn
open Go.RowKit Txt
abbrev names1 (ns : List (List UInt8)) : List Value := ns.map fun n => .string (mk n)
theorem take_succ {ns : List (List UInt8)} {k : Nat} {n : List UInt8} (hn : ns[k]? = some n) : ns.take (k + 1) = ns.take k ++ [n] := by rw [List.take_add_one, hn]; rfl
theorem take_len {ns : List (List UInt8)} {k : Nat} (hk : k ≤ ns.length) : (ns.take k).length = k := by simp; omega
set_option maxRecDepth 100000
set_option maxHeartbeats 1000000 in
theorem members_long (w : World) (ns : List (List UInt8)) (A : Option Addr) (c : Nat) (nm : List UInt8) (he : Env w) (h : 20 < ns.length) :
    Calls Tryz.prog 4 #[.slice A ns.length c, .string (mk nm)] w fun e w' => e = .returned (.bool true) ∧ Below w.heap.size w w' := by
  have h1 : (20 : Int) < ns.length := by omega
  have HE := Lib.hid he
  clear he h
  go_enter Tryz.func4, Tryz.ntmps4
  go_wp2_with fail
  refine (anchor_any w HE.out.tabs (by have := HE.out.size; show 3 + 1 ≤ _; omega)).mono ?_
  rintro e w1 ⟨rfl, hb1⟩
  have HB1 := Lib.hid hb1
  clear hb1
  go_wp2
  go_ret
  exact ⟨rfl, HB1.out⟩
set_option maxHeartbeats 8000000 in
theorem members_ok (w : World) (ns : List (List UInt8)) (A : Option Addr) (c : Nat) (nm : List UInt8) (he : Env w) (hr : Rd w w.heap.size A (names1 ns)) (hc : ns.length ≤ c) (hns : ∀ n ∈ ns, n.length ≤ 140737488351232) (hl : ns.length ≤ 20) :
    Calls Tryz.prog 4 #[.slice A ns.length c, .string (mk nm)] w fun e w' => e = .returned (.bool true) ∧ Below w.heap.size w w' := by
  have h1 : ¬ (20 : Int) < ns.length := by omega
  have hms := mk_size
  have hmt := mk_toList
  have HE := Lib.hid he
  have HR := Lib.hid hr
  have HNS := Lib.hid hns
  clear he hr hns
  go_enter Tryz.func4, Tryz.ntmps4
  go_wp2_with fail
  refine (anchor_any w HE.out.tabs (by have := HE.out.size; show 3 + 1 ≤ _; omega)).mono ?_
  rintro e w1 ⟨rfl, hb1⟩
  have HB1 := Lib.hid hb1
  have HE1 := Lib.hid (HE.out.below hb1 HE.out.size)
  have HR1 := Lib.hid ((HR.out.below hb1).more hb1.size)
  clear hb1 HE HR
  go_wp2
  go_loopw [5, 6, 7, 26] (fun v5 v6 v7 v26 wr => ∃ k : Nat, k ≤ ns.length ∧ v26 = .int .i64 k ∧ wr.ownsRow w1.heap.size MT 6 v5 k (rowsOf (ns.take k) 0) ∧ v6 = .int .i64 (findAt nm (memsOf (ns.take k) 0) 0) ∧ v7 = .bool (namesOk [] (memsOf (ns.take k) 0)) ∧ Below w1.heap.size w1 wr) (fun _ _ _ v26 _ => ns.length - (intOf v26).toNat)
  case atStart => exact ⟨0, by omega, rfl, ⟨by simp [rowsOf], .inl ⟨rfl, rfl⟩⟩, by simp [memsOf, findAt], by simp [memsOf, namesOk], Below.refl _ _⟩
  case round =>
    obtain ⟨k, hk, rfl, hown, rfl, rfl, hb⟩ := hrel
    have HB := Lib.hid hb
    have HO := Lib.hid hown
    clear hb hown
    by_cases hlt : k < ns.length
    · obtain ⟨n, hn⟩ : ∃ n, ns[k]? = some n := ⟨ns[k], List.getElem?_eq_getElem hlt⟩
      obtain ⟨ad, rfl, had, hcell⟩ := HR1.out (by simp; omega)
      have cn := hcell k (.string (mk n)) (by simp [hn])
      have cn' : ∀ W, Below w1.heap.size w1 W → W.cell? (ad.add k) = some (.string (mk n)) := fun W hb => (hb.cell (by rw [block_add]; exact had)).trans cn
      have hnl := HNS.out n (List.mem_of_getElem? hn)
      have cr := cn' _ HB.out
      have HCN := Lib.hid cn'
      have hz0 := findAt_lt nm (memsOf (ns.take k) 0) 0
      have hzs : findAt nm (memsOf (ns.take (k + 1)) 0) 0 = if findAt nm (memsOf (ns.take k) 0) 0 = -1 then (if n = nm then (k : Int) else -1) else findAt nm (memsOf (ns.take k) 0) 0 := by
        rw [take_succ hn, memsOf_snoc, findAt_snoc, memsOf_length, Nat.zero_add, take_len hk]
        rfl
      have hus : namesOk [] (memsOf (ns.take (k + 1)) 0) = (namesOk [] (memsOf (ns.take k) 0) && decide (wrong n 0 < 0) && (ns.take k).all fun t => !(t == n)) := by
        rw [take_succ hn, memsOf_snoc, namesOk_snoc, memsOf_names, List.nil_append, Bool.and_assoc]
        rfl
      have hrs : rowsOf (ns.take (k + 1)) 0 = rowsOf (ns.take k) 0 ++ row6 n k := by rw [take_succ hn, rowsOf_snoc, Nat.zero_add, take_len hk]
      have HZS := Lib.hid hzs
      have HUS := Lib.hid hus
      have HRS := Lib.hid hrs
      have HN := Lib.hid hn
      have HCELL := Lib.hid hcell
      have hkl : (k : Int) < (ns.length : Int) := by omega
      clear hzs hus hrs cn cn' hn hcell
      generalize findAt nm (memsOf (ns.take k) 0) 0 = z at *
      generalize namesOk [] (memsOf (ns.take k) 0) = u at *
      go_wp2_with fail
      refine (num_any (k : Int) (by omega) (by omega) wr (HE1.out.below HB.out HE1.out.size)).mono ?_
      rintro e w2 ⟨rfl, hb2⟩
      have hb12 := HB.out.trans (hb2.mono HB.out.size)
      have HB2 := Lib.hid hb12
      have HO2 := Lib.hid (row_below HO.out hb2)
      clear hb2 hb12 HO HB
      have hz3 : (n = nm ∧ z = -1) ∨ (n = nm ∧ 0 ≤ z) ∨ (n == nm) = false := by
        by_cases h : n = nm
        · rcases hz0 with h0 | ⟨j, h0, _⟩
          · exact .inl ⟨h, h0⟩
          · exact .inr (.inl ⟨h, by rw [h0]; omega⟩)
        · exact .inr (.inr (by rw [beq_eq_false_iff_ne]; exact h))
      obtain ⟨D, hD⟩ : ∃ D : List UInt8 → Bool, D = fun t => !(t == n) := ⟨_, rfl⟩
      have HD : Hid (∀ t, D t = !(t == n)) := Lib.hid (fun t => by rw [hD])
      rw [← hD] at HUS
      have hu3 : ∃ U : Bool, (u = false ∧ U = false ∨ u = true ∧ wrong n 0 < 0 ∧ U = true ∨ u = true ∧ ¬ wrong n 0 < 0 ∧ U = false) ∧ Hid (namesOk [] (memsOf (ns.take (k + 1)) 0) = (U && (ns.take k).all D)) := by
        cases u with
        | false => exact ⟨false, .inl ⟨rfl, rfl⟩, Lib.hid (by rw [HUS.out]; simp)⟩
        | true =>
          by_cases h : wrong n 0 < 0
          · exact ⟨true, .inr (.inl ⟨rfl, h, rfl⟩), Lib.hid (by rw [HUS.out]; simp [h])⟩
          · exact ⟨false, .inr (.inr ⟨rfl, h, rfl⟩), Lib.hid (by rw [HUS.out]; simp [h])⟩
      obtain ⟨U, hU3, HU⟩ := hu3
      have HW := Lib.hid (fun w => rwrong_any n w hnl)
      have hkc : k ≤ c := by omega
      clear HUS hz0 hD
      generalize wrong n 0 = r at *
      rcases hz3 with ⟨hnn, rfl⟩ | ⟨hnn, hz⟩ | hnn
      case' inl => (subst hnn; have HZ := Lib.hid (HZS.out.trans (by rw [if_pos rfl, if_pos rfl])); clear HZS)
      case' inr.inl => (subst hnn; have HZ := Lib.hid (HZS.out.trans (by rw [if_neg (by omega)])); clear HZS)
      case' inr.inr => (have HZ : Hid (findAt nm (memsOf (ns.take (k + 1)) 0) 0 = z) := Lib.hid (HZS.out.trans (by rw [beq_eq_false_iff_ne] at hnn; rw [if_neg hnn]; split <;> simp_all)); clear HZS)
      all_goals
        rcases hU3 with ⟨rfl, hU⟩ | ⟨rfl, hr, hU⟩ | ⟨rfl, hr, hU⟩
      all_goals try (have hdr := decide_eq_true hr)
      all_goals try (have hdr := decide_eq_false hr)
      all_goals
        have HUU := Lib.hid hU
        clear hU
        go_wp2_with (at_builtin; go_loud (refine wpList_append_elem rfl _ _ 25 37 rfl w1.heap.size 6 96 _ Tryz.underlying25 info_member rfl (by decide) (by decide) _ k (rowsOf (ns.take k) 0) (row6 _ k) rfl HO2.out rfl (by intro u hu; simp at hu; rcases hu with rfl | rfl | rfl | rfl | rfl | rfl <;> rfl) rfl (by omega) HB2.out.size _ rfl ?_); intro v5 w3 hown3 hbel3 _)
        try (refine (HW.out _).mono ?_; rintro e w4 ⟨rfl, rfl⟩; go_wp2)
        clear HW HO2
        have HB3 := Lib.hid (HB2.out.trans hbel3)
        have HO3 := Lib.hid hown3
        have hmk : k + 1 ≤ ns.length := hlt
        clear hown3 hbel3
        go_loopw [7, 56] (fun v7 v56 wr' => ∃ (j : Nat) (b : Bool), j ≤ k ∧ v56 = .int .i64 j ∧ v7 = .bool b ∧ b = (U && (ns.take j).all D) ∧ wr' = w3) (fun _ v56 _ => k - (intOf v56).toNat)
        case atStart => exact ⟨0, _, by omega, rfl, rfl, by rw [HUU.out]; rfl, rfl⟩
        case round =>
          obtain ⟨j, b, hj, rfl, rfl, hb, rfl⟩ := hrel
          have HBB := Lib.hid hb
          clear hb
          by_cases hjk : j < k
          · obtain ⟨t, ht⟩ : ∃ t, ns[j]? = some t := ⟨ns[j]'(by omega), List.getElem?_eq_getElem (by omega)⟩
            have ct := (HB3.out.cell (p := ad.add j) (by rw [block_add]; exact had)).trans (HCELL.out j (.string (mk t)) (by simp [ht]))
            have HTK := Lib.hid (take_succ ht)
            have hjl : (j : Int) < (k : Int) := by omega
            clear ht
            have HNB := Lib.hid (fun (b' : Bool) (h : b' = (b && D t)) => (show b' = (U && (ns.take (j + 1)).all D) by rw [h, HBB.out, HTK.out, List.all_append]; simp [Bool.and_assoc]))
            have HDT := Lib.hid (HD.out t)
            clear HBB HTK
            cases b with
            | false =>
              go_wp2
              exact ⟨⟨j + 1, false, by omega, by push_cast; rfl, rfl, HNB.out false (by simp), trivial⟩, by simp only [intOf]; omega⟩
            | true =>
              cases htn : (t == n) with
              | false =>
                rw [htn] at HDT
                go_wp2
                exact ⟨⟨j + 1, true, by omega, by push_cast; rfl, rfl, HNB.out true (by rw [HDT.out]; rfl), trivial⟩, by simp only [intOf]; omega⟩
              | true =>
                rw [htn] at HDT
                go_wp2
                exact ⟨⟨j + 1, false, by omega, by push_cast; rfl, rfl, HNB.out false (by rw [HDT.out]; rfl), trivial⟩, by simp only [intOf]; omega⟩
          · obtain rfl : j = k := by omega
            have HBU : Hid (namesOk [] (memsOf (ns.take (j + 1)) 0) = b) := Lib.hid (by rw [HU.out, HBB.out])
            clear HBB
            go_wp2
            exact ⟨⟨j + 1, hmk, by push_cast; rfl, by rw [HRS.out]; exact HO3.out, by rw [HZ.out], by rw [HBU.out], HB3.out⟩, by simp only [intOf]; omega⟩
    · obtain rfl : k = ns.length := by omega
      have hO := HO.out
      rw [List.take_length] at hO ⊢
      obtain ⟨B, cc, rfl, hM⟩ := own_mems hO
      have hsz := objOf_size ns
      have hlo := objOf_loose ns HNS.out (by omega)
      have hrt := objOf_right ns
      have hgt := objOf_got ns nm
      have HC1 := Lib.hid (obj_any (memsOf ns 0) B cc wr hM (by show (objOf ns).size ≤ _; omega) hlo)
      rw [memsOf_length, show V.mk 6 false [] [] (memsOf ns 0) = objOf ns from rfl] at HC1
      clear hO hM HO HNS HR1 h1
      generalize findAt nm (memsOf ns 0) 0 = z at *
      generalize namesOk [] (memsOf ns 0) = u at *
      generalize objOf ns = y at *
      have HRT := Lib.hid hrt
      have HLO := Lib.hid hlo
      clear hrt hlo
      go_wp2_with fail
      refine HC1.out.mono ?_
      rintro e w2 ⟨val, rfl, hh, hb2⟩
      obtain ⟨A2, ca2, B2, cb2, rfl, -⟩ := id hh
      have HB2 := Lib.hid (HB.out.trans (hb2.mono HB.out.size))
      clear hb2 HC1
      obtain ⟨W2, hW2⟩ : ∃ W2, w2.alloc (.cells #[.int .i64 y.kind, .bool y.yes, .string (mk y.text), .slice A2 (y.list.length : Nat) ca2, .slice B2 (y.mem.length : Nat) cb2] 27) = W2 := ⟨_, rfl⟩
      have s2 : W2.heap.size = w2.heap.size + 1 := by rw [← hW2]; simp
      have b2 : Below w2.heap.size w2 W2 := by rw [← hW2]; exact (Below.refl _ _).alloc (Nat.le_refl _) _
      have q2 : Blk W2 w2.heap.size 27 #[.int .i64 y.kind, .bool y.yes, .string (mk y.text), .slice A2 (y.list.length : Nat) ca2, .slice B2 (y.mem.length : Nat) cb2] := by rw [← hW2]; exact Blk.new w2 _ _
      have hh2 := hh.kept (fun q _ hl => b2.block q hl)
      have HG := Lib.hid (get_any y _ nm W2 hh2.holds (by omega) HLO.out)
      have c20 := q2.cell 0
      have c21 := q2.cell 1
      have c22 := q2.cell 2
      have c23 := q2.cell 3
      have c24 := q2.cell 4
      have HQ2 := Lib.hid q2
      have HH2 := Lib.hid hh2
      have HBW2 := Lib.hid (HB2.out.trans (b2.mono HB2.out.size))
      clear hh q2 hh2 b2 HB2 HB
      go_wp2_with fail
      refine HG.out.mono ?_
      rintro e w3 ⟨val3, rfl, hh3, hb3⟩
      have hgg : ∃ (y3 : V) (ok : Bool) (nI : Int), (y.got nm).getD V.zero = y3 ∧ (y.got nm).isSome = ok ∧ ((ok = false ∧ z = -1) ∨ (ok = true ∧ nI = z ∧ 0 ≤ z)) ∧ ∀ (val : Value) (W : World) (Pd : Nat → Prop), Env W → HoldsP Pd W val y3 → Calls Tryz.prog 8 #[val] W fun e w' => e = .returned (.tuple #[.int .i64 nI, .bool ok]) ∧ Below W.heap.size W w' := by
        rcases hgt with ⟨hg, hz⟩ | ⟨j, hj, hg, hz⟩
        · exact ⟨V.zero, false, 0, by rw [hg]; rfl, by rw [hg]; rfl, .inl ⟨rfl, hz⟩, fun val W Pd _ h => int_zero val W h⟩
        · exact ⟨nv j, true, j, by rw [hg]; rfl, by rw [hg]; rfl, .inr ⟨rfl, hz.symm, by omega⟩, fun val W Pd hE h => int_num j (by omega) val W hE h⟩
      obtain ⟨y3, ok, nI, hy3, hok, hz, CI⟩ := hgg
      rw [hok]
      rw [hy3] at hh3
      obtain ⟨A3, ca3, B3, cb3, rfl, -⟩ := id hh3
      have hq3 := HQ2.out.below hb3 HQ2.out.lt
      have hy33 := HH2.out.kept (fun q _ hl => hb3.block q hl)
      have HB3 := Lib.hid (HBW2.out.trans (hb3.mono HBW2.out.size))
      have s3z := hb3.size
      clear hgt hy3 hok hb3 HG HQ2 HH2 HBW2 c20 c21 c22 c23 c24 hW2
      obtain ⟨W3, hW3⟩ : ∃ W3, w3.alloc (.cells #[.int .i64 y3.kind, .bool y3.yes, .string (mk y3.text), .slice A3 (y3.list.length : Nat) ca3, .slice B3 (y3.mem.length : Nat) cb3] 27) = W3 := ⟨_, rfl⟩
      have s3 : W3.heap.size = w3.heap.size + 1 := by rw [← hW3]; simp
      have b3 : Below w3.heap.size w3 W3 := by rw [← hW3]; exact (Below.refl _ _).alloc (Nat.le_refl _) _
      have q3 : Blk W3 w3.heap.size 27 #[.int .i64 y3.kind, .bool y3.yes, .string (mk y3.text), .slice A3 (y3.list.length : Nat) ca3, .slice B3 (y3.mem.length : Nat) cb3] := by rw [← hW3]; exact Blk.new w3 _ _
      have hq3' := hq3.below b3 hq3.lt
      have HY3 := Lib.hid (hy33.kept (fun q _ hl => b3.block q hl))
      have HB3' := Lib.hid (HB3.out.trans (b3.mono HB3.out.size))
      have HI := Lib.hid (CI _ W3 _ (HE1.out.below HB3'.out HE1.out.size) (hh3.kept (fun q _ hl => b3.block q hl)))
      have HQ3 := Lib.hid hq3'
      have c30 := q3.cell 0
      have c31 := q3.cell 1
      have c32 := q3.cell 2
      have c33 := q3.cell 3
      have c34 := q3.cell 4
      clear hq3 hq3' hy33 hh3 b3 q3 HB3 CI
      go_wp2_with fail
      refine HI.out.mono ?_
      rintro e w4 ⟨rfl, hb4⟩
      have hq4 := HQ3.out.below hb4 HQ3.out.lt
      have HY4 := Lib.hid (HY3.out.kept (fun q _ hl => hb4.block q hl))
      have HB4 := Lib.hid (HB3'.out.trans (hb4.mono HB3'.out.size))
      have s4z := hb4.size
      clear hb4 HI HQ3 HY3 HB3' c30 c31 c32 c33 c34 hW3
      obtain ⟨W4, hW4⟩ : ∃ W4, w4.alloc (.cells #[.int .i64 y.kind, .bool y.yes, .string (mk y.text), .slice A2 (y.list.length : Nat) ca2, .slice B2 (y.mem.length : Nat) cb2] 27) = W4 := ⟨_, rfl⟩
      have s4 : W4.heap.size = w4.heap.size + 1 := by rw [← hW4]; simp
      have b4 : Below w4.heap.size w4 W4 := by rw [← hW4]; exact (Below.refl _ _).alloc (Nat.le_refl _) _
      have q4 : Blk W4 w4.heap.size 27 #[.int .i64 y.kind, .bool y.yes, .string (mk y.text), .slice A2 (y.list.length : Nat) ca2, .slice B2 (y.mem.length : Nat) cb2] := by rw [← hW4]; exact Blk.new w4 _ _
      have hq4' := hq4.below b4 hq4.lt
      have hv4 : Vals W4 (some ⟨w4.heap.size, 0, none⟩) [y] := ⟨fun _ => rfl, fun i x hx => by
        have hi : i = 0 := by have := (List.getElem?_eq_some_iff.1 hx).1; simp at this; omega
        subst hi
        simp at hx
        subst hx
        have := (HY4.out.holds).box 27
        rw [hW4] at this
        rw [Option.getD_some, Nat.zero_mul, add0]
        exact this⟩
      have hls : (V.mk 5 false [] [y] []).loose := by
        rw [V.loose_eq]
        refine ⟨by simp [V.text], by simp [V.mem], fun x hx => ?_⟩
        simp [V.kids, V.kind, V.list, V.mem] at hx
        rw [hx]
        exact HLO.out
      have hlz : (V.mk 5 false [] [y] []).size ≤ 90000 := by simp [V.size, sizeL, sizeM]; omega
      have HL := Lib.hid (list_of_any [y] (some ⟨w4.heap.size, 0, none⟩) 1 W4 hv4 hlz hls)
      have hlg : (V.mk 5 false [] [y] []).got nm = none := by unfold V.got; rw [if_neg (by simp [V.kind])]
      have HLG := Lib.hid hlg
      have HLS := Lib.hid hls
      have HY4' := Lib.hid (HY4.out.kept (fun q _ hl => b4.block q hl))
      have HB4' := Lib.hid (HB4.out.trans (b4.mono HB4.out.size))
      have HQ4 := Lib.hid hq4'
      simp only [List.length_cons, List.length_nil, Nat.zero_add] at HL
      have c40 := hq4.cell 0
      have c41 := hq4.cell 1
      have c42 := hq4.cell 2
      have c43 := hq4.cell 3
      have c44 := hq4.cell 4
      clear hq4 hq4' hv4 hls hlg b4 q4 HB4 HY4
      generalize hyl : V.mk 5 false [] [y] [] = yl at *
      clear hyl
      go_wp2_with fail
      refine HL.out.mono ?_
      rintro e w5 ⟨val5, rfl, hh5, hb5⟩
      have HG5 := Lib.hid (get_any yl val5 nm w5 hh5.holds hlz HLS.out)
      rw [HLG.out] at HG5
      obtain ⟨A5, ca5, B5, cb5, rfl, -⟩ := id hh5
      have HQ5 := Lib.hid (HQ4.out.below hb5 HQ4.out.lt)
      have HY5 := Lib.hid (HY4'.out.kept (fun q _ hl => hb5.block q hl))
      have HB5 := Lib.hid (HB4'.out.trans (hb5.mono HB4'.out.size))
      have s5z := hb5.size
      clear hh5 hb5 HL HQ4 HY4' HB4' c40 c41 c42 c43 c44 hW4 HLG HLS
      go_wp2_with fail
      refine HG5.out.mono ?_
      rintro e w7 ⟨val7, rfl, hh7, hb7⟩
      obtain ⟨A7, ca7, B7, cb7, rfl, -⟩ := id hh7
      simp only [Option.isSome_none, Option.getD_none, V.zero, V.kind, V.yes, V.text, V.list, V.mem, List.length_nil]
      have hq7 := HQ5.out.below hb7 HQ5.out.lt
      have hy7 := HY5.out.kept (fun q _ hl => hb7.block q hl)
      have HB7 := Lib.hid (HB5.out.trans (hb7.mono HB5.out.size))
      have s7z := hb7.size
      clear hh7 hb7 HG5 HQ5 HY5 HB5
      obtain ⟨W7, hW7⟩ : ∃ W7, w7.alloc (.cells #[.int .i64 0, .bool false, .string (mk []), .slice A7 0 ca7, .slice B7 0 cb7] 27) = W7 := ⟨_, rfl⟩
      have s7 : W7.heap.size = w7.heap.size + 1 := by rw [← hW7]; simp
      have b7 : Below w7.heap.size w7 W7 := by rw [← hW7]; exact (Below.refl _ _).alloc (Nat.le_refl _) _
      have q7 : Blk W7 w7.heap.size 27 #[.int .i64 0, .bool false, .string (mk []), .slice A7 0 ca7, .slice B7 0 cb7] := by rw [← hW7]; exact Blk.new w7 _ _
      have hq7' := hq7.below b7 hq7.lt
      have HB7' := Lib.hid (HB7.out.trans (b7.mono HB7.out.size))
      have HRR := Lib.hid (right_any y _ W7 (hy7.kept (fun q _ hl => b7.block q hl)).holds HLO.out (by omega) (HE1.out.tabs.below HB7'.out (by have := HE1.out.size; show 3 + 1 ≤ _; omega)) (by have := HE1.out.size; have := HB7'.out.size; show 3 + 1 ≤ _; omega))
      rw [HRT.out] at HRR
      have c70 := hq7'.cell 0
      have c71 := hq7'.cell 1
      have c72 := hq7'.cell 2
      have c73 := hq7'.cell 3
      have c74 := hq7'.cell 4
      clear hq7 hq7' hy7 b7 q7 HB7
      go_wp2_with fail
      refine HRR.out.mono ?_
      rintro e w8 ⟨rfl, hb8⟩
      have HB8 := Lib.hid (HB1.out.trans ((HB7'.out.trans (hb8.mono HB7'.out.size)).mono HB1.out.size))
      clear hb8 HRR c70 c71 c72 c73 c74 hW7
      rcases hz with ⟨rfl, rfl⟩ | ⟨rfl, rfl, hz⟩
      · cases u
        all_goals
          go_wp2
          go_ret
          exact ⟨rfl, HB8.out⟩
      · have hz' : ¬ nI < 0 := by omega
        cases u
        all_goals
          go_wp2
          go_ret
          exact ⟨by simp, HB8.out⟩
end Go.Proofs.YtkenananejgcpaaGreatDoor.Jsn
