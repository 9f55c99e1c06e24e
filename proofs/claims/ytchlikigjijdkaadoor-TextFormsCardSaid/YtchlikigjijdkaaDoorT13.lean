/-
  What the document's Parts and one answer; nothing that was there before is changed.
-/
import Derived.Test.YtchlikigjijdkaaDoorT8
import Derived.Test.YtchlikigjijdkaaDoorT11
namespace Go.Proofs.YtchlikigjijdkaaDoor.Txt
open Go.RowKit
set_option maxRecDepth 100000
/-- Strings' cells. -/
def strs (l : List (List UInt8)) : List Value := l.map fun x => .string (mk x)
theorem strs_length (l : List (List UInt8)) : (strs l).length = l.length := by simp [strs]
theorem strs_get (l : List (List UInt8)) (i : Nat) (x : List UInt8) (h : l[i]? = some x) : (strs l)[i]? = some (.string (mk x)) := by simp [strs, h]
abbrev OwnS (w : World) (base : Nat) (v : Value) (l : List (List UInt8)) : Prop := w.ownsRow base 9 1 v l.length (strs l)
/-- append(out, x) of one string, in a slice that was made for it. -/
theorem wpList_append_str {w : World} {ops : Array Oper} {rest : List Oper} {o : Oper} {a : Act} {Q : Exit → Act → World → Prop} (hgd : o.guard = none) (s x : Operand)
    (ho : o.op = .call { callee := .builtin .append, args := #[s, x], argTypes := #[65, 65] }) (base : Nat) (v : Value) (l : List (List UInt8)) (hs : a.eval s = v) (hown : OwnS w base v l)
    (y : List UInt8) (hx : a.eval x = .slice (some ⟨w.heap.size, 0, none⟩) 1 1) (hb : l.length + 1 ≤ 1000000) (hbase : base ≤ w.heap.size)
    (h : ∀ v' w', OwnS w' base v' (l ++ [y]) → Below base w w' → wpList Tryd.prog ops Q rest (a.put o.dst v') w') :
    wpList Tryd.prog ops Q (o :: rest) a (w.alloc (.cells #[.string (mk y)] 9)) := by
  refine wpList_append_elem hgd s x 65 9 ho base 1 16 _ Tryd.underlying65 info9 rfl (by decide) (by decide) v l.length (strs l) [.string (mk y)] hs hown rfl (by intro u hu; rw [List.mem_singleton.1 hu]; rfl) hx hb hbase _ rfl (fun v' w' h1 h2 _ => h v' w' ?_ h2)
  show w'.ownsRow _ _ _ _ _ _
  rw [List.length_append, show strs (l ++ [y]) = strs l ++ [.string (mk y)] by simp [strs]]
  exact h1
/-- What Parts hands back. -/
def Parted (r : List (List UInt8)) (w' : World) (e : Ending) : Prop := ∃ A c, e = .returned (.slice A r.length c) ∧ Rd w' w'.heap.size A (strs r)
set_option maxHeartbeats 4000000 in
theorem parts_any (l : List UInt8) (c : UInt8) (k : Int) (hkc : k = (c.toNat : Nat)) (w : World) (hl : l.length ≤ 100000) :
    Calls Tryd.prog 32 #[.string (mk l), .int .u8 k] w fun e w' => Parted (split c l) w' e ∧ Below w.heap.size w w' := by
  subst hkc
  have hms := mk_size
  have hmt := mk_toList
  go_enter Tryd.func32, Tryd.ntmps32
  go_wp2
  go_loopw [5, 6, 7] (fun v a i wr => ∃ (out : List (List UInt8)) (last n : Nat), a = .int .i64 last ∧ i = .int .i64 n ∧ out.length ≤ n ∧ ((n ≤ l.length ∧ last ≤ n ∧ out ++ split c (l.drop last) = split c l ∧ c ∉ (l.drop last).take (n - last)) ∨ (n = l.length + 1 ∧ out = split c l)) ∧ OwnS wr w.heap.size v out ∧ Below w.heap.size w wr) (fun _ _ i _ => l.length + 1 - (intOf i).toNat)
  case atStart => exact ⟨[], 0, 0, rfl, rfl, by simp, .inl ⟨by omega, by omega, rfl, by simp⟩, ⟨rfl, .inl ⟨rfl, rfl⟩⟩, Below.refl _ _⟩
  case round =>
    obtain ⟨out, last, n, rfl, rfl, hon, hst, hrow, hb⟩ := hrel
    have HO := Lib.hid hrow
    have HB := Lib.hid hb
    clear hrow hb
    rcases hst with ⟨hn, hln, hsp, hno⟩ | ⟨hn, hsp⟩
    · by_cases hlt : n < l.length
      · have hix : ∀ w, (Instr.index 9 (.string (mk l)) (.int .i64 (n : Int))).run Tryd.prog w = .ok (.int .u8 ((l.getD n 0).toNat : Nat)) w := fun w => run_idx w l .i64 n hlt
        have hpt : ∀ w, (Instr.slice 9 (.string (mk l)) (some (.int .i64 (last : Int))) (some (.int .i64 (n : Int))) none).run Tryd.prog w = .ok (.string (mk ((l.drop last).take (n - last)))) w := fun w => run_part w l .i64 .i64 last n hln hn
        have hne : ((n : Int) == (l.length : Int)) = false := by rw [beq_eq_false_iff_ne]; omega
        have hcut : l.drop last = (l.drop last).take (n - last) ++ l.getD n 0 :: l.drop (n + 1) := by
          have e1 : (l.drop last).drop (n - last) = l.getD n 0 :: l.drop (n + 1) := by
            rw [List.drop_drop, show last + (n - last) = n by omega, List.drop_eq_getElem_cons hlt]
            congr 1
            simp [List.getD_eq_getElem?_getD, List.getElem?_eq_getElem hlt]
          rw [← e1, List.take_append_drop]
        by_cases hc : l.getD n 0 = c
        · rw [hc] at hcut
          have HE : Hid ((out ++ [(l.drop last).take (n - last)]) ++ split c (l.drop (n + 1)) = split c l) := Lib.hid (by
            rw [← hsp]
            conv => rhs; rw [hcut, split_at _ _ _ hno]
            simp)
          have hq : (((l.getD n 0).toNat : Int) == (c.toNat : Int)) = true := by rw [hc, beq_iff_eq]
          have hcl := Lib.hid hc
          clear hcut hsp hno hc
          generalize (l.drop last).take (n - last) = y at *
          generalize (l.getD n 0).toNat = b at *
          go_wp2_with (at_builtin; refine wpList_append_str rfl _ _ rfl w.heap.size _ out rfl HO.out y rfl (by omega) HB.out.size ?_; intro v6 w6 hown6 hbel6)
          have HO6 := Lib.hid hown6
          have HB6 : Hid (Below w.heap.size w w6) := Lib.hid (HB.out.trans hbel6)
          clear hown6 hbel6 HO HB
          go_wp2
          go_roundw
          case rel => exact ⟨out ++ [y], n + 1, n + 1, by go_num, by go_num, by simp; omega, .inl ⟨by omega, by omega, HE.out, by simp⟩, HO6.out, HB6.out⟩
          case measure => simp [intOf]; omega
        · have HE : Hid (c ∉ (l.drop last).take (n + 1 - last)) := Lib.hid (by
            have e2 : (l.drop last).take (n + 1 - last) = (l.drop last).take (n - last) ++ [l.getD n 0] := by
              conv => lhs; rw [hcut]
              have hlen : ((l.drop last).take (n - last)).length = n - last := by rw [List.length_take, List.length_drop]; omega
              rw [List.take_append, hlen, List.take_of_length_le (by omega), show n + 1 - last - (n - last) = 1 by omega]
              rfl
            rw [e2, List.mem_append, List.mem_singleton]
            rintro (h | h)
            · exact hno h
            · exact hc h.symm)
          have hq : (((l.getD n 0).toNat : Int) == (c.toNat : Int)) = false := by
            rw [beq_eq_false_iff_ne]
            intro h
            exact hc (UInt8.toNat_inj.1 (by omega))
          have HS := Lib.hid hsp
          clear hcut hsp hno hc
          generalize (l.getD n 0).toNat = b at *
          go_wp2
          go_roundw
          case rel => exact ⟨out, last, n + 1, rfl, by go_num, by omega, .inl ⟨by omega, by omega, HS.out, HE.out⟩, HO.out, HB.out⟩
          case measure => simp [intOf]; omega
      · have hnl : n = l.length := by omega
        have htk : (l.drop last).take (n - last) = l.drop last := List.take_of_length_le (by rw [List.length_drop]; omega)
        have hpt : ∀ w, (Instr.slice 9 (.string (mk l)) (some (.int .i64 (last : Int))) (some (.int .i64 (n : Int))) none).run Tryd.prog w = .ok (.string (mk (l.drop last))) w := fun w => by rw [run_part w l .i64 .i64 last n hln hn, htk]
        rw [htk] at hno
        have HE : Hid (out ++ [l.drop last] = split c l) := Lib.hid (by rw [← hsp, split_none _ _ hno])
        have hq : ((n : Int) == (l.length : Int)) = true := by rw [beq_iff_eq]; omega
        clear hnl htk hno hsp
        generalize l.drop last = y at *
        go_wp2_with (at_builtin; refine wpList_append_str rfl _ _ rfl w.heap.size _ out rfl HO.out y rfl (by omega) HB.out.size ?_; intro v6 w6 hown6 hbel6)
        have HO6 := Lib.hid hown6
        have HB6 : Hid (Below w.heap.size w w6) := Lib.hid (HB.out.trans hbel6)
        clear hown6 hbel6 HO HB
        go_wp2
        go_roundw
        case rel => exact ⟨out ++ [y], n + 1, n + 1, by go_num, by go_num, by simp; omega, .inr ⟨by omega, HE.out⟩, HO6.out, HB6.out⟩
        case measure => simp [intOf]; omega
    · have hgt : (l.length : Int) < (n : Int) := by omega
      obtain ⟨A, k, rfl, _, _, _, hRd, _⟩ := row_form (by rw [strs_length]; omega) HO.out
      have HP : Hid (Parted (split c l) wr (.returned (.slice A out.length k))) := Lib.hid ⟨A, k, by rw [hsp], by rw [← hsp]; exact hRd⟩
      clear hn hsp hRd
      go_wp2
      go_ret
      exact ⟨HP.out, HB.out⟩
set_option maxHeartbeats 4000000 in
theorem one_any (p : List UInt8) (w : World) (hl : p.length ≤ 100000) :
    Calls Tryd.prog 33 #[.string (mk p)] w fun e w' => e = .returned (pairE (one p)) ∧ Below w.heap.size w w' := by
  have hms := mk_size
  have hmt := mk_toList
  go_enter Tryd.func33, Tryd.ntmps33
  go_wp2_with fail
  refine (parts_any p 61 _ rfl _ hl).mono ?_
  rintro e w1 ⟨⟨A, k, rfl, hRd⟩, hb1⟩
  have hsz1 := hb1.size
  have hS : (w.alloc (.cells #[.string ⟨#[]⟩, .string ⟨#[]⟩] 39)).heap.size = w.heap.size + 1 := by simp
  rw [hS] at hsz1
  have HK1 := Lib.hid ((Blk.new w 39 #[.string ⟨#[]⟩, .string ⟨#[]⟩]).below hb1 (by simp))
  have HB1 : Hid (Below w.heap.size w w1) := Lib.hid (((Below.refl w.heap.size w).alloc (Nat.le_refl _) _).trans (hb1.mono (by simp)))
  have HR1 := Lib.hid hRd
  have HO : Hid (one p = if (split 61 p).length ≠ 2 then (([], []), 31) else two ((split 61 p).getD 0 []) ((split 61 p).getD 1 [])) := Lib.hid rfl
  have HLen := Lib.hid (split_lens 61 p)
  clear hb1 hS hRd
  generalize split 61 p = sp at *
  by_cases hsp : sp.length = 2
  · obtain ⟨a, b, rfl⟩ : ∃ a b, sp = [a, b] := by
      match sp, hsp with
      | [a, b], _ => exact ⟨a, b, rfl⟩
    have hal := HLen.out a (by simp)
    have hbl := HLen.out b (by simp)
    have HE : Hid (one p = two a b) := Lib.hid (by rw [HO.out, if_neg (by simp)]; rfl)
    obtain ⟨ad, rfl, hadb, hcs⟩ := HR1.out (by simp [strs])
    have d0 : w1.cell? ad = some (.string (mk a)) := by have := hcs 0 _ rfl; simpa [Addr.add] using this
    have d1 : w1.cell? ⟨ad.block, ad.off + 1, none⟩ = some (.string (mk b)) := hcs 1 _ rfl
    clear HO HLen HR1 hcs hsp
    have hln : ([a, b] : List (List UInt8)).length = 2 := rfl
    rw [hln]
    clear hln
    go_wp2_with fail
    refine (runescape_any a _ (by omega)).mono ?_
    rintro e w2 ⟨rfl, hb2⟩
    have d2 : w2.cell? ⟨ad.block, ad.off + 1, none⟩ = some (.string (mk b)) := (hb2.cell (p := ⟨ad.block, ad.off + 1, none⟩) hadb).trans d1
    have HK2 := Lib.hid (HK1.out.below hb2 (by omega))
    have HB2 : Hid (Below w.heap.size w w2) := Lib.hid (HB1.out.trans (hb2.mono (by omega)))
    have hsz2 := hb2.size
    clear hb2 HB1 HK1 d0 d1
    have hcode := unE_code a
    have hcodeb := unE_code b
    by_cases hea : (unE a).2 = 0
    · have hn2 : (((unE a).2 : Int) != 0) = false := by rw [bne_eq_false_iff_eq]; omega
      have HA : Hid ((unE a).2 = 0) := Lib.hid hea
      clear hea
      go_wp2_with fail
      refine (runescape_any b _ (by omega)).mono ?_
      rintro e w3 ⟨rfl, hb3⟩
      have HK3 := Lib.hid (HK2.out.below hb3 (by omega))
      have HB3 : Hid (Below w.heap.size w w3) := Lib.hid (HB2.out.trans (hb3.mono (by omega)))
      have hsz3 := hb3.size
      clear hb3 HB2 HK2 d2
      have c0 : w3.cell? ⟨w.heap.size, 0, none⟩ = some (.string ⟨#[]⟩) := HK3.out.cell 0
      have f0 : w3.frozen? ⟨w.heap.size, 0, none⟩ = false := HK3.out.frozen 0
      have c1 : w3.cell? ⟨w.heap.size, 1, none⟩ = some (.string ⟨#[]⟩) := HK3.out.cell 1
      have f1 : w3.frozen? ⟨w.heap.size, 1, none⟩ = false := HK3.out.frozen 1
      by_cases heb : (unE b).2 = 0
      · have hn3 : (((unE b).2 : Int) != 0) = false := by rw [bne_eq_false_iff_eq]; omega
        by_cases hna : (unE a).1 = []
        · have HR : Hid (pairE (one p) = .tuple #[.agg #[.string ⟨#[]⟩, .string ⟨#[]⟩], .int .i64 10]) := Lib.hid (by
            rw [HE.out]; unfold two; rw [if_neg (fun h => h HA.out), if_neg (fun h => h heb), if_pos hna]; rfl)
          have hq : ((unE a).1 == ([] : List UInt8)) = true := by rw [beq_iff_eq]; exact hna
          have hq2 : (unE a).1.isEmpty = true := by rw [List.isEmpty_iff]; exact hna
          clear heb hna
          generalize (unE a).2 = ea at *
          generalize (unE b).2 = eb at *
          generalize (unE a).1 = na at *
          generalize (unE b).1 = nb at *
          go_wp2
          have qK := (HK3.out.put 0 (.string ⟨#[]⟩)).put 1 (.string ⟨#[]⟩)
          have q0 := qK.cell 0
          have q1 := qK.cell 1
          refine bodyPost_ret (v := .tuple #[.agg #[.string ⟨#[]⟩, .string ⟨#[]⟩], .int .i64 10]) (by simp [results, Tryd.results33, go_sem, q0, q1]) rfl ⟨by rw [HR.out], ?_⟩
          exact (HB3.out.setCell (Nat.le_refl _) _).setCell (Nat.le_refl _) _
        · have HR : Hid (pairE (one p) = .tuple #[.agg #[.string (mk (unE a).1), .string (mk (unE b).1)], .int .i64 0]) := Lib.hid (by
            rw [HE.out]; unfold two; rw [if_neg (fun h => h HA.out), if_neg (fun h => h heb), if_neg hna]; rfl)
          have hq : ((unE a).1 == ([] : List UInt8)) = false := by rw [beq_eq_false_iff_ne]; exact hna
          have hq2 : (unE a).1.isEmpty = false := by rw [List.isEmpty_eq_false_iff]; exact hna
          clear heb hna
          generalize (unE a).2 = ea at *
          generalize (unE b).2 = eb at *
          generalize (unE a).1 = na at *
          generalize (unE b).1 = nb at *
          go_wp2
          have qK := (HK3.out.put 0 (.string (mk na))).put 1 (.string (mk nb))
          have q0 := qK.cell 0
          have q1 := qK.cell 1
          refine bodyPost_ret (v := .tuple #[.agg #[.string (mk na), .string (mk nb)], .int .i64 0]) (by simp [results, Tryd.results33, go_sem, q0, q1]) rfl ⟨by rw [HR.out], ?_⟩
          exact (HB3.out.setCell (Nat.le_refl _) _).setCell (Nat.le_refl _) _
      · have HR : Hid (pairE (one p) = .tuple #[.agg #[.string ⟨#[]⟩, .string ⟨#[]⟩], .int .i64 ((unE b).2 : Nat)]) := Lib.hid (by
          rw [HE.out]; unfold two; rw [if_neg (fun h => h HA.out), if_pos heb]; rfl)
        have hn3 : (((unE b).2 : Int) != 0) = true := by rw [bne_iff_ne]; omega
        clear heb
        generalize (unE a).2 = ea at *
        generalize (unE b).2 = eb at *
        go_wp2
        have qK := (HK3.out.put 0 (.string ⟨#[]⟩)).put 1 (.string ⟨#[]⟩)
        have q0 := qK.cell 0
        have q1 := qK.cell 1
        refine bodyPost_ret (v := .tuple #[.agg #[.string ⟨#[]⟩, .string ⟨#[]⟩], .int .i64 (eb : Nat)]) (by simp [results, Tryd.results33, go_sem, q0, q1]) rfl ⟨by rw [HR.out], ?_⟩
        exact (HB3.out.setCell (Nat.le_refl _) _).setCell (Nat.le_refl _) _
    · have HR : Hid (pairE (one p) = .tuple #[.agg #[.string ⟨#[]⟩, .string ⟨#[]⟩], .int .i64 ((unE a).2 : Nat)]) := Lib.hid (by
        rw [HE.out]; unfold two; rw [if_pos hea]; rfl)
      have hn2 : (((unE a).2 : Int) != 0) = true := by rw [bne_iff_ne]; omega
      clear hea
      have c0 : w2.cell? ⟨w.heap.size, 0, none⟩ = some (.string ⟨#[]⟩) := HK2.out.cell 0
      have f0 : w2.frozen? ⟨w.heap.size, 0, none⟩ = false := HK2.out.frozen 0
      have c1 : w2.cell? ⟨w.heap.size, 1, none⟩ = some (.string ⟨#[]⟩) := HK2.out.cell 1
      have f1 : w2.frozen? ⟨w.heap.size, 1, none⟩ = false := HK2.out.frozen 1
      generalize (unE a).2 = ea at *
      go_wp2
      have qK := (HK2.out.put 0 (.string ⟨#[]⟩)).put 1 (.string ⟨#[]⟩)
      have q0 := qK.cell 0
      have q1 := qK.cell 1
      refine bodyPost_ret (v := .tuple #[.agg #[.string ⟨#[]⟩, .string ⟨#[]⟩], .int .i64 (ea : Nat)]) (by simp [results, Tryd.results33, go_sem, q0, q1]) rfl ⟨by rw [HR.out], ?_⟩
      exact (HB2.out.setCell (Nat.le_refl _) _).setCell (Nat.le_refl _) _
  · have HR : Hid (pairE (one p) = .tuple #[.agg #[.string ⟨#[]⟩, .string ⟨#[]⟩], .int .i64 31]) := Lib.hid (by rw [HO.out, if_pos hsp]; rfl)
    have hn1 : ((sp.length : Int) != 2) = true := by rw [bne_iff_ne]; omega
    clear HO HLen HR1
    have c0 : w1.cell? ⟨w.heap.size, 0, none⟩ = some (.string ⟨#[]⟩) := HK1.out.cell 0
    have f0 : w1.frozen? ⟨w.heap.size, 0, none⟩ = false := HK1.out.frozen 0
    have c1 : w1.cell? ⟨w.heap.size, 1, none⟩ = some (.string ⟨#[]⟩) := HK1.out.cell 1
    have f1 : w1.frozen? ⟨w.heap.size, 1, none⟩ = false := HK1.out.frozen 1
    go_wp2
    have qK := (HK1.out.put 0 (.string ⟨#[]⟩)).put 1 (.string ⟨#[]⟩)
    have q0 := qK.cell 0
    have q1 := qK.cell 1
    refine bodyPost_ret (v := .tuple #[.agg #[.string ⟨#[]⟩, .string ⟨#[]⟩], .int .i64 31]) (by simp [results, Tryd.results33, go_sem, q0, q1]) rfl ⟨by rw [HR.out], ?_⟩
    exact (HB1.out.setCell (Nat.le_refl _) _).setCell (Nat.le_refl _) _
end Go.Proofs.YtchlikigjijdkaaDoor.Txt
