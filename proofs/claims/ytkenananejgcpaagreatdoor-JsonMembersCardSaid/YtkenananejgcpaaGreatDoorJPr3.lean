/-
  begin and close: a value is begun, what is open is closed.
-/
import Derived.Test.YtkenananejgcpaaGreatDoorJPr2
namespace Go.Proofs.YtkenananejgcpaaGreatDoor.Jsn
open Go.RowKit Txt
/-- What begin writes. -/
def beg (v : V) : List UInt8 :=
  if v.kind = 1 then [110, 117, 108, 108] else if v.kind = 2 then (if v.yes then [116, 114, 117, 101] else [102, 97, 108, 115, 101]) else if v.kind = 3 then v.text else if v.kind = 4 then quote v.text
  else if v.kind = 5 then [91] else if v.kind = 6 then [123] else []
theorem info_opened : (Tryz.prog.info? 129).map (fun i => (i.zero, i.size, i.bytes)) = some (some (.agg #[.pointer none, .int .i64 0]), 2, 16) := by kernel_rfl
/-- The list of what is open is put into its place. -/
theorem pr_open {w w2 : World} {B pb : Nat} {ap bv ov v' : Value} {l : List UInt8} {ln : Bool} {fs fs' : List It} (hB : B ≤ pb) (hh : w.heap[pb]? = some (.cells #[ap, bv, .bool ln, ov] 102 (0, 0))) (h1 : Txt.Own w B bv l) (h2 : w.ownsRow B 129 2 ov fs.length (lvls fs))
    (hn : w2.ownsRow B 129 2 v' fs'.length (lvls fs')) (hg : w.grownBy w2 ov.ownBlock) : PrA (w2.setCell ⟨pb, 3, none⟩ v') B pb ap l ln fs' ∧ Below B w (w2.setCell ⟨pb, 3, none⟩ v') := by
  have hp := row_ne h2 hh (by decide)
  have hlt := (Array.getElem?_eq_some_iff.1 hh).1
  have hh2 : w2.heap[pb]? = some (.cells #[ap, bv, .bool ln, ov] 102 (0, 0)) := (hg.block pb hlt (fun e => hp e.symm)).trans hh
  have ho1 := h1.kept hg (rows_ne h1 h2 (by decide))
  have hset : (w2.setCell ⟨pb, 3, none⟩ v').heap[pb]? = some (.cells #[ap, bv, .bool ln, v'] 102 (0, 0)) := blk_set (show Blk w2 _ _ _ from hh2) 3 v'
  refine ⟨⟨hB, bv, v', hset, ho1.kept (turned w2 pb 3 v') (.inr (row_ne ho1 hh2 (by decide))), hn.kept (turned w2 pb 3 v') (.inr (row_ne hn hh2 (by decide)))⟩, ?_⟩
  exact (((Below.refl B w).grown hg (by omega) (fun k hk => row_base h2 k hk))).setCell (p := ⟨pb, 3, none⟩) hB _
theorem pr_some {w : World} {B pb : Nat} {l : List UInt8} {ln : Bool} {fs : List It} (h : Pr w B pb l ln fs) : ∃ ap, PrA w B pb ap l ln fs ∧ ∀ w' l' fs', PrA w' B pb ap l' ln fs' → Pr w' B pb l' ln fs' :=
  h.elim (fun x => ⟨_, x, fun _ _ _ => .inl⟩) (fun x => ⟨_, x, fun _ _ _ => .inr⟩)
/-- The last one of what is open. -/
theorem pop2 {W : World} {B : Nat} {v : Value} {st : List It} {x : It} (h : W.ownsRow B 129 2 v (st ++ [x]).length (lvls (st ++ [x]))) :
    ∃ g cap, v = .slice (some ⟨g, 0, none⟩) (st.length + 1 : Nat) cap ∧ g < W.heap.size ∧ st.length + 1 ≤ cap ∧ W.cell? ⟨g, st.length * 2, none⟩ = some (.pointer (some x.1)) ∧ W.cell? ⟨g, st.length * 2 + 1, none⟩ = some (.int .i64 x.2) ∧
      W.ownsRow B 129 2 (.slice (some ⟨g, 0, none⟩) (st.length : Nat) cap) st.length (lvls st) := by
  have hl : (st ++ [x]).length = st.length + 1 := by simp
  rw [hl] at h
  obtain ⟨h1, h2⟩ := h
  rcases h2 with ⟨_, h0⟩ | ⟨g, cap, cur, rfl, hb, hh, hc, hm, hs, ht⟩
  · omega
  · have hlen := lvls_len st
    have hg : ∀ i, i < (st.length + 1) * 2 → cur[i]? = (lvls (st ++ [x]))[i]? := fun i hi => by
      rw [← ht, List.getElem?_take_of_lt (by omega)]
      simp
    have hcell : ∀ i, W.cell? ⟨g, i, none⟩ = cur[i]? := fun i => cell_of_row W g i cur _ (0, 0) hh
    refine ⟨g, cap, rfl, (show Blk W g _ cur from hh).lt, hc, ?_, ?_, hlen, .inr ⟨g, cap, cur, rfl, hb, hh, by omega, hm, hs, ?_⟩⟩
    · rw [hcell, hg _ (by omega), lvls_snoc, List.getElem?_append_right (by omega), hlen]
      simp [lvl]
    · rw [hcell, hg _ (by omega), lvls_snoc, List.getElem?_append_right (by omega), hlen]
      simp [lvl]
    · rw [lvls_snoc] at ht
      have := congrArg (List.take (st.length * 2)) ht
      rw [List.take_take, List.take_append_of_le_length (by omega), List.take_of_length_le (l := lvls st) (by omega)] at this
      rw [← this]
      congr 1
      omega
set_option maxRecDepth 100000
set_option maxHeartbeats 1000000 in
theorem formatBool_any (y : Bool) (w : World) : Calls Tryz.prog 79 #[.bool y] w fun e w' => e = .returned (.string (mk (if y then [116, 114, 117, 101] else [102, 97, 108, 115, 101]))) ∧ w' = w := by
  cases y
  all_goals
    go_enter Tryz.func79, Tryz.ntmps79
    go_wp2
    go_ret
    exact ⟨rfl, rfl⟩
set_option maxHeartbeats 2000000 in
theorem begin_any (B pb : Nat) (l : List UInt8) (ln : Bool) (fs : List It) (v : V) (P : Addr) (w : World) (h : Pr w B pb l ln fs) (hr : Reads w P v) (ht : v.text.length ≤ 1000000) (hl : l.length ≤ 2000000) (hf : fs.length ≤ 100000) :
    Calls Tryz.prog 59 #[.pointer (some ⟨pb, 0, none⟩), .pointer (some P)] w fun e w' => e = .returned (.tuple #[]) ∧ Pr w' B pb (l ++ beg v) ln (if v.kind = 5 ∨ v.kind = 6 then fs ++ [(P, 0)] else fs) ∧ Below B w w' := by
  obtain ⟨A, ca, B', cb, ⟨c0, c1, c2, c3, c4⟩, -⟩ := hr.five
  have HP := Lib.hid h
  have hms := mk_size
  have hmt := mk_toList
  clear h hr c3 c4
  obtain ⟨i0, hi, hz0, hz1, hz2⟩ := info_parts info_opened
  by_cases h1 : v.kind = 1
  · have hb : beg v = [110, 117, 108, 108] := by unfold beg; rw [if_pos h1]
    rw [h1] at c0
    rw [if_neg (show ¬ (v.kind = 5 ∨ v.kind = 6) by omega), hb]
    go_enter Tryz.func59, Tryz.ntmps59
    go_wp2_with fail
    refine (put_string B pb l ln fs [110, 117, 108, 108] _ HP.out (by omega) (by simp)).mono ?_
    rintro e w1 ⟨rfl, hp1, hb1⟩
    go_wp2
    go_end0
    exact ⟨rfl, hp1, hb1⟩
  have e1 : (v.kind == 1) = false := by rw [beq_eq_false_iff_ne]; exact h1
  by_cases h2 : v.kind = 2
  · have hb : beg v = if v.yes then [116, 114, 117, 101] else [102, 97, 108, 115, 101] := by unfold beg; rw [if_neg h1, if_pos h2]
    rw [h2] at c0 e1
    rw [if_neg (show ¬ (v.kind = 5 ∨ v.kind = 6) by omega), hb]
    generalize v.yes = y at *
    have hlen : (if y then [116, 114, 117, 101] else [102, 97, 108, 115, 101] : List UInt8).length ≤ 5 := by cases y <;> simp
    have HF := fun w => Lib.hid (formatBool_any y w)
    generalize (if y then [116, 114, 117, 101] else [102, 97, 108, 115, 101] : List UInt8) = tx at *
    have d1 : w.drew.cell? ⟨P.block, P.off + 1, none⟩ = some (.bool y) := c1
    go_enter Tryz.func59, Tryz.ntmps59
    go_wp2_with fail
    go_region_with (first
      | (go_at_call 79; refine (HF _).out.mono ?_; rintro e w1 ⟨rfl, rfl⟩)
      | (go_at_call 78; refine (put_string B pb l ln fs tx _ (show Pr w.drew B pb l ln fs from HP.out) (by omega) (by omega)).mono ?_; rintro e w1 ⟨rfl, hp1, hb1⟩))
    go_wp2
    go_end0
    exact ⟨rfl, hp1, (Below.drew (Below.refl B w)).trans hb1⟩
  have e2 : (v.kind == 2) = false := by rw [beq_eq_false_iff_ne]; exact h2
  by_cases h3 : v.kind = 3
  · have hb : beg v = v.text := by unfold beg; rw [if_neg h1, if_neg h2, if_pos h3]
    rw [h3] at c0 e1 e2
    rw [if_neg (show ¬ (v.kind = 5 ∨ v.kind = 6) by omega), hb]
    have d2 : w.drew.cell? ⟨P.block, P.off + 2, none⟩ = some (.string (mk v.text)) := c2
    go_enter Tryz.func59, Tryz.ntmps59
    go_wp2_with fail
    go_region_with (go_at_call 78; refine (put_string B pb l ln fs v.text _ (show Pr w.drew B pb l ln fs from HP.out) (by omega) (by omega)).mono ?_; rintro e w1 ⟨rfl, hp1, hb1⟩)
    go_wp2
    go_end0
    exact ⟨rfl, hp1, (Below.drew (Below.refl B w)).trans hb1⟩
  have e3 : (v.kind == 3) = false := by rw [beq_eq_false_iff_ne]; exact h3
  by_cases h4 : v.kind = 4
  · have hb : beg v = quote v.text := by unfold beg; rw [if_neg h1, if_neg h2, if_neg h3, if_pos h4]
    rw [h4] at c0 e1 e2 e3
    rw [if_neg (show ¬ (v.kind = 5 ∨ v.kind = 6) by omega), hb]
    go_enter Tryz.func59, Tryz.ntmps59
    go_wp2_with fail
    refine (quote_any B pb l ln fs v.text _ HP.out (by omega) (by omega)).mono ?_
    rintro e w1 ⟨rfl, hp1, hb1⟩
    go_wp2
    go_end0
    exact ⟨rfl, hp1, hb1⟩
  have e4 : (v.kind == 4) = false := by rw [beq_eq_false_iff_ne]; exact h4
  by_cases h5 : v.kind = 5
  · have hb : beg v = [91] := by unfold beg; rw [if_neg h1, if_neg h2, if_neg h3, if_neg h4, if_pos h5]
    rw [h5] at c0 e1 e2 e3 e4
    rw [if_pos (show v.kind = 5 ∨ v.kind = 6 by omega), hb]
    go_enter Tryz.func59, Tryz.ntmps59
    go_wp2_with fail
    refine (put_byte B pb l ln fs 91 _ rfl _ HP.out (by omega)).mono ?_
    rintro e w1 ⟨rfl, hp1, hb1⟩
    obtain ⟨ap, hpa, hback⟩ := pr_some hp1
    obtain ⟨bv, ov, hh, o1, o2, n1, n2, n3⟩ := pr_parts hpa
    have hB := hpa.1
    have hlt := pr_lt hpa
    have d3 : w1.cell? ⟨pb, 3, none⟩ = some ov := cell_of_row _ _ 3 _ _ _ hh
    have HB := Lib.hid hb1
    have HH := Lib.hid hh
    have H1 := Lib.hid o1
    have H2 := Lib.hid o2
    have HK := Lib.hid hback
    clear hp1 hb1 hpa hh o1 o2 n1 n3 hback HP
    go_wp2_with (at_builtin; refine wpList_append_own _ rfl _ _ 100 rfl B 129 i0 _ 2 16 Tryz.underlying100 hi hz0 hz1 hz2 rfl (by decide) ov fs.length (lvls fs) rfl (H2.out.alloc _) ⟨w1.heap.size, 0, none⟩ 1 1 (lvl (P, 0)) rfl rfl (World.news_of_block (cs := #[.pointer (some P), .int .i64 0]) (t := 129) (fr := (0, 0)) (heap_alloc_new w1 _)) (by intro u hu; simp [lvl] at hu; rcases hu with rfl | rfl <;> rfl) (by unfold maxLen; omega) (by omega) (by simp; omega) ?_; intro v' w2 hown' hgrow _; obtain ⟨g', cap', rfl⟩ := ownsRow_succ hown'; have hgr : w1.grownBy w2 ov.ownBlock := (World.grownBy_alloc w1 _ _).trans hgrow; have hh2 := (hgr.block pb hlt (fun e => n2 e.symm)).trans HH.out; have d1 := cell_of_row _ _ 3 _ _ _ hh2; have f1 := Lib.frozen_of_heap hh2 3)
    have hown2 : w2.ownsRow B 129 2 (.slice (some ⟨g', 0, none⟩) (fs.length + 1 : Nat) cap') (fs ++ [(P, 0)]).length (lvls (fs ++ [(P, 0)])) := by rw [lvls_snoc, List.length_append]; exact hown'
    have HQ := pr_open hB HH.out H1.out H2.out hown2 hgr
    go_end0
    exact ⟨rfl, HK.out _ _ _ HQ.1, HB.out.trans HQ.2⟩
  have e5 : (v.kind == 5) = false := by rw [beq_eq_false_iff_ne]; exact h5
  by_cases h6 : v.kind = 6
  · have hb : beg v = [123] := by unfold beg; rw [if_neg h1, if_neg h2, if_neg h3, if_neg h4, if_neg h5, if_pos h6]
    rw [h6] at c0 e1 e2 e3 e4 e5
    rw [if_pos (show v.kind = 5 ∨ v.kind = 6 by omega), hb]
    go_enter Tryz.func59, Tryz.ntmps59
    go_wp2_with fail
    refine (put_byte B pb l ln fs 123 _ rfl _ HP.out (by omega)).mono ?_
    rintro e w1 ⟨rfl, hp1, hb1⟩
    obtain ⟨ap, hpa, hback⟩ := pr_some hp1
    obtain ⟨bv, ov, hh, o1, o2, n1, n2, n3⟩ := pr_parts hpa
    have hB := hpa.1
    have hlt := pr_lt hpa
    have d3 : w1.cell? ⟨pb, 3, none⟩ = some ov := cell_of_row _ _ 3 _ _ _ hh
    have HB := Lib.hid hb1
    have HH := Lib.hid hh
    have H1 := Lib.hid o1
    have H2 := Lib.hid o2
    have HK := Lib.hid hback
    clear hp1 hb1 hpa hh o1 o2 n1 n3 hback HP
    go_wp2_with (at_builtin; refine wpList_append_own _ rfl _ _ 100 rfl B 129 i0 _ 2 16 Tryz.underlying100 hi hz0 hz1 hz2 rfl (by decide) ov fs.length (lvls fs) rfl (H2.out.alloc _) ⟨w1.heap.size, 0, none⟩ 1 1 (lvl (P, 0)) rfl rfl (World.news_of_block (cs := #[.pointer (some P), .int .i64 0]) (t := 129) (fr := (0, 0)) (heap_alloc_new w1 _)) (by intro u hu; simp [lvl] at hu; rcases hu with rfl | rfl <;> rfl) (by unfold maxLen; omega) (by omega) (by simp; omega) ?_; intro v' w2 hown' hgrow _; obtain ⟨g', cap', rfl⟩ := ownsRow_succ hown'; have hgr : w1.grownBy w2 ov.ownBlock := (World.grownBy_alloc w1 _ _).trans hgrow; have hh2 := (hgr.block pb hlt (fun e => n2 e.symm)).trans HH.out; have d1 := cell_of_row _ _ 3 _ _ _ hh2; have f1 := Lib.frozen_of_heap hh2 3)
    have hown2 : w2.ownsRow B 129 2 (.slice (some ⟨g', 0, none⟩) (fs.length + 1 : Nat) cap') (fs ++ [(P, 0)]).length (lvls (fs ++ [(P, 0)])) := by rw [lvls_snoc, List.length_append]; exact hown'
    have HQ := pr_open hB HH.out H1.out H2.out hown2 hgr
    go_end0
    exact ⟨rfl, HK.out _ _ _ HQ.1, HB.out.trans HQ.2⟩
  have e6 : (v.kind == 6) = false := by rw [beq_eq_false_iff_ne]; exact h6
  have hb : beg v = [] := by unfold beg; rw [if_neg h1, if_neg h2, if_neg h3, if_neg h4, if_neg h5, if_neg h6]
  rw [if_neg (show ¬ (v.kind = 5 ∨ v.kind = 6) by omega), hb]
  go_enter Tryz.func59, Tryz.ntmps59
  go_wp2
  go_end0
  exact ⟨rfl, by simpa using HP.out, Below.refl _ _⟩
end Go.Proofs.YtkenananejgcpaaGreatDoor.Jsn
