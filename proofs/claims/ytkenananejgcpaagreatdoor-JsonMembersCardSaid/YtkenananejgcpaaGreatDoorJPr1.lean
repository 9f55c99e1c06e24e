/-
  A printer in memory, and what is written onto it.
-/
import Derived.Test.YtkenananejgcpaaGreatDoorJRight2
import Derived.Lib.AppendStr
import Derived.Laws.Externs
namespace Go.Proofs.YtkenananejgcpaaGreatDoor.Jsn
open Go.RowKit Txt
/-- A printer at block pb: the text so far, whether it writes lines, and what is open. -/
def PrA (w : World) (B pb : Nat) (ap : Value) (l : List UInt8) (ln : Bool) (fs : List It) : Prop :=
  B ≤ pb ∧ ∃ bv ov, w.heap[pb]? = some (.cells #[ap, bv, .bool ln, ov] 102 (0, 0)) ∧ Txt.Own w B bv l ∧ w.ownsRow B 129 2 ov fs.length (lvls fs)
def Pr (w : World) (B pb : Nat) (l : List UInt8) (ln : Bool) (fs : List It) : Prop := PrA w B pb (.pointer none) l ln fs ∨ PrA w B pb (.pointer (some ⟨pb, 0, none⟩)) l ln fs
theorem row_ne {w : World} {base e size : Nat} {v : Value} {n : Nat} {xs : List Value} {g : Nat} {cs : Array Value} {t : TypeId} {fr : Nat × Nat} (h : w.ownsRow base e size v n xs) (hg : w.heap[g]? = some (.cells cs t fr)) (ht : t ≠ e) : v.ownBlock ≠ some g := by
  intro hv
  rcases h.2 with ⟨rfl, _⟩ | ⟨g', cap, cur, rfl, _, hh, _⟩
  · simp [Value.ownBlock] at hv
  · simp only [Value.ownBlock, Option.some.injEq] at hv
    subst hv
    rw [hh] at hg
    injection hg with hg
    injection hg with _ h1 _
    exact ht h1.symm
theorem rows_ne {w : World} {b1 b2 e1 e2 s1 s2 : Nat} {v1 v2 : Value} {n1 n2 : Nat} {x1 x2 : List Value} (h1 : w.ownsRow b1 e1 s1 v1 n1 x1) (h2 : w.ownsRow b2 e2 s2 v2 n2 x2) (ht : e1 ≠ e2) : v1.ownBlock = none ∨ v1.ownBlock ≠ v2.ownBlock := by
  rcases h1.2 with ⟨rfl, _⟩ | ⟨g, cap, cur, rfl, _, hh, _⟩
  · exact .inl rfl
  · exact .inr (fun e => row_ne h2 hh ht e.symm)
theorem pr_parts {w : World} {B pb : Nat} {ap : Value} {l : List UInt8} {ln : Bool} {fs : List It} (h : PrA w B pb ap l ln fs) : ∃ bv ov, w.heap[pb]? = some (.cells #[ap, bv, .bool ln, ov] 102 (0, 0)) ∧ Txt.Own w B bv l ∧ w.ownsRow B 129 2 ov fs.length (lvls fs) ∧ bv.ownBlock ≠ some pb ∧ ov.ownBlock ≠ some pb ∧ (ov.ownBlock = none ∨ ov.ownBlock ≠ bv.ownBlock) := by
  obtain ⟨hB, bv, ov, hh, h1, h2⟩ := h
  exact ⟨bv, ov, hh, h1, h2, row_ne h1 hh (by decide), row_ne h2 hh (by decide), rows_ne h2 h1 (by decide)⟩
theorem row_slice {w : World} {base e size : Nat} {v : Value} {n : Nat} {xs : List Value} (h : w.ownsRow base e size v n xs) : ∃ A n' c, v = .slice A n' c := by
  rcases h.2 with ⟨rfl, _⟩ | ⟨g, cap, cur, rfl, _⟩
  · exact ⟨_, _, _, rfl⟩
  · exact ⟨_, _, _, rfl⟩
theorem pr_lt {w : World} {B pb : Nat} {ap : Value} {l : List UInt8} {ln : Bool} {fs : List It} (h : PrA w B pb ap l ln fs) : pb < w.heap.size := by
  obtain ⟨_, bv, ov, hh, _⟩ := h
  exact (Array.getElem?_eq_some_iff.1 hh).1
/-- What else is there, but for rows of bytes, lies as it lay. -/
def Oth (pb : Nat) (w w' : World) : Prop := ∀ g t cs, Blk w g t cs → g ≠ pb → t ≠ 5 → Blk w' g t cs
theorem Oth.refl (pb : Nat) (w : World) : Oth pb w w := fun _ _ _ h _ _ => h
theorem Oth.trans {pb : Nat} {a b c : World} (h : Oth pb a b) (k : Oth pb b c) : Oth pb a c := fun g t cs hg h1 h2 => k g t cs (h g t cs hg h1 h2) h1 h2
theorem Oth.set (pb i : Nat) (w : World) (v : Value) : Oth pb w (w.setCell ⟨pb, i, none⟩ v) := fun g t cs hg h1 _ => hg.grown (turned w pb i v) (fun e => h1 (by injection e))
theorem Oth.row {pb B : Nat} {w w2 : World} {bv : Value} {l : List UInt8} (h1 : Txt.Own w B bv l) (hg : w.grownBy w2 bv.ownBlock) : Oth pb w w2 := fun _ _ _ hb _ h2 => hb.grown hg (fun e => row_ne h1 hb h2 e.symm)
/-- The buffer's new row is put into its place. -/
theorem pr_put {w w2 : World} {B pb : Nat} {ap bv ov v' : Value} {l l' : List UInt8} {ln : Bool} {fs : List It} (hB : B ≤ pb) (hh : w.heap[pb]? = some (.cells #[ap, bv, .bool ln, ov] 102 (0, 0))) (h1 : Txt.Own w B bv l) (h2 : w.ownsRow B 129 2 ov fs.length (lvls fs))
    (hn : Txt.Own w2 B v' l') (hg : w.grownBy w2 bv.ownBlock) : PrA (w2.setCell ⟨pb, 1, none⟩ v') B pb ap l' ln fs ∧ Below B w (w2.setCell ⟨pb, 1, none⟩ v') := by
  have hp := row_ne h1 hh (by decide)
  have hlt := (Array.getElem?_eq_some_iff.1 hh).1
  have hh2 : w2.heap[pb]? = some (.cells #[ap, bv, .bool ln, ov] 102 (0, 0)) := (hg.block pb hlt (fun e => hp e.symm)).trans hh
  have ho2 := h2.kept hg (rows_ne h2 h1 (by decide))
  have hset : (w2.setCell ⟨pb, 1, none⟩ v').heap[pb]? = some (.cells #[ap, v', .bool ln, ov] 102 (0, 0)) := blk_set (show Blk w2 _ _ _ from hh2) 1 v'
  refine ⟨⟨hB, v', ov, hset, hn.kept (turned w2 pb 1 v') (.inr (row_ne hn hh2 (by decide))), ho2.kept (turned w2 pb 1 v') (.inr (row_ne ho2 hh2 (by decide)))⟩, ?_⟩
  exact (((Below.refl B w).grown hg (by omega) (fun k hk => row_base h1 k hk))).setCell (p := ⟨pb, 1, none⟩) hB _
set_option maxRecDepth 100000
theorem info_builder : (Tryz.prog.info? 99).map (fun j => j.size) = some 2 := by kernel_rfl
theorem lies_builder : liesAt Tryz.prog Tryz.prog.depth 102 (4 / Tryz.prog.cellsOf 102) 0 99 1 = true := by kernel_rfl
set_option maxHeartbeats 1000000 in
theorem check_any (B pb : Nat) (l : List UInt8) (ln : Bool) (fs : List It) (w : World) (h : Pr w B pb l ln fs) :
    Calls Tryz.prog 100 #[.pointer (some ⟨pb, 0, none⟩)] w fun e w' => e = .returned (.tuple #[]) ∧ PrA w' B pb (.pointer (some ⟨pb, 0, none⟩)) l ln fs ∧ Below B w w' ∧ Oth pb w w' := by
  obtain ⟨j, hj, hjs⟩ := Option.map_eq_some_iff.1 info_builder
  rcases h with h | h
  · obtain ⟨bv, ov, hh, h1, h2, n1, n2, n3⟩ := pr_parts h
    have c0 : w.cell? ⟨pb, 0, none⟩ = some (.pointer none) := cell_of_row _ _ 0 _ _ _ hh
    have f0 : w.frozen? ⟨pb, 0, none⟩ = false := Lib.frozen_of_heap hh 0
    have hsh : w.shape? pb = some (102, 4) := by simp [World.shape?, hh]
    have HP : Hid (PrA (w.setCell ⟨pb, 0, none⟩ (.pointer (some ⟨pb, 0, none⟩))) B pb (.pointer (some ⟨pb, 0, none⟩)) l ln fs ∧ Below B w (w.setCell ⟨pb, 0, none⟩ (.pointer (some ⟨pb, 0, none⟩)))) := Lib.hid
      ⟨⟨h.1, bv, ov, blk_set (show Blk w _ _ _ from hh) 0 _, h1.kept (turned w pb 0 _) (.inr n1), h2.kept (turned w pb 0 _) (.inr n2)⟩, (Below.refl B w).setCell (p := ⟨pb, 0, none⟩) h.1 _⟩
    clear h h1 h2 n1 n2 n3 hh
    go_enter Tryz.func100, Tryz.ntmps100
    go_wp2
    rw [Lib.run_to_unsafe w ⟨pb, 0, none⟩ Tryz.underlying97 Tryz.underlying161 hj (by rw [hjs]; decide) hsh (Nat.zero_lt_succ 3)]
    simp only [Result.andThen]
    rw [Oper.upon_value]
    go_wp2
    rw [run_callFunc_extern Tryz.func112 (by kernel_rfl) (by kernel_rfl) (by kernel_rfl) (e := Extern.AbiNoEscape.same) (by kernel_rfl)]
    rw [Lib.run_noEscape]
    simp only [Result.andThen]
    rw [Oper.upon_value]
    go_wp2
    rw [Lib.run_from_unsafe w ⟨pb, 0, none⟩ Tryz.underlying161 Tryz.underlying97 hj hsh lies_builder]
    simp only [Result.andThen]
    rw [Oper.upon_value]
    go_wp2
    go_end0
    exact ⟨rfl, HP.out.1, HP.out.2, Oth.set _ _ _ _⟩
  · obtain ⟨bv, ov, hh, h1, h2, n1, n2, n3⟩ := pr_parts h
    have c0 : w.cell? ⟨pb, 0, none⟩ = some (.pointer (some ⟨pb, 0, none⟩)) := cell_of_row _ _ 0 _ _ _ hh
    clear h1 h2 n1 n2 n3 hh
    have HP := Lib.hid h
    clear h
    go_enter Tryz.func100, Tryz.ntmps100
    go_wp2
    rw [Lib.run_neq_ptr_same w _ Tryz.underlying97 hj]
    go_wp2
    go_end0
    exact ⟨rfl, HP.out, Below.refl _ _, Oth.refl _ _⟩
set_option maxHeartbeats 1000000 in
theorem put_byte_o (B pb : Nat) (l : List UInt8) (ln : Bool) (fs : List It) (x : UInt8) (c : Int) (hc : c = (x.toNat : Nat)) (w : World) (h : Pr w B pb l ln fs) (hl : l.length ≤ 10000000) :
    Calls Tryz.prog 81 #[.pointer (some ⟨pb, 0, none⟩), .int .u8 c] w fun e w' => e = .returned .nilIface ∧ Pr w' B pb (l ++ [x]) ln fs ∧ Below B w w' ∧ Oth pb w w' := by
  subst hc
  obtain ⟨i5, hi5, hz50, hz51, hz52⟩ := info_parts info5
  have HC := Lib.hid (check_any B pb l ln fs w h)
  clear h
  go_enter Tryz.func81, Tryz.ntmps81
  go_wp2_with fail
  refine HC.out.mono ?_
  rintro e w1 ⟨rfl, hp, hb, hoth⟩
  have HOT := Lib.hid hoth
  clear hoth
  obtain ⟨bv, ov, hh, h1, h2, n1, n2, n3⟩ := pr_parts hp
  have hB := hp.1
  have hlt := pr_lt hp
  have c1 : w1.cell? ⟨pb, 1, none⟩ = some bv := cell_of_row _ _ 1 _ _ _ hh
  have HB := Lib.hid hb
  have HH := Lib.hid hh
  have H2 := Lib.hid h2
  have H1 := Lib.hid h1
  clear HC hp hb hh h2 h1 n2 n3
  go_wp2_with (at_builtin; refine wpList_append_own _ rfl _ _ 51 rfl B 5 i5 (.int .u8 0) 1 1 Tryz.underlying51 hi5 hz50 hz51 hz52 rfl (by decide) bv l.length (Lib.byteCells l) rfl (H1.out.alloc _) ⟨w1.heap.size, 0, none⟩ 1 1 [.int .u8 (x.toNat : Nat)] rfl rfl (cell_one_new _ _ _) (by intro u hu; rw [List.mem_singleton.1 hu]; rfl) (by unfold maxLen; omega) (by omega) (by simp; omega) ?_; intro v' w2 hown' hgrow _; obtain ⟨g', cap', rfl⟩ := ownsRow_succ hown'; have hgr : w1.grownBy w2 bv.ownBlock := (World.grownBy_alloc w1 _ _).trans hgrow; have hh2 := (hgr.block pb hlt (fun e => n1 e.symm)).trans HH.out; have d1 := cell_of_row _ _ 1 _ _ _ hh2; have f1 := Lib.frozen_of_heap hh2 1)
  have hown2 : Txt.Own w2 B (.slice (some ⟨g', 0, none⟩) (l.length + 1 : Nat) cap') (l ++ [x]) := by unfold Txt.Own; rw [byteCells_append, List.length_append]; exact hown'
  have HP := Lib.hid (pr_put hB HH.out H1.out H2.out hown2 hgr)
  go_ret
  exact ⟨rfl, .inr HP.out.1, HB.out.trans HP.out.2, (HOT.out.trans (Oth.row H1.out hgr)).trans (Oth.set _ _ _ _)⟩
set_option maxHeartbeats 1000000 in
theorem put_string_o (B pb : Nat) (l : List UInt8) (ln : Bool) (fs : List It) (m : List UInt8) (w : World) (h : Pr w B pb l ln fs) (hl : l.length ≤ 10000000) (hm : m.length ≤ 10000000) :
    Calls Tryz.prog 78 #[.pointer (some ⟨pb, 0, none⟩), .string (mk m)] w fun e w' => e = .returned (.tuple #[.int .i64 (m.length : Nat), .nilIface]) ∧ Pr w' B pb (l ++ m) ln fs ∧ Below B w w' ∧ Oth pb w w' := by
  obtain ⟨i5, hi5, hz50, hz51, hz52⟩ := info_parts info5
  have hms := mk_size
  have hmt := mk_toList
  have HC := Lib.hid (check_any B pb l ln fs w h)
  clear h
  go_enter Tryz.func78, Tryz.ntmps78
  go_wp2_with fail
  refine HC.out.mono ?_
  rintro e w1 ⟨rfl, hp, hb, hoth⟩
  have HOT := Lib.hid hoth
  clear hoth
  obtain ⟨bv, ov, hh, h1, h2, n1, n2, n3⟩ := pr_parts hp
  have hB := hp.1
  have hlt := pr_lt hp
  have c1 : w1.cell? ⟨pb, 1, none⟩ = some bv := cell_of_row _ _ 1 _ _ _ hh
  have HB := Lib.hid hb
  have HH := Lib.hid hh
  have H2 := Lib.hid h2
  have H1 := Lib.hid h1
  clear HC hp hb hh h2 h1 n2 n3
  go_wp2_with (at_builtin; refine Lib.wpList_append_own_string _ rfl _ _ 51 9 rfl B 5 i5 Tryz.underlying51 Tryz.underlying9 hi5 hz50 hz51 hz52 bv l.length (Lib.byteCells l) rfl H1.out (mk m) rfl (by rw [mk_size]; unfold maxLen; omega) (by rw [mk_size]; omega) (by omega) ?_; intro v' w2 hown' hgrow _; obtain ⟨A', n', cap', rfl⟩ := row_slice hown'; have hh2 := (hgrow.block pb hlt (fun e => n1 e.symm)).trans HH.out; have d1 := cell_of_row _ _ 1 _ _ _ hh2; have f1 := Lib.frozen_of_heap hh2 1)
  have hown2 : Txt.Own w2 B (.slice A' n' cap') (l ++ m) := by
    unfold Txt.Own
    rw [byteCells_append, List.length_append]
    rw [mk_size, Lib.strCells_eq, mk_data] at hown'
    exact hown'
  have HP := Lib.hid (pr_put hB HH.out H1.out H2.out hown2 hgrow)
  go_ret2
  exact ⟨rfl, .inr HP.out.1, HB.out.trans HP.out.2, (HOT.out.trans (Oth.row H1.out hgrow)).trans (Oth.set _ _ _ _)⟩
theorem put_byte (B pb : Nat) (l : List UInt8) (ln : Bool) (fs : List It) (x : UInt8) (c : Int) (hc : c = (x.toNat : Nat)) (w : World) (h : Pr w B pb l ln fs) (hl : l.length ≤ 10000000) :
    Calls Tryz.prog 81 #[.pointer (some ⟨pb, 0, none⟩), .int .u8 c] w fun e w' => e = .returned .nilIface ∧ Pr w' B pb (l ++ [x]) ln fs ∧ Below B w w' := (put_byte_o B pb l ln fs x c hc w h hl).mono (fun _ _ h => ⟨h.1, h.2.1, h.2.2.1⟩)
theorem put_string (B pb : Nat) (l : List UInt8) (ln : Bool) (fs : List It) (m : List UInt8) (w : World) (h : Pr w B pb l ln fs) (hl : l.length ≤ 10000000) (hm : m.length ≤ 10000000) :
    Calls Tryz.prog 78 #[.pointer (some ⟨pb, 0, none⟩), .string (mk m)] w fun e w' => e = .returned (.tuple #[.int .i64 (m.length : Nat), .nilIface]) ∧ Pr w' B pb (l ++ m) ln fs ∧ Below B w w' := (put_string_o B pb l ln fs m w h hl hm).mono (fun _ _ h => ⟨h.1, h.2.1, h.2.2.1⟩)
set_option maxHeartbeats 1000000 in
/-- String of what was written. -/
theorem take_string (B pb : Nat) (l : List UInt8) (ln : Bool) (fs : List It) (w : World) (h : Pr w B pb l ln fs) (h0 : l ≠ []) :
    Calls Tryz.prog 62 #[.pointer (some ⟨pb, 0, none⟩)] w fun e w' => e = .returned (.string (mk l)) ∧ Below B w w' := by
  obtain ⟨ap, hp⟩ : ∃ ap, PrA w B pb ap l ln fs := h.elim (fun x => ⟨_, x⟩) (fun x => ⟨_, x⟩)
  obtain ⟨bv, ov, hh, hown, h2, n1, n2, n3⟩ := pr_parts hp
  have hl0 : l.length ≠ 0 := by simpa using h0
  obtain ⟨g, cap, cur, rfl, hbg, hg, hnc, hcm, hcs, htake⟩ : ∃ g cap cur, bv = .slice (some ⟨g, 0, none⟩) (l.length : Nat) cap ∧ B ≤ g ∧ w.heap[g]? = some (.cells cur 5 (0, 0)) ∧ l.length ≤ cap ∧ cap ≤ maxLen ∧ cur.size = cap * 1 ∧ cur.toList.take (l.length * 1) = Lib.byteCells l := by
    rcases hown.2 with ⟨_, hz⟩ | ⟨g, cap, cur, hv, r⟩
    · exact absurd hz hl0
    · exact ⟨g, cap, cur, hv, r⟩
  have c1 : w.drew.cell? ⟨pb, 1, none⟩ = some (.slice (some ⟨g, 0, none⟩) (l.length : Nat) cap) := cell_of_row w.drew _ 1 _ _ _ hh
  have hSD : ∀ ty, (Builtin.unsafeSliceData_ #[51] ty #[.slice (some ⟨g, 0, none⟩) (l.length : Nat) cap]).run Tryz.prog w.drew = .ok (.pointer (some ⟨g, 0, none⟩)) w.drew := fun ty => Lib.run_unsafeSliceData_row _ _ _ _ _ _ (by omega)
  have hUS : ∀ ty, (Builtin.unsafeString_ #[118, 3] ty #[.pointer (some ⟨g, 0, none⟩), .int .i64 (l.length : Nat)]).run Tryz.prog w.drew = .ok (.string (mk l)) (w.drew.freeze ⟨g, 0, none⟩ l.length) := by
    intro ty
    refine Lib.run_unsafeString_row w.drew 118 3 ty 5 Tryz.underlying118 (by kernel_rfl) g cur.size (by have hg' : w.drew.heap[g]? = some (.cells cur 5 (0, 0)) := hg; simp [World.shape?, hg']) l h0 (by omega) (by unfold maxLen at hcm; omega) ?_
    intro j x hx
    exact hown.cells (g := g) rfl j (.int .u8 x.toNat) (by simp [Lib.byteCells, hx])
  have HF := Lib.hid (Lib.below_freeze (Below.drew (Below.refl B w)) (p := ⟨g, 0, none⟩) hbg l.length)
  clear h hp hh hown h2 n1 n2 n3 htake hcs hcm hnc hg
  go_enter Tryz.func62, Tryz.ntmps62
  go_wp2
  go_region
  all_goals (go_wp2; go_ret; exact ⟨rfl, HF.out⟩)
end Go.Proofs.YtkenananejgcpaaGreatDoor.Jsn
