/-
  members: an object's members are read. (Written by gen_pa9.py out of list's text.)
-/
import Derived.Test.YtkenananejgcpaaGreatDoorJPa8
namespace Go.Proofs.YtkenananejgcpaaGreatDoor.Jsn
open Go.RowKit Txt Go.Maps
attribute [local go_sem] Oper.semAt_some
/-- What one member reads as: its name, blanks, a colon, its value. -/
structure MemC (t : List UInt8) (d a : Nat) (m : M) (b a1 a2 : Nat) : Prop where
  q34 : (nb t a).toNat = 34
  al : a < t.length
  qd : Qd t (a + 1) m.name a1
  sk : Skips t a1 a2
  c58 : nb t a2 = 58
  cl : a2 < t.length
  val : ValC t d (a2 + 1) m.val b
theorem MS.upd {w0 : World} {pp n0 : Nat} {ms : List M} {ns : List (List UInt8)} {nm : List UInt8} {k : Nat} {w w' : World} (h : MS w0 pp n0 ms ns k w) (ho : w'.ownsMap Tryz.prog 9 (unitElem (H := Unit)) (n0 + 2) (ns.length + 1) ((setOf (H := Unit) (.agg []) (ns.map Lit.string)).put (.string nm) (.agg []))) (hg : w.grownBy w' (some (n0 + 2))) : MS w0 pp n0 ms (ns ++ [nm]) k w' := by
  obtain ⟨lv, rows, h1, h2, h3, h4, h5⟩ := h.lbox
  have hlt := h.lt
  have hle := h.le
  have hsz := hg.size
  have hs0 := h.g.size
  refine ⟨h.pbox.grown hg (fun e => by injection e; omega), h.mbox.grown hg (fun e => by injection e; omega), ?_, ⟨lv, rows, h1.grown hg (fun e => by injection e; omega), h2.kept hg (.inr (fun e => by have := row_base h2 _ e; omega)), h3, h4, fun i row v hr hv => ?_⟩, ?_, h.lt, h.le⟩
  · unfold SetAt
    rw [List.map_append, List.length_append]
    exact (setOf_snoc _ _ _) ▸ ho
  · obtain ⟨r5, e, hh⟩ := h5 i row v hr hv
    exact ⟨r5, e, hh.kept (fun k hk hl => hg.block k hl (fun e => by injection e with e; have := hk.2.1; omega))⟩
  · exact ⟨hg.os.trans h.g.os, hg.tape.trans h.g.tape, hg.output.trans h.g.output, by omega, fun q hq hn => (hg.block q (by omega) (fun e => by injection e; omega)).trans (h.g.block q hq hn)⟩
set_option maxRecDepth 100000
set_option maxHeartbeats 4000000 in
theorem mem1_any (t : List UInt8) (pp n0 d a r b a1 a2 k : Nat) (ms : List M) (ns : List (List UInt8)) (m : M) (w0 w : World) (hs : MS w0 pp n0 ms ns k w) (hp : Ps w pp t a r) (hr : d ≤ r) (hr1 : r ≤ 100000) (hk : k ≤ 100000) (hl : t.length ≤ 100000) (hns : ns.length ≤ 100000) (hv : ms[k]? = some m) (hnew : ns.contains m.name = false) (hm1 : m.name.length ≤ 1000000) (hc : MemC t d a m b a1 a2) :
    Calls Tryz.prog 99 #[.pointer (some ⟨n0, 0, none⟩), .pointer (some ⟨n0 + 3, 0, none⟩), .pointer (some ⟨n0 + 1, 0, none⟩)] w fun e w' => e = .returned (.tuple #[]) ∧ MS w0 pp n0 ms (ns ++ [m.name]) (k + 1) w' ∧ Ps w' pp t b r := by
  have hpn := hs.lt
  have c1 := hs.pbox.cell 0
  obtain ⟨-, c9, -⟩ := hp.cells
  have HQ := Lib.hid (quoted_any pp t a r m.name a1 w hp hc.q34 hc.al hc.qd hl hm1)
  have HC := Lib.hid hc
  have HS := Lib.hid hs
  have HN := Lib.hid (show d ≤ r ∧ r ≤ 100000 ∧ k ≤ 100000 ∧ t.length ≤ 100000 ∧ ns.length ≤ 100000 ∧ m.name.length ≤ 1000000 from ⟨hr, hr1, hk, hl, hns, hm1⟩)
  have HNEW := Lib.hid hnew
  have hms := mk_size
  have hmt := mk_toList
  clear hs hp hr hr1 hk hl hns hnew hm1 hc
  go_enter Tryz.func99, Tryz.ntmps99
  go_wp2_with fail
  refine HQ.out.mono ?_
  rintro e w1 ⟨rfl, hp1, hg1⟩
  have hs1 := HS.out.keep hg1
  have c3 := hs1.mbox.cell 0
  have hkey := key_mk m.name (by have := HN.out; omega)
  have hhas : Maps.has (setOf (H := Unit) (.agg []) (ns.map Lit.string)) (.string m.name) = false := by rw [has_names]; exact HNEW.out
  have hg2 : G pp w1 (w1.alloc (.cells #[] 116)) := World.grownBy_alloc w1 _ _
  have HS2 := Lib.hid (hs1.keep hg2)
  have c32 := HS2.out.mbox.cell 0
  have HP2 : Hid (Ps (w1.alloc (.cells #[] 116)) pp t a1 r) := Lib.hid (hp1.below ((Below.refl _ w1).alloc (Nat.le_refl _) _))
  have HSET1 := Lib.hid hs1.set
  have HSET2 := Lib.hid HS2.out.set
  clear hs1 hp1 hg1 HQ hg2
  go_wp2_with (first
    | (at_lookup; refine wpList_lookup_own_unit _ rfl _ _ 115 rfl 9 116 law9 Tryz.underlying115 (zeroUnit _) (n0 + 2) _ _ rfl HSET1.out _ _ rfl hkey ?_; rw [hhas])
    | (at_mapUpdate; refine wpList_mapUpdate_own _ rfl _ _ _ 115 rfl 9 116 law9 Tryz.underlying115 (unitElem (H := Unit)) (n0 + 2) _ _ rfl HSET2.out (by have := HN.out; unfold maxLen; omega) _ _ _ rfl rfl hkey _ [] unitElem_mk ?_; intro w3 hown3 hgrow3
       have hs3 : MS w0 pp n0 ms (ns ++ [m.name]) k w3 := HS2.out.upd hown3 hgrow3
       have hp3 : Ps w3 pp t a1 r := (hgrow3.block pp HP2.out.lt (fun e => by injection e; omega)).trans HP2.out
       have HS3 := Lib.hid hs3
       have c13 := hs3.pbox.cell 0
       have HSK := Lib.hid (skip_any pp t a1 a2 r w3 hp3 HC.out.sk HN.out.2.2.2.1)
       have HP3 := Lib.hid hp3
       clear hs3 hp3 hown3 hgrow3))
  refine HSK.out.mono ?_
  rintro e w4 ⟨rfl, hp4, hg4⟩
  have HS4 := Lib.hid (HS3.out.keep hg4)
  have c14 := HS4.out.pbox.cell 0
  have HTK := Lib.hid (take_any pp t a2 r 58 w4 hp4 HC.out.cl HC.out.c58 HN.out.2.2.2.1)
  clear HSK HP3 HS3 c13 hp4 hg4 HS2 HP2 HSET1 HSET2 c32 c3 c1 c9 HS
  go_wp2_with fail
  refine HTK.out.mono ?_
  rintro e w5 ⟨rfl, hp5, hg5⟩
  have hs5 := HS4.out.keep hg5
  obtain ⟨lv, rows, b1, ow, hlen, hrows, hh⟩ := hs5.lbox
  have hnle := hs5.le
  have hpx := hs5.pbox
  obtain ⟨i0, hi, hz0, hz1, hz2⟩ := info_parts info_member
  obtain ⟨A, cap, rfl⟩ : ∃ A c, lv = .slice A (k : Nat) c := by
    rcases ow.2 with ⟨rfl, h0⟩ | ⟨g, cap, cur, rfl, _⟩
    · exact ⟨none, 0, by rw [h0]⟩
    · exact ⟨_, _, rfl⟩
  have hn1 : n0 + 3 < w5.heap.size := hs5.mbox.lt
  have c0 : w5.drew.cell? ⟨n0 + 1, 0, none⟩ = some (.slice A (k : Nat) cap) := b1.cell 0
  have c1 : w5.drew.cell? ⟨n0, 0, none⟩ = some (.pointer (some ⟨pp, 0, none⟩)) := hpx.cell 0
  have HPd : Hid (Ps w5.drew pp t (a2 + 1) r) := Lib.hid hp5
  have HV : Hid (∀ W, Ps W pp t (a2 + 1) r → Calls Tryz.prog 56 #[.pointer (some ⟨pp, 0, none⟩)] W fun e w' => ∃ val, e = .returned val ∧ HoldsP (fun k => W.heap.size ≤ k) w' val m.val ∧ Ps w' pp t b r ∧ G pp W w') := Lib.hid (fun W h => HC.out.val pp r W HN.out.1 HN.out.2.1 h)
  have HO := Lib.hid ow
  have HR := Lib.hid hrows
  have HHh := Lib.hid hh
  have HS5 := Lib.hid hs5
  have HM := Lib.hid (show k ≤ 100000 ∧ rows.length = k ∧ n0 + 3 < w5.heap.size from ⟨HN.out.2.2.1, hlen, hn1⟩)
  have HB1 := Lib.hid b1
  have HPX := Lib.hid hpx
  clear hs5 hp5 hg5 ow hrows hh hlen b1 hpx hn1 hnle HTK HS4 c14
  go_wp2_with fail
  have HXS : Hid (rows.flatten.length = k * 6) := Lib.hid (by rw [rows_len6 rows HR.out, HM.out.2.1])
  have k1 : (k : Int) < (k : Int) + 1 := by omega
  have c0a : ∀ o : Obj, (w5.alloc o).cell? ⟨n0 + 1, 0, none⟩ = some (.slice A (k : Nat) cap) := fun o => (World.cell?_of_block (Below.heap_alloc w5 o _ HB1.out.lt)).trans (HB1.out.cell 0)
  have c1a : ∀ o : Obj, (w5.alloc o).cell? ⟨n0, 0, none⟩ = some (.pointer (some ⟨pp, 0, none⟩)) := fun o => (World.cell?_of_block (Below.heap_alloc w5 o _ HPX.out.lt)).trans (HPX.out.cell 0)
  have HPa : Hid (∀ o : Obj, Ps (w5.alloc o).drew pp t (a2 + 1) r) := Lib.hid (fun o => (Below.heap_alloc w5 o pp HPd.out.lt).trans HPd.out)
  go_region_law (first
    | (refine step_append_lies _ (by rfl) _ _ 25 (by rfl) (n0 + 4) 37 i0 _ 6 96 Tryz.underlying25 hi hz0 hz1 hz2 rfl (by decide) (.slice A (k : Nat) cap) k rows.flatten (by rfl) (HO4.out.alloc _)
        ⟨w4.heap.size, 0, none⟩ 1 1 [.string ⟨#[]⟩, .int .i64 0, .bool false, .string ⟨#[]⟩, .slice none 0 0, .slice none 0 0] (by rfl) (by rfl) (World.news_of_block (cs := #[.string ⟨#[]⟩, .int .i64 0, .bool false, .string ⟨#[]⟩, .slice none 0 0, .slice none 0 0]) (t := 37) (fr := (0, 0)) (heap_alloc_new w4 _)) (by intro u hu; simp only [List.mem_cons, List.not_mem_nil, or_false] at hu; rcases hu with rfl | rfl | rfl | rfl | rfl | rfl <;> rfl)
        (by omega) (by have := HM.out; unfold maxLen; omega) (by have := HM.out; omega) (by have := hgw.size; have := HM.out; simp; omega) (w4.heap.size + 1) (by simp) ?_; intro gg cap9 wz hownz hgrow hat hlt9; have hgz : w4.grownBy wz (Value.slice A k cap).ownBlock := (World.grownBy_alloc w4 _ _).trans hgrow; have hgg := row_base hownz gg rfl; have b1z : Blk wz (n0 + 1) 25 #[.slice A (k : Nat) cap] := (HB1.out.grown hgw (fun e => by injection e; omega)).grown hgz (fun e => by have := row_base HO.out _ e.symm; omega); have c0z := b1z.cell 0; have f0z := Lib.frozen_of_heap b1z 0; have hgne : ¬ gg = n0 + 1 := (by omega); have hgne' : ¬ n0 + 1 = gg := (by omega)
       obtain ⟨hrow5, hsome, hfz⟩ := row_last6 hownz HXS.out (.string (mk m.name)) (.int .i64 m.val.kind) (.bool m.val.yes) (.string (mk m.val.text)) (.slice A' (m.val.list.length : Nat) ca') (.slice B' (m.val.mem.length : Nat) cb')
       obtain ⟨q0, hq0⟩ := Option.isSome_iff_exists.1 (hsome 0 (by decide)); obtain ⟨q1, hq1⟩ := Option.isSome_iff_exists.1 (hsome 1 (by decide)); obtain ⟨q2, hq2⟩ := Option.isSome_iff_exists.1 (hsome 2 (by decide)); obtain ⟨q3, hq3⟩ := Option.isSome_iff_exists.1 (hsome 3 (by decide)); obtain ⟨q4, hq4⟩ := Option.isSome_iff_exists.1 (hsome 4 (by decide)); obtain ⟨q5, hq5⟩ := Option.isSome_iff_exists.1 (hsome 5 (by decide))
       rw [Nat.add_zero] at hq0
       have hf0 := hfz (k * 6); have hf1 := hfz (k * 6 + 1); have hf2 := hfz (k * 6 + 2); have hf3 := hfz (k * 6 + 3); have hf4 := hfz (k * 6 + 4); have hf5 := hfz (k * 6 + 5)
       have HR5 := Lib.hid hrow5; have HGZ := Lib.hid hgz; have HB1Z := Lib.hid b1z
       have HAT : Hid ((Value.slice A k cap).ownBlock = some gg ∨ w4.heap.size ≤ gg) := Lib.hid (hat.imp id (fun e => by omega)); have HGW := Lib.hid hgw
       clear hrow5 hsome hfz hownz hat b1z hgz hgw)
    | (refine step_append_lies _ (by rfl) _ _ 25 (by rfl) (n0 + 4) 37 i0 _ 6 96 Tryz.underlying25 hi hz0 hz1 hz2 rfl (by decide) (.slice A (k : Nat) cap) k rows.flatten (by rfl) HO4.out
        ⟨w5.heap.size, 0, none⟩ 1 1 [.string ⟨#[]⟩, .int .i64 0, .bool false, .string ⟨#[]⟩, .slice none 0 0, .slice none 0 0] (by rfl) (by rfl) (World.news_of_block (cs := #[.string ⟨#[]⟩, .int .i64 0, .bool false, .string ⟨#[]⟩, .slice none 0 0, .slice none 0 0]) (t := 37) (fr := (0, 0)) ((hg4.block w5.heap.size (by simp) (fun e => by injection e with e; have := HPd.out.lt; simp at this; omega)).trans (heap_alloc_new w5 _))) (by intro u hu; simp only [List.mem_cons, List.not_mem_nil, or_false] at hu; rcases hu with rfl | rfl | rfl | rfl | rfl | rfl <;> rfl)
        (by omega) (by have := HM.out; unfold maxLen; omega) (by have := HM.out; omega) (by have := hgw.size; have := HM.out; omega) w4.heap.size rfl ?_; intro gg cap9 wz hownz hgz hat hlt9; have hgg := row_base hownz gg rfl; have b1z : Blk wz (n0 + 1) 25 #[.slice A (k : Nat) cap] := (HB1.out.grown hgw (fun e => by injection e; omega)).grown hgz (fun e => by have := row_base HO.out _ e.symm; omega); have c0z := b1z.cell 0; have f0z := Lib.frozen_of_heap b1z 0; have hgne : ¬ gg = n0 + 1 := (by omega); have hgne' : ¬ n0 + 1 = gg := (by omega)
       obtain ⟨hrow5, hsome, hfz⟩ := row_last6 hownz HXS.out (.string (mk m.name)) (.int .i64 m.val.kind) (.bool m.val.yes) (.string (mk m.val.text)) (.slice A' (m.val.list.length : Nat) ca') (.slice B' (m.val.mem.length : Nat) cb')
       obtain ⟨q0, hq0⟩ := Option.isSome_iff_exists.1 (hsome 0 (by decide)); obtain ⟨q1, hq1⟩ := Option.isSome_iff_exists.1 (hsome 1 (by decide)); obtain ⟨q2, hq2⟩ := Option.isSome_iff_exists.1 (hsome 2 (by decide)); obtain ⟨q3, hq3⟩ := Option.isSome_iff_exists.1 (hsome 3 (by decide)); obtain ⟨q4, hq4⟩ := Option.isSome_iff_exists.1 (hsome 4 (by decide)); obtain ⟨q5, hq5⟩ := Option.isSome_iff_exists.1 (hsome 5 (by decide))
       rw [Nat.add_zero] at hq0
       have hf0 := hfz (k * 6); have hf1 := hfz (k * 6 + 1); have hf2 := hfz (k * 6 + 2); have hf3 := hfz (k * 6 + 3); have hf4 := hfz (k * 6 + 4); have hf5 := hfz (k * 6 + 5)
       have HR5 := Lib.hid hrow5; have HGZ := Lib.hid hgz; have HB1Z := Lib.hid b1z
       have HAT : Hid ((Value.slice A k cap).ownBlock = some gg ∨ w4.heap.size ≤ gg) := Lib.hid (hat.imp id (fun e => by omega)); have HGW := Lib.hid hgw
       clear hrow5 hsome hfz hownz hat b1z hgz hgw)
    | (go_simp; go_at_call 56; first | refine (HV.out _ HPd.out).mono ?_ | refine (HV.out _ (HPa.out _)).mono ?_
       rintro e w4 ⟨val, rfl, hho, hp4, hg4⟩
       obtain ⟨A', ca', B', cb', rfl, hrest⟩ := id hho
       have HHO : Hid (HoldsP (fun k => w5.heap.size ≤ k) w4 _ m.val) := Lib.hid (hho.mono (fun k hk _ => by simp at hk; omega))
       have HP4 := Lib.hid hp4
       clear hrest hho
       have hgw : G pp w5 w4 := by first | exact (G.drew pp (G.refl pp w5)).trans hg4 | exact (G.drew pp (World.grownBy_alloc w5 _ _)).trans hg4
       have b14 := HB1.out.grown hgw (fun e => by injection e; omega)
       have c04 := b14.cell 0
       have c04a : ∀ o : Obj, (w4.alloc o).cell? ⟨n0 + 1, 0, none⟩ = some (.slice A (k : Nat) cap) := fun o => (World.cell?_of_block (Below.heap_alloc w4 o _ b14.lt)).trans (b14.cell 0)
       have HO4 := Lib.hid (HO.out.kept hgw (.inr (fun e => by have := row_base HO.out pp e; omega)))))
  all_goals
    go_wp2
    go_end0
    refine ⟨rfl, ?_⟩
    try rw [set_swap _ _ _ hgne', set_swap _ _ _ hgne', set_swap _ _ _ hgne', set_swap _ _ _ hgne', set_swap _ _ _ hgne', set_swap _ _ _ hgne']
    exact mem_fin HS5.out HM.out.2.1 HB1.out HO.out HR.out HHh.out HGW.out HP4.out HGZ.out HAT.out HR5.out HHO.out hv
end Go.Proofs.YtkenananejgcpaaGreatDoor.Jsn
