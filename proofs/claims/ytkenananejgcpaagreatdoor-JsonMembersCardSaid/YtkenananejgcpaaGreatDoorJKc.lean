/-
  find: the first member of a name.
  Get: the value of the first member of a name, in new memory.
  Obj and List: an object, an array in new memory.
-/
import Derived.Test.YtkenananejgcpaaGreatDoorJRight
import Derived.Test.YtkenananejgcpaaGreatDoorJKb
namespace Go.Proofs.YtkenananejgcpaaGreatDoor.Jsn
open Go.RowKit Txt
/-- The place of the first member of the name, from i on. -/
def findAt (nm : List UInt8) : List M → Nat → Int
  | [], _ => -1
  | x :: m, i => if x.name = nm then i else findAt nm m (i + 1)
theorem findAt_lt (nm : List UInt8) : ∀ (m : List M) (i : Nat), findAt nm m i = -1 ∨ ∃ j : Nat, findAt nm m i = (i + j : Nat) ∧ j < m.length
  | [], _ => .inl rfl
  | x :: m, i => by
    unfold findAt
    by_cases h : x.name = nm
    · rw [if_pos h]; exact .inr ⟨0, rfl, by simp⟩
    · rw [if_neg h]
      rcases findAt_lt nm m (i + 1) with h1 | ⟨j, h1, h2⟩
      · exact .inl h1
      · exact .inr ⟨j + 1, by rw [h1]; congr 1; omega, by simp; omega⟩
set_option maxRecDepth 100000
set_option maxHeartbeats 2000000 in
theorem find_any (m : List M) (B : Option Addr) (c : Nat) (nm : List UInt8) (w : World) (hm : Mems w B m) (hlen : m.length ≤ 100000) :
    Calls Tryz.prog 32 #[.slice B m.length c, .string (mk nm)] w fun e w' => e = .returned (.int .i64 (findAt nm m 0)) ∧ w' = w := by
  have HM := Lib.hid hm
  clear hm
  have hms := mk_size
  have hmt := mk_toList
  go_enter Tryz.func32, Tryz.ntmps32
  go_wp2
  go_loopw [5, 8] (fun v5 v8 wr => ∃ a : Nat, a ≤ m.length ∧ v8 = .int .i64 a ∧ findAt nm (m.drop a) a = findAt nm m 0 ∧ wr = w) (fun _ v8 _ => m.length - (intOf v8).toNat)
  case atStart => exact ⟨0, by omega, rfl, rfl, rfl⟩
  case round =>
    obtain ⟨a, ha, rfl, hw, rfl⟩ := hrel
    have HW := Lib.hid hw
    clear hw
    by_cases hlt : a < m.length
    · obtain ⟨x, hx⟩ : ∃ x, m[a]? = some x := ⟨m[a], List.getElem?_eq_getElem hlt⟩
      obtain ⟨b, rfl⟩ := Option.isSome_iff_exists.1 (HM.out.ok (by omega))
      obtain ⟨A', ca', B', cb', h6⟩ := HM.out.six hx
      have c0 := h6.c0
      have k1 : (a : Int) < (m.length : Int) := by omega
      have HS : Hid (findAt nm m 0 = if x.name = nm then (a : Int) else findAt nm (m.drop (a + 1)) (a + 1)) := Lib.hid (by
        have hdrop : m.drop a = x :: m.drop (a + 1) := by
          rw [List.getElem?_eq_getElem hlt, Option.some.injEq] at hx
          rw [← hx]; exact List.drop_eq_getElem_cons hlt
        rw [← HW.out, hdrop]
        rfl)
      clear h6 hx
      by_cases hq : x.name = nm
      · have HE : Hid (findAt nm m 0 = a) := Lib.hid (by rw [HS.out, if_pos hq])
        clear HS
        rw [hq] at c0
        go_wp2
        go_ret
        exact ⟨ret_num HE.out.symm, rfl⟩
      · have HE : Hid (findAt nm (m.drop (a + 1)) (a + 1) = findAt nm m 0) := Lib.hid (by rw [HS.out, if_neg hq])
        have hne : (x.name == nm) = false := by rw [beq_eq_false_iff_ne]; exact hq
        clear HS
        go_wp2
        exact ⟨⟨a + 1, by omega, by push_cast; rfl, HE.out, trivial⟩, by simp only [intOf]; omega⟩
    · obtain rfl : a = m.length := by omega
      have HE : Hid (findAt nm m 0 = -1) := Lib.hid (by rw [← HW.out, List.drop_length]; rfl)
      go_wp2
      go_ret
      exact ⟨ret_num HE.out.symm, rfl⟩
end Go.Proofs.YtkenananejgcpaaGreatDoor.Jsn
namespace Go.Proofs.YtkenananejgcpaaGreatDoor.Jsn
open Go.RowKit Txt
theorem findAt_spec (nm : List UInt8) : ∀ (m : List M) (i : Nat), (m.find? (fun x => decide (x.name = nm)) = none ∧ findAt nm m i = -1) ∨ ∃ j x, findAt nm m i = ((i + j : Nat) : Int) ∧ m[j]? = some x ∧ m.find? (fun x => decide (x.name = nm)) = some x ∧ x.name = nm
  | [], _ => .inl ⟨rfl, rfl⟩
  | x :: m, i => by
    unfold findAt
    by_cases h : x.name = nm
    · rw [if_pos h, List.find?_cons_of_pos (by simpa using h)]
      exact .inr ⟨0, x, rfl, rfl, rfl, h⟩
    · rw [if_neg h, List.find?_cons_of_neg (by simpa using h)]
      rcases findAt_spec nm m (i + 1) with ⟨h1, h2⟩ | ⟨j, y, h1, h2, h3, h4⟩
      · exact .inl ⟨h1, h2⟩
      · exact .inr ⟨j + 1, y, by rw [h1]; congr 1; omega, by simpa using h2, h3, h4⟩
/-- What Get tells. -/
def V.got (v : V) (nm : List UInt8) : Option V := if v.kind = 6 then (v.mem.find? fun x => decide (x.name = nm)).map M.val else none
abbrev V.zero : V := .mk 0 false [] [] []
abbrev zeroVal : Value := .agg #[.int .i64 0, .bool false, .string ⟨#[]⟩, .slice none 0 0, .slice none 0 0]
theorem zero_holds (Pd : Nat → Prop) (w : World) : HoldsP Pd w zeroVal V.zero := ⟨none, 0, none, 0, rfl, fun h => absurd h (by simp [V.list]), fun h => absurd h (by simp [V.mem]), fun i x h => by simp [V.list] at h, fun i x h => by simp [V.mem] at h, fun i x h => by simp [V.mem] at h⟩
theorem Src.holds {w : World} {v : V} {A B : Option Addr} (h : Src w v A B) (ca cb : Nat) : Holds w (.agg #[.int .i64 v.kind, .bool v.yes, .string (Txt.mk v.text), .slice A v.list.length ca, .slice B v.mem.length cb]) v := ⟨A, ca, B, cb, rfl, h.hA, h.hB, h.hl, h.hn, h.hm⟩
theorem Holds.mems {w : World} {v : V} {A B : Option Addr} {ca cb : Nat} (h : Holds w (.agg #[.int .i64 v.kind, .bool v.yes, .string (mk v.text), .slice A v.list.length ca, .slice B v.mem.length cb]) v) : Mems w B v.mem := by
  obtain ⟨A', ca', B', cb', e, hA, hB, hl, hn, hm⟩ := h
  injection e with e
  simp at e
  obtain ⟨⟨rfl, _⟩, rfl, _⟩ := e
  exact ⟨hB, hn, hm⟩
theorem results_ct {fn : Func} {p q : Tmp} {tp : TypeId} (h : fn.results = #[.cell p tp, .tmp q]) (tmps : Array Value) (P : Program) (w : World) :
    (results fn tmps).run P w = ((asAddr (tmps.getD p undef)).run P w).andThen fun a w₁ => ((loadVar tp a).run P w₁).andThen fun x w₂ => .ok (.tuple #[x, tmps.getD q undef]) w₂ := by
  simp only [results, h]
  simp [Sem.run_bind, Result.andThen]
theorem results_c {fn : Func} {p : Tmp} {tp : TypeId} (h : fn.results = #[.cell p tp]) (tmps : Array Value) (P : Program) (w : World) :
    (results fn tmps).run P w = ((asAddr (tmps.getD p undef)).run P w).andThen fun a w₁ => ((loadVar tp a).run P w₁).andThen fun x w₂ => .ok x w₂ := by
  simp only [results, h]
  simp [Sem.run_bind, Result.andThen]
  cases (asAddr (tmps[p]?.getD undef)).run P w with
  | ok a w1 => simp only []; cases (loadVar tp a).run P w1 <;> rfl
  | halt a w1 => rfl
/-- Five stores into a block that the value doesn't lie in. -/
theorem HoldsP.five {Pd : Nat → Prop} {w : World} {val : Value} {v : V} (h : HoldsP Pd w val v) {k : Nat} (hk : ¬ Pd k) (u0 u1 u2 u3 u4 : Value) : HoldsP Pd (((((w.setCell ⟨k, 0, none⟩ u0).setCell ⟨k, 1, none⟩ u1).setCell ⟨k, 2, none⟩ u2).setCell ⟨k, 3, none⟩ u3).setCell ⟨k, 4, none⟩ u4) val v :=
  h.kept (fun q hq hl => by
    have hne : q ≠ k := fun e => hk (e ▸ hq)
    rw [Below.heap_setCell _ _ _ _ (by simpa using hne), Below.heap_setCell _ _ _ _ (by simpa using hne), Below.heap_setCell _ _ _ _ (by simpa using hne), Below.heap_setCell _ _ _ _ (by simpa using hne), Below.heap_setCell _ _ _ _ (by simpa using hne)])
/-- Five stores into one block. -/
theorem Below.five {B k : Nat} {w w' : World} (h : Below B w w') (hk : B ≤ k) (u0 u1 u2 u3 u4 : Value) : Below B w (((((w'.setCell ⟨k, 0, none⟩ u0).setCell ⟨k, 1, none⟩ u1).setCell ⟨k, 2, none⟩ u2).setCell ⟨k, 3, none⟩ u3).setCell ⟨k, 4, none⟩ u4) :=
  have hs := fun (b : World) (i : Nat) (x : Value) (h : Below B w b) => h.setCell (p := ⟨k, i, none⟩) hk x
  hs _ _ _ (hs _ _ _ (hs _ _ _ (hs _ _ _ (hs _ _ _ h))))
theorem Mems.src {w : World} {a : Addr} {m : List M} (h : Mems w (some a) m) {i : Nat} {x : M} (hx : m[i]? = some x) : ∃ A ca B cb, Mem6 w (a.add (i * 6)) x A ca B cb ∧ Src w x.val A B := by
  have h0 := h.name i x hx
  have h1 := h.val i x hx
  simp only [Option.getD_some] at h0 h1
  rw [← add_add] at h1
  generalize a.add (i * 6) = P at *
  obtain ⟨nm, v⟩ := x
  simp only [M.val] at h1
  cases h1 with
  | mk _ k y t l m' A ca B cb c0 c1 c2 c3 c4 hA hB hl hn hm =>
    rw [add_add] at c1 c2 c3 c4
    exact ⟨A, ca, B, cb, ⟨h0, c0, c1, c2, c3, c4⟩, ⟨hA, hB, hl, hn, hm⟩⟩
set_option maxRecDepth 100000
set_option maxHeartbeats 4000000 in
theorem get_any (v : V) (val : Value) (nm : List UInt8) (w : World) (hv : Holds w val v) (hsz : v.size ≤ 90000) (hl : v.loose) :
    Calls Tryz.prog 13 #[val, .string (mk nm)] w fun e w' => ∃ val', e = .returned (.tuple #[val', .bool (v.got nm).isSome]) ∧ HoldsP (fun k => w.heap.size ≤ k) w' val' ((v.got nm).getD V.zero) ∧ Below w.heap.size w w' := by
  obtain ⟨A, ca, B, cb, rfl, hrest⟩ := id hv
  clear hrest
  have hM := hv.mems
  have hts := v.size_eq
  have l2 := sum_len (fun m : M => m.val.size) (fun m => m.val.size_pos) v.mem
  rw [← sizeM_sum] at l2
  have hms := mk_size
  have hmt := mk_toList
  have hgk : v.got nm = if v.kind = 6 then (v.mem.find? fun x => decide (x.name = nm)).map M.val else none := rfl
  clear hv
  generalize v.kind = kk at *
  obtain ⟨W1, hW1⟩ : ∃ W1, W1 = (w.alloc (.cells #[.int .i64 kk, .bool v.yes, .string (mk v.text), .slice A v.list.length ca, .slice B v.mem.length cb] 27)).alloc (.cells #[.int .i64 0, .bool false, .string ⟨#[]⟩, .slice none 0 0, .slice none 0 0] 27) := ⟨_, rfl⟩
  have s1 : W1.heap.size = w.heap.size + 2 := by rw [hW1]; simp
  have hb1 : Below w.heap.size w W1 := by rw [hW1]; exact ((Below.refl _ _).alloc (Nat.le_refl _) _).alloc (by simp) _
  have q0 : Blk W1 w.heap.size 27 #[.int .i64 kk, .bool v.yes, .string (mk v.text), .slice A v.list.length ca, .slice B v.mem.length cb] := by
    have h := heap_alloc_new w (.cells #[.int .i64 kk, .bool v.yes, .string (mk v.text), .slice A v.list.length ca, .slice B v.mem.length cb] 27)
    unfold Blk
    rw [hW1, Below.heap_alloc _ _ _ (by simp)]
    exact h
  have q1 : Blk W1 (w.heap.size + 1) 27 #[.int .i64 0, .bool false, .string ⟨#[]⟩, .slice none 0 0, .slice none 0 0] := by
    have h := heap_alloc_new (w.alloc (.cells #[.int .i64 kk, .bool v.yes, .string (mk v.text), .slice A v.list.length ca, .slice B v.mem.length cb] 27)) (.cells #[.int .i64 0, .bool false, .string ⟨#[]⟩, .slice none 0 0, .slice none 0 0] 27)
    simp only [World.size_alloc] at h
    unfold Blk
    rw [hW1]
    exact h
  have hM1 := hM.kept hb1 (Nat.le_refl _)
  have hW := hW1.symm
  clear hW1
  have HQ0 := Lib.hid q0
  have HQ1 := Lib.hid q1
  have HB1 := Lib.hid hb1
  have c0 := q0.cell 0
  have c4 := q0.cell 4
  have r0 := q1.cell 0
  have r1 := q1.cell 1
  have r2 := q1.cell 2
  have r3 := q1.cell 3
  have r4 := q1.cell 4
  have f0 := Lib.frozen_of_heap q1 0
  have f1 := Lib.frozen_of_heap q1 1
  have f2 := Lib.frozen_of_heap q1 2
  have f3 := Lib.frozen_of_heap q1 3
  have f4 := Lib.frozen_of_heap q1 4
  by_cases hk : kk = 6
  · subst hk
    have hg : v.got nm = (v.mem.find? fun x => decide (x.name = nm)).map M.val := by rw [hgk, if_pos rfl]
    clear hgk
    have HF := Lib.hid (find_any v.mem B cb nm W1 hM1 (by omega))
    rcases findAt_spec nm v.mem 0 with ⟨h1, h2⟩ | ⟨j, x, h1, h2, h3, h4⟩
    · rw [h1] at hg
      have HG : Hid (v.got nm = none) := Lib.hid hg
      rw [h2] at HF
      clear hM hg hts l2 hl h1 h2 q0 q1 hb1 hM1
      go_enter Tryz.func13, Tryz.ntmps13
      go_wp2_with fail
      refine HF.out.mono ?_
      rintro e w1 ⟨rfl, rfl⟩
      go_wp2
      (try simp only [Exit.inBlock, Exit.then])
      refine bodyPost_ret (v := .tuple #[zeroVal, .bool false]) ?_ rfl ?_
      · rw [results_ct rfl]
        go_simp
      refine ⟨_, by rw [HG.out]; rfl, by rw [HG.out]; exact zero_holds _ _, Below.five HB1.out (by omega) _ _ _ _ _⟩
    · rw [h3] at hg
      have HG : Hid (v.got nm = some x.val) := Lib.hid hg
      rw [h1, Nat.zero_add] at HF
      have hj : j < v.mem.length := (List.getElem?_eq_some_iff.1 h2).1
      obtain ⟨b, rfl⟩ := Option.isSome_iff_exists.1 (hM1.ok (by omega))
      obtain ⟨A', ca', B', cb', ⟨d0, d1, d2, d3, d4, d5⟩, hsrc⟩ := hM1.src h2
      have hxs : x.val.size ≤ 90000 := by
        have := V.lt_mem (List.mem_of_getElem? h2)
        omega
      have hxl : x.val.loose := ((V.loose_eq v).1 hl).2.2 x.val (by unfold V.kids; simp only [Bool.true_or, if_true, List.mem_append]; exact .inr (List.mem_map.2 ⟨x, List.mem_of_getElem? h2, rfl⟩))
      have HC := Lib.hid (copy_any x.val _ W1 (hsrc.holds ca' cb') hxs hxl)
      have hjl : (j : Int) < (v.mem.length : Int) := by omega
      have e2 : W1.cell? ⟨(b.add (j * 6)).block, (b.add (j * 6)).off + 1 + 1, none⟩ = _ := d2
      have e3 : W1.cell? ⟨(b.add (j * 6)).block, (b.add (j * 6)).off + 1 + 2, none⟩ = _ := d3
      have e4 : W1.cell? ⟨(b.add (j * 6)).block, (b.add (j * 6)).off + 1 + 3, none⟩ = _ := d4
      have e5 : W1.cell? ⟨(b.add (j * 6)).block, (b.add (j * 6)).off + 1 + 4, none⟩ = _ := d5
      clear hM hg hts l2 hl h1 h3 h4 q0 q1 hb1 hM1 hsrc hxs hxl h2 d0 d2 d3 d4 d5 hj
      generalize x.val = y at *
      go_enter Tryz.func13, Tryz.ntmps13
      go_wp2_with fail
      refine HF.out.mono ?_
      rintro e w1 ⟨rfl, rfl⟩
      clear HF
      go_wp2_with fail
      refine HC.out.mono ?_
      rintro e w2 ⟨val', rfl, hh, hb2⟩
      obtain ⟨A2, ca2, B2, cb2, rfl, -⟩ := id hh
      have q2 := HQ1.out.below hb2 (by omega)
      have k0 := q2.cell 0
      have k1 := q2.cell 1
      have k2 := q2.cell 2
      have k3 := q2.cell 3
      have k4 := q2.cell 4
      have g0 := Lib.frozen_of_heap q2 0
      have g1 := Lib.frozen_of_heap q2 1
      have g2 := Lib.frozen_of_heap q2 2
      have g3 := Lib.frozen_of_heap q2 3
      have g4 := Lib.frozen_of_heap q2 4
      have HH := Lib.hid hh
      have HB2 := Lib.hid (HB1.out.trans (hb2.mono (by omega)))
      clear hh hb2 q2 HC
      go_wp2
      (try simp only [Exit.inBlock, Exit.then])
      refine bodyPost_ret (v := .tuple #[.agg #[.int .i64 y.kind, .bool y.yes, .string (mk y.text), .slice A2 (y.list.length : Nat) ca2, .slice B2 (y.mem.length : Nat) cb2], .bool true]) ?_ rfl ?_
      · rw [results_ct rfl]
        go_simp
      refine ⟨_, by rw [HG.out]; rfl, by rw [HG.out]; exact ((HH.out.five (by omega) _ _ _ _ _).mono (fun q hq _ => by omega)), Below.five HB2.out (by omega) _ _ _ _ _⟩
  · have hg : v.got nm = none := by rw [hgk, if_neg hk]
    clear hgk
    have HG := Lib.hid hg
    have hk6 : (kk == 6) = false := by rw [beq_eq_false_iff_ne]; exact hk
    clear hM hg hts l2 hl q0 q1 hb1 hM1
    go_enter Tryz.func13, Tryz.ntmps13
    go_wp2
    (try simp only [Exit.inBlock, Exit.then])
    refine bodyPost_ret (v := .tuple #[zeroVal, .bool false]) ?_ rfl ?_
    · rw [results_ct rfl]
      go_simp
    refine ⟨_, by rw [HG.out]; rfl, by rw [HG.out]; exact zero_holds _ _, Below.five HB1.out (by omega) _ _ _ _ _⟩
end Go.Proofs.YtkenananejgcpaaGreatDoor.Jsn
namespace Go.Proofs.YtkenananejgcpaaGreatDoor.Jsn
open Go.RowKit Txt
theorem Mems.holds {w : World} {B : Option Addr} {m : List M} (h : Mems w B m) (c : Nat) : Holds w (.agg #[.int .i64 6, .bool false, .string ⟨#[]⟩, .slice none 0 0, .slice B (m.length : Nat) c]) (V.mk 6 false [] [] m) :=
  ⟨none, 0, B, c, rfl, fun h => absurd h (by simp [V.list]), h.ok, fun i x h => by simp [V.list] at h, h.name, h.val⟩
/-- Values that a slice reads as. -/
def Vals (w : World) (A : Option Addr) (l : List V) : Prop := (0 < l.length → A.isSome = true) ∧ ∀ i x, l[i]? = some x → Reads w ((A.getD default).add (i * 5)) x
theorem Vals.holds {w : World} {A : Option Addr} {l : List V} (h : Vals w A l) (c : Nat) : Holds w (.agg #[.int .i64 5, .bool false, .string ⟨#[]⟩, .slice A (l.length : Nat) c, .slice none 0 0]) (V.mk 5 false [] l []) :=
  ⟨A, c, none, 0, rfl, h.1, fun h => absurd h (by simp [V.mem]), h.2, fun i x h => by simp [V.mem] at h, fun i x h => by simp [V.mem] at h⟩
theorem Vals.kept {w w' : World} {N : Nat} {A : Option Addr} {l : List V} (h : Vals w A l) (hb : Below N w w') (hN : w.heap.size ≤ N) : Vals w' A l := ⟨h.1, fun i x hx => (h.2 i x hx).kept hb hN⟩
set_option maxRecDepth 100000
set_option maxHeartbeats 4000000 in
theorem obj_any (m : List M) (B : Option Addr) (c : Nat) (w : World) (hm : Mems w B m) (hsz : (V.mk 6 false [] [] m).size ≤ 90000) (hl : (V.mk 6 false [] [] m).loose) :
    Calls Tryz.prog 12 #[.slice B (m.length : Nat) c] w fun e w' => ∃ val', e = .returned val' ∧ HoldsP (fun k => w.heap.size ≤ k) w' val' (V.mk 6 false [] [] m) ∧ Below w.heap.size w w' := by
  obtain ⟨W1, hW1⟩ : ∃ W1, w.alloc (.cells #[.int .i64 0, .bool false, .string ⟨#[]⟩, .slice none 0 0, .slice none 0 0] 27) = W1 := ⟨_, rfl⟩
  have s1 : W1.heap.size = w.heap.size + 1 := by rw [← hW1]; simp
  have hb1 : Below w.heap.size w W1 := by rw [← hW1]; exact (Below.refl _ _).alloc (Nat.le_refl _) _
  have q1 : Blk W1 w.heap.size 27 #[.int .i64 0, .bool false, .string ⟨#[]⟩, .slice none 0 0, .slice none 0 0] := by rw [← hW1]; exact Blk.new w _ _
  have HC := Lib.hid (copy_any (V.mk 6 false [] [] m) _ W1 ((hm.kept hb1 (Nat.le_refl _)).holds c) hsz hl)
  have HQ1 := Lib.hid q1
  have HB1 := Lib.hid hb1
  clear hm hsz hl hb1 q1
  generalize hV : V.mk 6 false [] [] m = y at *
  generalize m.length = n at *
  go_enter Tryz.func12, Tryz.ntmps12
  go_wp2_with fail
  refine HC.out.mono ?_
  rintro e w2 ⟨val', rfl, hh, hb2⟩
  obtain ⟨A2, ca2, B2, cb2, rfl, -⟩ := id hh
  have q2 := HQ1.out.below hb2 (by omega)
  have k0 := q2.cell 0
  have k1 := q2.cell 1
  have k2 := q2.cell 2
  have k3 := q2.cell 3
  have k4 := q2.cell 4
  have g0 := Lib.frozen_of_heap q2 0
  have g1 := Lib.frozen_of_heap q2 1
  have g2 := Lib.frozen_of_heap q2 2
  have g3 := Lib.frozen_of_heap q2 3
  have g4 := Lib.frozen_of_heap q2 4
  have HH := Lib.hid hh
  have HB2 := Lib.hid (HB1.out.trans (hb2.mono (by omega)))
  clear hh hb2 q2 HC
  go_wp2
  (try simp only [Exit.inBlock, Exit.then])
  refine bodyPost_ret (v := .agg #[.int .i64 y.kind, .bool y.yes, .string (mk y.text), .slice A2 (y.list.length : Nat) ca2, .slice B2 (y.mem.length : Nat) cb2]) ?_ rfl ?_
  · rw [results_c rfl]
    go_simp
  exact ⟨_, rfl, (HH.out.five (by omega) _ _ _ _ _).mono (fun q hq _ => by omega), Below.five HB2.out (by omega) _ _ _ _ _⟩
set_option maxHeartbeats 4000000 in
theorem list_of_any (l : List V) (A : Option Addr) (c : Nat) (w : World) (hm : Vals w A l) (hsz : (V.mk 5 false [] l []).size ≤ 90000) (hl : (V.mk 5 false [] l []).loose) :
    Calls Tryz.prog 14 #[.slice A (l.length : Nat) c] w fun e w' => ∃ val', e = .returned val' ∧ HoldsP (fun k => w.heap.size ≤ k) w' val' (V.mk 5 false [] l []) ∧ Below w.heap.size w w' := by
  obtain ⟨W1, hW1⟩ : ∃ W1, w.alloc (.cells #[.int .i64 0, .bool false, .string ⟨#[]⟩, .slice none 0 0, .slice none 0 0] 27) = W1 := ⟨_, rfl⟩
  have s1 : W1.heap.size = w.heap.size + 1 := by rw [← hW1]; simp
  have hb1 : Below w.heap.size w W1 := by rw [← hW1]; exact (Below.refl _ _).alloc (Nat.le_refl _) _
  have q1 : Blk W1 w.heap.size 27 #[.int .i64 0, .bool false, .string ⟨#[]⟩, .slice none 0 0, .slice none 0 0] := by rw [← hW1]; exact Blk.new w _ _
  have HC := Lib.hid (copy_any (V.mk 5 false [] l []) _ W1 ((hm.kept hb1 (Nat.le_refl _)).holds c) hsz hl)
  have HQ1 := Lib.hid q1
  have HB1 := Lib.hid hb1
  clear hm hsz hl hb1 q1
  generalize hV : V.mk 5 false [] l [] = y at *
  generalize l.length = n at *
  go_enter Tryz.func14, Tryz.ntmps14
  go_wp2_with fail
  refine HC.out.mono ?_
  rintro e w2 ⟨val', rfl, hh, hb2⟩
  obtain ⟨A2, ca2, B2, cb2, rfl, -⟩ := id hh
  have q2 := HQ1.out.below hb2 (by omega)
  have k0 := q2.cell 0
  have k1 := q2.cell 1
  have k2 := q2.cell 2
  have k3 := q2.cell 3
  have k4 := q2.cell 4
  have g0 := Lib.frozen_of_heap q2 0
  have g1 := Lib.frozen_of_heap q2 1
  have g2 := Lib.frozen_of_heap q2 2
  have g3 := Lib.frozen_of_heap q2 3
  have g4 := Lib.frozen_of_heap q2 4
  have HH := Lib.hid hh
  have HB2 := Lib.hid (HB1.out.trans (hb2.mono (by omega)))
  clear hh hb2 q2 HC
  go_wp2
  (try simp only [Exit.inBlock, Exit.then])
  refine bodyPost_ret (v := .agg #[.int .i64 y.kind, .bool y.yes, .string (mk y.text), .slice A2 (y.list.length : Nat) ca2, .slice B2 (y.mem.length : Nat) cb2]) ?_ rfl ?_
  · rw [results_c rfl]
    go_simp
  exact ⟨_, rfl, (HH.out.five (by omega) _ _ _ _ _).mono (fun q hq _ => by omega), Below.five HB2.out (by omega) _ _ _ _ _⟩
end Go.Proofs.YtkenananejgcpaaGreatDoor.Jsn
