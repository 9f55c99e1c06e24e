/-
  Print and Pretty.
-/
import Derived.Test.YtkenananejgcpaaGreatDoorJPr7
namespace Go.Proofs.YtkenananejgcpaaGreatDoor.Jsn
open Go.RowKit Txt
/-- What is written of a value: its text, or none. -/
def shown (ln : Bool) (v : V) : List UInt8 × Nat := if v.right then (v.txt ln 0 ++ nl ln 0, 0) else ([], 10)
theorem beg_ne (v : V) (h : v.right = true) : beg v ≠ [] := by
  rw [V.right_eq, Bool.and_eq_true] at h
  have hs := h.1
  unfold rightSelf at hs
  unfold beg
  by_cases hf : foreign v = true
  · rw [if_pos hf] at hs; cases hs
  rw [if_neg hf] at hs
  by_cases h1 : v.kind = 1
  · rw [if_pos h1]; simp
  rw [if_neg h1]
  by_cases h2 : v.kind = 2
  · rw [if_pos h2]; split <;> simp
  rw [if_neg h2]
  by_cases h3 : v.kind = 3
  · rw [if_pos h3]
    rw [if_neg (by omega), if_pos h3] at hs
    intro e
    rw [e] at hs
    simp [isNum, nend, mayEnd] at hs
  rw [if_neg h3]
  by_cases h4 : v.kind = 4
  · rw [if_pos h4]; simp [quote]
  rw [if_neg h4]
  by_cases h5 : v.kind = 5
  · rw [if_pos h5]; simp
  rw [if_neg h5]
  by_cases h6 : v.kind = 6
  · rw [if_pos h6]; simp
  rw [if_neg (by omega), if_neg h3, if_neg h4, if_neg h6] at hs
  cases hs
/-- What holds in the loop. -/
structure PL (W0 : World) (T : V) (ln : Bool) (B pb : Nat) (gs : List (It × V)) (l : List UInt8) (wr : World) : Prop where
  pr : Pr wr B pb l ln (gs.map Prod.fst)
  below : Below B W0 wr
  text : T.txt ln 0 = l ++ restR ln 0 gs
  good : ∀ s ∈ gs, Fr W0 T ln s
  few : gs.length + remG ln gs ≤ T.size
set_option maxRecDepth 100000
set_option maxHeartbeats 2000000 in
/-- One step of the printer. -/
theorem goOn_any (W0 : World) (T : V) (ln : Bool) (B pb : Nat) (gs : List (It × V)) (l : List UInt8) (w : World) (h : PL W0 T ln B pb gs l w) (hne : gs ≠ []) (hB : W0.heap.size ≤ B) (hT : T.size ≤ 90000) (hlen : (T.txt ln 0).length ≤ 500000) :
    Calls Tryz.prog 60 #[.pointer (some ⟨pb, 0, none⟩)] w fun e w' => e = .returned (.tuple #[]) ∧ ∃ gs' l', PL W0 T ln B pb gs' l' w' ∧ gs'.length + 2 * remG ln gs' < gs.length + 2 * remG ln gs := by
  rcases List.eq_nil_or_concat gs with rfl | ⟨ss, s, rfl⟩
  · exact absurd rfl hne
  rw [List.concat_eq_append] at h ⊢
  obtain ⟨⟨P, i⟩, v⟩ := s
  have hf := h.good ((P, i), v) (by simp)
  have hll : l.length ≤ 500000 := by
    have := congrArg List.length h.text
    rw [List.length_append] at this
    omega
  have hfew := h.few
  rw [List.length_append] at hfew
  simp only [List.length_cons, List.length_nil] at hfew
  have hpr := h.pr
  rw [List.map_append] at hpr
  have hsz : v.size ≤ T.size := hf.size
  have hel := ents_len ln hf.right hf.kind
  have hgd : ∀ s ∈ ss, Fr W0 T ln s := fun s hs => h.good s (List.mem_append.2 (.inl hs))
  by_cases hend : i = v.list.length + v.mem.length
  · subst hend
    refine (goOn_end B pb l ln (ss.map Prod.fst) P v w hpr (hf.reads.kept h.below hB) (Nat.lt_of_lt_of_le (lt_cell hf.reads.fields.choose_spec.choose_spec.choose_spec.choose_spec.1.kind) hB) (by omega) (by simp; omega) (by omega)).mono ?_
    rintro e w' ⟨rfl, hp, hb⟩
    refine ⟨rfl, ss, _, ⟨hp, h.below.trans hb, ?_, hgd, ?_⟩, ?_⟩
    · rw [h.text, restR_snoc]
      have hd : (rend ln (0 + ss.length) v).drop (v.list.length + v.mem.length) = [] := by
        apply List.drop_eq_nil_of_le
        unfold rend
        rw [List.length_map]
        simp only at hel
        omega
      simp only at hd ⊢
      rw [hd, bodyT]
      simp only [Nat.zero_add, List.length_map, beq_iff_eq, clo, List.append_assoc]
    · rw [remG_snoc] at hfew; omega
    · rw [remG_snoc, List.length_append]
      simp only [List.length_cons, List.length_nil]
      omega
  · have hdn : i ≤ (ents ln v).length := hf.done
    have hlt : i < (ents ln v).length := by simp only at hel; omega
    rcases hf.kind with h5 | h6
    · change v.kind = 5 at h5
      have hm0 := no_mem hf.right h5
      have hxi : ∃ x, v.list[i]? = some x := ⟨_, List.getElem?_eq_getElem (by simp only at hel; rw [hm0] at hel; simp at hel; omega)⟩
      obtain ⟨x, hxi⟩ := hxi
      have he : (ents ln v)[i]? = some ([], x) := by
        unfold ents
        rw [if_pos h5, List.getElem?_map, hxi]; rfl
      have hxt : x.tame := hf.tame.kid false (ents_mem (List.mem_of_getElem? he))
      refine (goOn_list B pb l ln (ss.map Prod.fst) P v W0 w i x h5 hxi hm0 ((V.tame_eq x).1 hxt).1 hpr hf.reads hB h.below (by omega) (by simp; omega) (by omega)).mono ?_
      rintro e w' ⟨rfl, ⟨A, ca, -, hrx, hp⟩, hb⟩
      obtain ⟨c1, c2, c3, c4, c5, c6, c7, c8⟩ := child (gs := ss) (l := l) hf he hrx
      refine ⟨rfl, _, _, ⟨?_, h.below.trans hb, by rw [h.text]; exact c6, ?_, ?_⟩, c8⟩
      · have : (if x.kind = 5 ∨ x.kind = 6 then ss ++ [((P, i + 1), v)] ++ [((A.add (i * 5), 0), x)] else ss ++ [((P, i + 1), v)]).map Prod.fst = if x.kind = 5 ∨ x.kind = 6 then ss.map Prod.fst ++ [(P, i + 1)] ++ [(A.add (i * 5), 0)] else ss.map Prod.fst ++ [(P, i + 1)] := by split <;> simp
        rw [this]
        simpa using hp
      · intro s hs
        split at hs
        · rename_i hk
          simp only [List.mem_append, List.mem_singleton] at hs
          rcases hs with (hs | rfl) | rfl
          · exact hgd s hs
          · exact c1
          · exact c5 hk
        · simp only [List.mem_append, List.mem_singleton] at hs
          rcases hs with hs | rfl
          · exact hgd s hs
          · exact c1
      · have := h.few
        omega
    · change v.kind = 6 at h6
      have hm0 := no_list hf.right h6
      have hxi : ∃ x, v.mem[i]? = some x := ⟨_, List.getElem?_eq_getElem (by simp only at hel; rw [hm0] at hel; simp at hel; omega)⟩
      obtain ⟨x, hxi⟩ := hxi
      have he : (ents ln v)[i]? = some (quote x.name ++ [58] ++ (if ln then [32] else []), x.val) := by
        unfold ents
        rw [if_neg (by omega), if_pos h6, List.getElem?_map, hxi]; rfl
      have hxt : x.val.tame := hf.tame.kid false (ents_mem (List.mem_of_getElem? he))
      have hnm : x.name.length ≤ 1000000 := ((V.tame_eq v).1 hf.tame).2.1 x (List.mem_of_getElem? hxi)
      have hql : (quote x.name).length ≤ 1000000 := by
        obtain ⟨Q, hQ⟩ : ∃ Q, Reads W0 Q x.val := by
          obtain ⟨A', ca', B', cb', _, hM, _⟩ := hf.reads.lists
          exact ⟨_, hM.val i x hxi⟩
        have := (child (gs := ss) (l := l) hf he hQ).2.2.2.2.2.1
        rw [← h.text] at this
        have := congrArg List.length this
        simp only [List.length_append] at this
        omega
      refine (goOn_mem B pb l ln (ss.map Prod.fst) P v W0 w i x h6 hxi hm0 hnm hql ((V.tame_eq x.val).1 hxt).1 hpr hf.reads hB h.below (by omega) (by simp; omega) (by omega)).mono ?_
      rintro e w' ⟨rfl, ⟨A, ca, -, hrx, hp⟩, hb⟩
      obtain ⟨c1, c2, c3, c4, c5, c6, c7, c8⟩ := child (gs := ss) (l := l) hf he hrx
      refine ⟨rfl, _, _, ⟨?_, h.below.trans hb, by rw [h.text]; exact c6, ?_, ?_⟩, c8⟩
      · have : (if x.val.kind = 5 ∨ x.val.kind = 6 then ss ++ [((P, i + 1), v)] ++ [((A.add (i * 6 + 1), 0), x.val)] else ss ++ [((P, i + 1), v)]).map Prod.fst = if x.val.kind = 5 ∨ x.val.kind = 6 then ss.map Prod.fst ++ [(P, i + 1)] ++ [(A.add (i * 6 + 1), 0)] else ss.map Prod.fst ++ [(P, i + 1)] := by split <;> simp
        rw [this]
        simpa using hp
      · intro s hs
        split at hs
        · rename_i hk
          simp only [List.mem_append, List.mem_singleton] at hs
          rcases hs with (hs | rfl) | rfl
          · exact hgd s hs
          · exact c1
          · exact c5 hk
        · simp only [List.mem_append, List.mem_singleton] at hs
          rcases hs with hs | rfl
          · exact hgd s hs
          · exact c1
      · have := h.few
        omega
set_option maxHeartbeats 2000000 in
theorem printed_any (ln : Bool) (v : V) (val : Value) (w : World) (hv : Holds w val v) (ht : v.tame) (hsz : v.size ≤ 90000) (hT : Tabs w) (h2 : 3 + 1 ≤ w.heap.size) (hlen : (v.txt ln 0).length ≤ 500000) :
    Calls Tryz.prog 38 #[val, .bool ln] w fun e w' => e = .returned (.tuple #[.string (mk (shown ln v).1), .int .i64 ((shown ln v).2 : Nat)]) ∧ Below w.heap.size w w' := by
  obtain ⟨A, ca, B, cb, rfl, hrest⟩ := id hv
  clear hrest
  obtain ⟨w0, hw0⟩ : ∃ w0, w0 = w.alloc (.cells #[.int .i64 v.kind, .bool v.yes, .string (mk v.text), .slice A v.list.length ca, .slice B v.mem.length cb] 27) := ⟨_, rfl⟩
  have hbox := hv.box 27
  rw [← hw0] at hbox
  have s0 : w0.heap.size = w.heap.size + 1 := by rw [hw0]; simp
  have hb0 : Below w.heap.size w w0 := by rw [hw0]; exact (Below.refl _ _).alloc (Nat.le_refl _) _
  have HR := Lib.hid (right_any v _ w0 (hv.kept hb0 (Nat.le_refl _)) (V.tame.loose v ht) hsz (hT.below hb0 h2) (by omega))
  obtain ⟨res, hres⟩ : ∃ res, res = shown ln v := ⟨_, rfl⟩
  rw [← hres]
  have HRES := Lib.hid hres
  have HBOX := Lib.hid hbox
  have HB0 := Lib.hid hb0
  have HH := Lib.hid (show v.tame ∧ v.size ≤ 90000 ∧ (v.txt ln 0).length ≤ 500000 from ⟨ht, hsz, hlen⟩)
  clear hv hres hbox hT ht hsz hlen hb0
  cases hrt : v.right with
  | false =>
    rw [hrt] at HR
    have HE : Hid (res = ([], 10)) := Lib.hid (by rw [HRES.out]; unfold shown; rw [hrt]; rfl)
    clear HRES
    go_enter Tryz.func38, Tryz.ntmps38
    go_wp2_with fail
    rw [← hw0]
    refine HR.out.mono ?_
    rintro e w1 ⟨rfl, hb1⟩
    have HB1 := Lib.hid (HB0.out.trans (hb1.mono (by omega)))
    clear hb1
    go_wp2
    go_ret2
    exact ⟨by rw [HE.out]; rfl, HB1.out⟩
  | true =>
    rw [hrt] at HR
    have HE : Hid (res = (v.txt ln 0 ++ nl ln 0, 0)) := Lib.hid (by rw [HRES.out]; unfold shown; rw [hrt]; rfl)
    clear HRES
    go_enter Tryz.func38, Tryz.ntmps38
    go_wp2_with fail
    rw [← hw0]
    clear hw0
    refine HR.out.mono ?_
    rintro e w1 ⟨rfl, hb1⟩
    have hs1 := hb1.size
    have HB1 := Lib.hid (HB0.out.trans (hb1.mono (by omega)))
    have HX := Lib.hid (HBOX.out.kept hb1 (Nat.le_refl _))
    clear hb1 HR HB0 HBOX
    go_wp2_with fail
    obtain ⟨pb, hpb⟩ : ∃ pb, pb = w1.heap.size := ⟨_, rfl⟩
    rw [← hpb]
    obtain ⟨w2, hw2⟩ : ∃ w2, w2 = w1.alloc (Obj.cells #[.pointer none, .slice none 0 0, .bool ln, .slice none 0 0] 102) := ⟨_, rfl⟩
    rw [← hw2]
    have hp2 : Pr w2 pb pb [] ln [] := .inl ⟨Nat.le_refl _, _, _, by rw [hw2, hpb]; exact heap_alloc_new w1 _, World.ownsRow_nil _ _ _ _, World.ownsRow_nil _ _ _ _⟩
    have hb2 : Below pb w1 w2 := by rw [hw2, hpb]; exact (Below.refl _ _).alloc (Nat.le_refl _) _
    refine (begin_any pb pb [] ln [] v ⟨w.heap.size, 0, none⟩ w2 hp2 (HX.out.kept hb2 (by omega)) ((V.tame_eq v).1 HH.out.1).1 (by simp) (by simp)).mono ?_
    rintro e w3 ⟨rfl, hp3, hb3⟩
    have HPL : Hid (PL w1 v ln pb pb (if v.kind = 5 ∨ v.kind = 6 then [((⟨w.heap.size, 0, none⟩, 0), v)] else []) (beg v) w3) := Lib.hid (by
      refine ⟨?_, hb2.trans hb3, ?_, ?_, ?_⟩
      · have : (if v.kind = 5 ∨ v.kind = 6 then [(((⟨w.heap.size, 0, none⟩, 0) : It), v)] else []).map Prod.fst = if v.kind = 5 ∨ v.kind = 6 then [] ++ [((⟨w.heap.size, 0, none⟩, 0) : It)] else [] := by split <;> rfl
        rw [this]
        simpa using hp3
      · rw [v.txt_eq]
        split
        · simp [restR]
        · simp [restR]
      · intro s hs
        split at hs
        · rename_i hk
          rw [List.mem_singleton.1 hs]
          exact ⟨HX.out, hk, hrt, HH.out.1, Nat.le_refl _, Nat.zero_le _⟩
        · cases hs
      · have := ents_sum ln v
        have := v.size_pos
        split
        · simp only [remG, List.map_cons, List.map_nil, List.sum_cons, List.sum_nil, remS, List.drop_zero, List.length_cons, List.length_nil]; omega
        · simp [remG])
    have HB3 : Hid (Below w.heap.size w w3) := Lib.hid (HB1.out.trans ((hb2.trans hb3).mono (by omega)))
    clear hp2 hb2 hp3 hb3 HX hw2
    generalize (if v.kind = 5 ∨ v.kind = 6 then [(((⟨w.heap.size, 0, none⟩, 0) : It), v)] else []) = gs0 at HPL
    generalize beg v = l0 at HPL
    have hpw : w.heap.size ≤ pb := by omega
    have HPB := Lib.hid hpb
    clear hs1 s0 h2 hpb
    go_wp2
    go_loopg [14] (gs0.length + 2 * remG ln gs0) (fun k _ wr => ∃ gs l, PL w1 v ln pb pb gs l wr ∧ k = gs.length + 2 * remG ln gs)
    case atStart => exact ⟨gs0, l0, HPL.out, rfl⟩
    case round =>
      obtain ⟨gs, l, hpl, hgk⟩ := hrel
      subst hgk
      obtain ⟨ap, hpa, -⟩ := pr_some hpl.pr
      obtain ⟨bv, ov, hh, -, o2, -⟩ := pr_parts hpa
      obtain ⟨A1, c1, rfl⟩ : ∃ A c, ov = .slice A (gs.length : Nat) c := by
        rcases o2.2 with ⟨rfl, h0⟩ | ⟨g, cap, cur, rfl, _⟩
        · rw [List.length_map] at h0; exact ⟨none, 0, by rw [h0]⟩
        · exact ⟨_, _, by rw [List.length_map]⟩
      have d3 : wr.cell? ⟨pb, 3, none⟩ = some (.slice A1 (gs.length : Nat) c1) := cell_of_row _ _ 3 _ _ _ hh
      have HQ := Lib.hid hpl
      clear hpl hpa hh o2 HPL HB3
      by_cases hne : gs = []
      · subst hne
        have HN := Lib.hid (newLine_any pb pb l ln [] wr HQ.out.pr (by
          have := congrArg List.length HQ.out.text
          rw [List.length_append] at this
          have := HH.out.2.2
          omega) (by simp))
        go_wp2_with fail
        refine HN.out.mono ?_
        rintro e w5 ⟨rfl, hp5, hb5⟩
        have HP5 := Lib.hid hp5
        have HB5 := Lib.hid (HQ.out.below.trans hb5)
        clear hp5 hb5 HN
        go_wp2_with fail
        refine (take_string pb pb _ ln [] w5 HP5.out (by
          intro e
          have h1 := (List.append_eq_nil_iff.1 e).1
          have h2 := HQ.out.text
          rw [h1] at h2
          simp only [restR, List.append_nil] at h2
          rw [v.txt_eq] at h2
          exact beg_ne v hrt (List.append_eq_nil_iff.1 h2).1)).mono ?_
        rintro e w6 ⟨rfl, hb6⟩
        have HB6 : Hid (Below w.heap.size w w6) := Lib.hid (HB1.out.trans ((HB5.out.trans hb6).mono hpw))
        have HT : Hid (l ++ nl ln ([] : List It).length = v.txt ln 0 ++ nl ln 0) := Lib.hid (by rw [HQ.out.text]; simp [restR])
        clear hb6
        go_wp2
        go_ret2
        exact ⟨by rw [HE.out, ← HT.out]; rfl, HB6.out⟩
      · have hpos : (0 : Int) < (gs.length : Int) := by have := List.length_pos_iff.2 hne; omega
        have HN := Lib.hid (goOn_any w1 v ln pb pb gs l wr HQ.out hne (by have := HPB.out; omega) HH.out.2.1 HH.out.2.2)
        go_wp2_with fail
        refine HN.out.mono ?_
        rintro e w5 ⟨rfl, gs', l', hpl', hlt'⟩
        have HP5 := Lib.hid hpl'
        clear hpl' HN HQ
        go_wp2
        go_roundg (gs'.length + 2 * remG ln gs')
        case measure => exact hlt'
        case rel => exact ⟨gs', l', HP5.out, rfl⟩
set_option maxHeartbeats 1000000 in
theorem print_any (v : V) (val : Value) (w : World) (hv : Holds w val v) (ht : v.tame) (hsz : v.size ≤ 90000) (hT : Tabs w) (h2 : 3 + 1 ≤ w.heap.size) (hlen : (v.txt false 0).length ≤ 500000) :
    Calls Tryz.prog 20 #[val] w fun e w' => e = .returned (.tuple #[.string (mk (shown false v).1), .int .i64 ((shown false v).2 : Nat)]) ∧ Below w.heap.size w w' := by
  obtain ⟨A, ca, B, cb, rfl, hrest⟩ := id hv
  clear hrest
  obtain ⟨w0, hw0⟩ : ∃ w0, w0 = w.alloc (.cells #[.int .i64 v.kind, .bool v.yes, .string (mk v.text), .slice A v.list.length ca, .slice B v.mem.length cb] 27) := ⟨_, rfl⟩
  have s0 : w0.heap.size = w.heap.size + 1 := by rw [hw0]; simp
  have hb0 : Below w.heap.size w w0 := by rw [hw0]; exact (Below.refl _ _).alloc (Nat.le_refl _) _
  have HC := Lib.hid (printed_any false v _ w0 (hv.kept hb0 (Nat.le_refl _)) ht hsz (hT.below hb0 h2) (by omega) hlen)
  have HB0 := Lib.hid hb0
  clear hv hT ht hsz hlen hb0
  generalize shown false v = r at *
  go_enter Tryz.func20, Tryz.ntmps20
  go_wp2_with fail
  rw [← hw0]
  clear hw0
  refine HC.out.mono ?_
  rintro e w1 ⟨rfl, hb1⟩
  have HB1 := Lib.hid (HB0.out.trans (hb1.mono (by omega)))
  clear hb1
  go_wp2
  go_ret2
  exact ⟨rfl, HB1.out⟩
end Go.Proofs.YtkenananejgcpaaGreatDoor.Jsn
