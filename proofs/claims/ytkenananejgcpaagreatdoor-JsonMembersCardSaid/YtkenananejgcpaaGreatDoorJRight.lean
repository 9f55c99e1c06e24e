/-
  Right: whether a value is valid.
-/
import Derived.Test.YtkenananejgcpaaGreatDoorJDepth
import Derived.Test.YtkenananejgcpaaGreatDoorJNum
import Derived.Test.YtkenananejgcpaaGreatDoorT2
import Derived.Maps.OwnSet
namespace Go.Proofs.YtkenananejgcpaaGreatDoor.Jsn
open Go.RowKit Txt Go.Maps
attribute [local go_sem] Oper.semAt_some
/-- A set of names. -/
def SetAt (w : World) (b : Nat) (ns : List (List UInt8)) : Prop := w.ownsMap Tryz.prog 9 (unitElem (H := Unit)) b ns.length (setOf (.agg []) (ns.map Lit.string))
theorem has_names (ns : List (List UInt8)) (n : List UInt8) : Maps.has (setOf (H := Unit) (.agg []) (ns.map Lit.string)) (.string n) = ns.contains n := by
  rw [has_setOf _ _ _ (fun x hx => by obtain ⟨y, _, rfl⟩ := List.mem_map.1 hx; trivial), List.any_map]
  induction ns with
  | nil => rfl
  | cons m ns ih =>
    simp only [List.any_cons, List.contains_cons, Function.comp, Lit.sameKey]
    congr 1
    rw [Bool.eq_iff_iff, beq_iff_eq, beq_iff_eq]
    exact ⟨Eq.symm, Eq.symm⟩
theorem law9 : Keyed Tryz.prog 9 := string_keyed Tryz.underlying9
theorem zeroUnit (w : World) : (zeroValue 116).run Tryz.prog w = .ok (.agg #[]) w := by kernel_rfl
theorem key_mk (n : List UInt8) (h : n.length ≤ 140737488351232) : keyOf Tryz.prog 9 (.string (mk n)) = some (.string n) := by
  have := WideMaps.keyOf_string_mk (P := Tryz.prog) Tryz.underlying9 (s := mk n) (by rw [mk_size]; unfold maxLen; omega)
  rwa [mk_data] at this
theorem SetAt.kept {w w' : World} {b N : Nat} {ns : List (List UInt8)} (h : SetAt w b ns) (hb : Below N w w') (hN : b < N) : SetAt w' b ns := by
  obtain ⟨es, clock, hh, F, hs, hD⟩ := h
  exact ⟨es, clock, (hb.block b hN).trans hh, F, hs, hD⟩
/-- Names that are told, and unlike each other and those that were seen. -/
def namesOk : List (List UInt8) → List M → Bool
  | _, [] => true
  | seen, m :: l => !(seen.contains m.name) && decide (wrong m.name 0 < 0) && namesOk (seen ++ [m.name]) l
/-- The six cells of a member. -/
structure Mem6 (w : World) (P : Addr) (x : M) (A : Option Addr) (ca : Nat) (B : Option Addr) (cb : Nat) : Prop where
  c0 : w.cell? P = some (.string (mk x.name))
  c1 : w.cell? ⟨P.block, P.off + 1, none⟩ = some (.int .i64 x.val.kind)
  c2 : w.cell? ⟨P.block, P.off + 2, none⟩ = some (.bool x.val.yes)
  c3 : w.cell? ⟨P.block, P.off + 3, none⟩ = some (.string (mk x.val.text))
  c4 : w.cell? ⟨P.block, P.off + 4, none⟩ = some (.slice A (x.val.list.length : Nat) ca)
  c5 : w.cell? ⟨P.block, P.off + 5, none⟩ = some (.slice B (x.val.mem.length : Nat) cb)
/-- Members that a slice reads as. -/
structure Mems (w : World) (B : Option Addr) (m : List M) : Prop where
  ok : 0 < m.length → B.isSome = true
  name : ∀ i x, m[i]? = some x → w.cell? ((B.getD default).add (i * 6)) = some (.string (mk x.name))
  val : ∀ i x, m[i]? = some x → Reads w ((B.getD default).add (i * 6 + 1)) x.val
theorem Mems.six {w : World} {a : Addr} {m : List M} (h : Mems w (some a) m) {i : Nat} {x : M} (hx : m[i]? = some x) : ∃ A ca B cb, Mem6 w (a.add (i * 6)) x A ca B cb := by
  have h0 := h.name i x hx
  have h1 := h.val i x hx
  simp only [Option.getD_some] at h0 h1
  rw [← add_add] at h1
  generalize a.add (i * 6) = P at *
  obtain ⟨nm, v⟩ := x
  simp only [M.val] at h1
  cases h1 with
  | mk _ k y t l m' A ca B cb c0 c1 c2 c3 c4 hA hB hl hn hm =>
    rw [add_add] at c1 c2 c3 c4
    exact ⟨A, ca, B, cb, h0, c0, c1, c2, c3, c4⟩
theorem Mems.kept {w w' : World} {N : Nat} {B : Option Addr} {m : List M} (h : Mems w B m) (hb : Below N w w') (hN : w.heap.size ≤ N) : Mems w' B m :=
  ⟨h.ok, fun i x hx => (hb.cell (Nat.lt_of_lt_of_le (lt_cell (h.name i x hx)) hN)).trans (h.name i x hx), fun i x hx => (h.val i x hx).kept hb hN⟩
set_option maxRecDepth 100000
set_option maxHeartbeats 2000000 in
theorem names_any (m : List M) (B : Option Addr) (c : Nat) (w : World) (hm : Mems w B m) (hT : Tabs w) (h2 : 3 + 1 ≤ w.heap.size) (hlen : m.length ≤ 100000) (hn : ∀ x ∈ m, x.name.length ≤ 140737488351232) :
    Calls Tryz.prog 49 #[.slice B (m.length : Nat) c] w fun e w' => e = .returned (.bool (namesOk [] m)) ∧ Below w.heap.size w w' := by
  have HM := Lib.hid hm
  have HT := Lib.hid hT
  have HN := Lib.hid hn
  have hms := mk_size
  have hmt := mk_toList
  have hmm := @run_makeMap Tryz.prog
  clear hm hT hn
  go_enter Tryz.func49, Tryz.ntmps49
  go_wp2
  go_loopw [11] (fun i wr => ∃ k : Nat, k ≤ m.length ∧ i = .int .i64 k ∧ SetAt wr w.heap.size ((m.take k).map M.name) ∧ Below w.heap.size w wr ∧ w.heap.size < wr.heap.size ∧ namesOk [] m = namesOk ((m.take k).map M.name) (m.drop k)) (fun i _ => m.length - (intOf i).toNat)
  case atStart => exact ⟨0, Nat.zero_le _, rfl, by simpa [SetAt, setOf] using World.ownsMap_made w Tryz.prog 9 (unitElem (H := Unit)), (Below.refl _ _).alloc (Nat.le_refl _) _, by simp, by simp⟩
  case round =>
    obtain ⟨k, hk, rfl, hset, hb, hws, hok⟩ := hrel
    have HS := Lib.hid hset
    have HB := Lib.hid hb
    have HO := Lib.hid hok
    clear hset hb hok
    by_cases hlt : k < m.length
    · obtain ⟨a, rfl⟩ := Option.isSome_iff_exists.1 (HM.out.ok (by omega))
      obtain ⟨x, hx⟩ : ∃ x, m[k]? = some x := ⟨_, List.getElem?_eq_getElem hlt⟩
      obtain ⟨A', ca', B', cb', h6⟩ := (HM.out.kept HB.out (Nat.le_refl _)).six hx
      obtain ⟨c0, c1, c2, c3, c4, c5⟩ := h6
      have hxl : x.name.length ≤ 140737488351232 := HN.out x (List.mem_of_getElem? hx)
      have hkey := key_mk x.name hxl
      have k1 : (k : Int) < (m.length : Int) := by omega
      have k2 : (0 : Int) ≤ (k : Int) := by omega
      have hdrop : m.drop k = x :: m.drop (k + 1) := by
        rw [List.getElem?_eq_getElem hlt, Option.some.injEq] at hx
        rw [← hx]; exact List.drop_eq_getElem_cons hlt
      have htake : m.take (k + 1) = m.take k ++ [x] := by rw [List.take_add_one, hx]; rfl
      have HD := Lib.hid hdrop
      have HK := Lib.hid htake
      clear hdrop htake
      have hhas := has_names ((m.take k).map M.name) x.name
      have HOK : Hid (namesOk [] m = (!(((m.take k).map M.name).contains x.name) && decide (wrong x.name 0 < 0) && namesOk ((m.take (k + 1)).map M.name) (m.drop (k + 1)))) := Lib.hid (by
        rw [HO.out, HD.out, HK.out, List.map_append]; rfl)
      have hset2 : SetAt ((wr.alloc (.cells #[.string (mk x.name), .int .i64 x.val.kind, .bool x.val.yes, .string (mk x.val.text), .slice A' x.val.list.length ca', .slice B' x.val.mem.length cb'] 37)).alloc (.cells #[] 116)) w.heap.size ((m.take k).map M.name) := HS.out.kept (N := wr.heap.size) (((Below.refl _ wr).alloc (Nat.le_refl _) _).alloc (by simp) _) hws
      have HB2 : Hid (Below w.heap.size w ((wr.alloc (.cells #[.string (mk x.name), .int .i64 x.val.kind, .bool x.val.yes, .string (mk x.val.text), .slice A' x.val.list.length ca', .slice B' x.val.mem.length cb'] 37)).alloc (.cells #[] 116))) := Lib.hid (((HB.out.alloc (by omega) _)).alloc (by simp; omega) _)
      have HC := Lib.hid (told_any x.name ((wr.alloc (.cells #[.string (mk x.name), .int .i64 x.val.kind, .bool x.val.yes, .string (mk x.val.text), .slice A' x.val.list.length ca', .slice B' x.val.mem.length cb'] 37)).alloc (.cells #[] 116)) (HT.out.below HB2.out h2) (by simp only [World.size_alloc]; omega) hxl)
      have HS2 := Lib.hid hset2
      have HX : Hid (((wr.alloc (.cells #[.string (mk x.name), .int .i64 x.val.kind, .bool x.val.yes, .string (mk x.val.text), .slice A' x.val.list.length ca', .slice B' x.val.mem.length cb'] 37)).alloc (.cells #[] 116)).cell? ⟨wr.heap.size, 0, none⟩ = some (.string (mk x.name))) := Lib.hid ((World.cell?_of_block (Below.heap_alloc _ _ _ (by simp))).trans ((Blk.new wr _ _).cell 0))
      clear hset2
      generalize (((m.take k).map M.name).contains x.name) = ct at *
      generalize (decide (wrong x.name 0 < 0)) = td at *
      cases ct with
      | true =>
        clear HC
        go_wp2_with (at_lookup; refine wpList_lookup_own_unit _ rfl _ _ 115 rfl 9 116 law9 Tryz.underlying115 (zeroUnit _) w.heap.size _ _ rfl (HS.out.alloc _) _ _ rfl hkey ?_; rw [hhas])
        go_ret
        exact ⟨by rw [HOK.out]; rfl, HB2.out⟩
      | false =>
        go_wp2_with (at_lookup; refine wpList_lookup_own_unit _ rfl _ _ 115 rfl 9 116 law9 Tryz.underlying115 (zeroUnit _) w.heap.size _ _ rfl (HS.out.alloc _) _ _ rfl hkey ?_; rw [hhas])
        refine HC.out.mono ?_
        rintro e w1 ⟨rfl, hb1⟩
        have s1 := hb1.size
        simp only [World.size_alloc] at s1
        have HS3 := Lib.hid (HS2.out.kept hb1 (by simp; omega))
        have HB3 : Hid (Below w.heap.size w w1) := Lib.hid (HB2.out.trans (hb1.mono (by simp; omega)))
        have cx : w1.cell? ⟨wr.heap.size, 0, none⟩ = some (.string (mk x.name)) := (hb1.cell (by simp; omega)).trans HX.out
        clear hb1 HC HS HS2 HB2 HX HB c0 c1 c2 c3 c4 c5
        cases td with
        | false =>
          go_wp2
          go_ret
          exact ⟨by rw [HOK.out]; rfl, HB3.out⟩
        | true =>
          go_wp2_with (at_mapUpdate; refine wpList_mapUpdate_own _ rfl _ _ _ 115 rfl 9 116 law9 Tryz.underlying115 (unitElem (H := Unit)) w.heap.size _ _ rfl HS3.out (by simp; unfold maxLen; omega) _ _ _ rfl rfl hkey _ [] unitElem_mk ?_; intro w2 hown2 hgrow2)
          have HS4 : Hid (SetAt w2 w.heap.size ((m.take (k + 1)).map M.name)) := Lib.hid (by
            rw [HK.out]
            unfold SetAt
            rw [List.map_append, List.map_append, List.length_append]
            exact (setOf_snoc _ _ _) ▸ hown2)
          have s2 := hgrow2.size
          have HB4 : Hid (Below w.heap.size w w2) := Lib.hid (HB3.out.grown hgrow2 (by omega) (fun j hj => by cases hj; exact Nat.le_refl _))
          clear hown2 hgrow2
          go_wp2
          go_roundw
          case rel => exact ⟨k + 1, by omega, by go_num, HS4.out, HB4.out, by omega, by rw [HOK.out]; simp⟩
          case measure => simp [intOf]; omega
    · obtain rfl : k = m.length := by omega
      have HOK : Hid (namesOk [] m = true) := Lib.hid (by rw [HO.out, List.drop_length]; simp [namesOk])
      go_wp2
      go_ret
      exact ⟨by rw [HOK.out]; rfl, HB.out⟩
/-- A field that does not belong to the kind is there. -/
def foreign (v : V) : Bool := (v.yes && v.kind != 2) || (v.text != [] && v.kind != 3 && v.kind != 4) || (decide (0 < v.list.length) && v.kind != 5) || (decide (0 < v.mem.length) && v.kind != 6)
structure Val5 (w : World) (P : Addr) (v : V) (A : Option Addr) (ca : Nat) (B : Option Addr) (cb : Nat) : Prop where
  c0 : w.cell? P = some (.int .i64 v.kind)
  c1 : w.cell? ⟨P.block, P.off + 1, none⟩ = some (.bool v.yes)
  c2 : w.cell? ⟨P.block, P.off + 2, none⟩ = some (.string (mk v.text))
  c3 : w.cell? ⟨P.block, P.off + 3, none⟩ = some (.slice A (v.list.length : Nat) ca)
  c4 : w.cell? ⟨P.block, P.off + 4, none⟩ = some (.slice B (v.mem.length : Nat) cb)
theorem Reads.five {w : World} {P : Addr} {v : V} (h : Reads w P v) : ∃ A ca B cb, Val5 w P v A ca B cb ∧ Mems w B v.mem := by
  cases h with
  | mk _ k y t l m A ca B cb c0 c1 c2 c3 c4 hA hB hl hn hm => exact ⟨A, ca, B, cb, ⟨c0, c1, c2, c3, c4⟩, hB, hn, hm⟩
set_option maxHeartbeats 4000000 in
theorem foreign_any (v : V) (P : Addr) (w : World) (h : Reads w P v) : Calls Tryz.prog 47 #[.pointer (some P)] w fun e w' => e = .returned (.bool (foreign v)) ∧ w' = w := by
  obtain ⟨A, ca, B, cb, ⟨c0, c1, c2, c3, c4⟩, -⟩ := h.five
  clear h
  have HF : Hid (foreign v = ((v.yes && v.kind != 2) || (v.text != [] && v.kind != 3 && v.kind != 4) || (decide (0 < v.list.length) && v.kind != 5) || (decide (0 < v.mem.length) && v.kind != 6))) := Lib.hid rfl
  have hmt := mk_toList v.text
  generalize foreign v = f at *
  generalize v.kind = k at *
  generalize v.yes = y at *
  generalize v.list.length = n1 at *
  generalize v.mem.length = n2 at *
  go_enter Tryz.func47, Tryz.ntmps47
  go_wp2
  all_goals go_ret
  all_goals refine ⟨ret_bool ?_, rfl⟩
  all_goals rw [HF.out]
  all_goals (simp_all; done)
end Go.Proofs.YtkenananejgcpaaGreatDoor.Jsn
