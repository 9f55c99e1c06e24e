/-
  The contracts of Num and Int of package json, by those of strconv.Itoa and strconv.ParseInt.
-/
import Derived.Test.YtkenananejgcpaaGreatDoorJNMath2
import Derived.Test.YtkenananejgcpaaGreatDoorTShelf3
import Derived.Test.YtkenananejgcpaaGreatDoorJPa11
import Derived.Lib.AppendIntMem
namespace Go.Proofs.YtkenananejgcpaaGreatDoor.Jsn
open Go.RowKit Txt
abbrev ErrAt (w : World) (g : Nat) : Prop := ∃ ev, w.cell? ⟨g, 0, none⟩ = some ev ∧ (ev = .nilIface ∨ ∃ te pe, ev = .iface te pe)
/-- The library's variables: the tables of utf8 and of the powers of ten, the two errors of strconv. -/
structure Env (w : World) : Prop where
  tabs : Tabs w
  pow : Lib.TabIs Tryz.prog w "internal/strconv.uint64pow10" .u64 Lib.pow10Tab
  syn : ErrAt w 0
  rng : ErrAt w 1
  size : 7 ≤ w.heap.size
theorem pow_named : Tryz.prog.globalNamed "internal/strconv.uint64pow10" = some 4 := by kernel_rfl
theorem Env.below {w w' : World} (h : Env w) {B : Nat} (hb : Below B w w') (hB : 7 ≤ B) : Env w' := by
  refine ⟨h.tabs.below hb (show 3 + 1 ≤ B by omega), ?_, ?_, ?_, Nat.le_trans h.size hb.size⟩
  · have := h.pow
    unfold Lib.TabIs World.var? at this ⊢
    rw [pow_named] at this ⊢
    simp only [Option.bind_some] at this ⊢
    rw [hb.block 4 (by omega)]
    exact this
  · obtain ⟨ev, h1, h2⟩ := h.syn
    exact ⟨ev, (hb.cell (show 0 < B by omega)).trans h1, h2⟩
  · obtain ⟨ev, h1, h2⟩ := h.rng
    exact ⟨ev, (hb.cell (show 1 < B by omega)).trans h1, h2⟩
theorem itoa_any (n : Int) (h0 : -9223372036854775808 ≤ n) (h1 : n ≤ 9223372036854775807) (w : World) (he : Env w) :
    Calls Tryz.prog 22 #[.int .i64 n] w fun e w' => e = .returned (.string (mk (Lib.itoa n))) ∧ Below w.heap.size w w' := by
  refine (Any.strconv_Itoa lays171 n h0 h1 w he.pow).mono ?_
  rintro e w' ⟨rfl, k, os, rfl⟩
  exact ⟨rfl, Lib.below_grow _ w (Nat.le_refl _) k os⟩
/-- What ParseInt hands back. -/
def ParR (l : List UInt8) (w : World) (e : Ending) (w' : World) : Prop := ((∃ v, Lib.parseIntB 64 l = .ok v ∧ e = .returned (.tuple #[.int .i64 v, .nilIface])) ∨ ((∀ v, Lib.parseIntB 64 l ≠ .ok v) ∧ ∃ (v : Int) (t : TypeId) (N : Addr), e = .returned (.tuple #[.int .i64 v, .iface t (.pointer (some N))]))) ∧ Below w.heap.size w w'
theorem parseInt_any (l : List UInt8) (hl : l.length ≤ 1000000) (w : World) (he : Env w) : Calls Tryz.prog 24 #[.string (mk l), .int .i64 10, .int .i64 64] w (ParR l w) := by
  have hs := mk_size l
  have hd := mk_data l
  cases hx : Lib.parseIntB 64 l with
  | ok v =>
    refine (Any.strconv_ParseInt_10_at64_ok lays174 (mk l) (by omega) v (by rw [hd]; exact hx) w).mono ?_
    rintro e w' ⟨rfl, hW⟩
    refine ⟨.inl ⟨v, hx, rfl⟩, ?_⟩
    rcases hW with rfl | ⟨t, rfl⟩
    · exact Below.refl _ _
    · exact Lib.bytesWorld_below _ _ _
  | range =>
    obtain ⟨ev, h1, h2⟩ := he.rng
    refine (Any.strconv_ParseInt_10_at64_range lays174 (mk l) (by omega) (by rw [hd]; exact hx) ev w h1 h2).mono ?_
    rintro e w' ⟨N, rfl, _, _, hb⟩
    exact ⟨.inr ⟨(fun v h => by rw [hx] at h; cases h), _, _, _, rfl⟩, hb⟩
  | _ =>
    obtain ⟨ev, h1, h2⟩ := he.syn
    refine (Any.strconv_ParseInt_10_at64_syntax lays174 (mk l) (by omega) (by rw [hd]; exact hx) ev w h1 h2).mono ?_
    rintro e w' ⟨N, rfl, _, _, hb⟩
    exact ⟨.inr ⟨(fun v h => by rw [hx] at h; cases h), _, _, _, rfl⟩, hb⟩
/-- A number's value. -/
abbrev numV (l : List UInt8) : Value := .agg #[.int .i64 3, .bool false, .string (mk l), .slice none 0 0, .slice none 0 0]
set_option maxRecDepth 100000
set_option maxHeartbeats 1000000 in
theorem num_any (n : Int) (h0 : -9223372036854775808 ≤ n) (h1 : n ≤ 9223372036854775807) (w : World) (he : Env w) :
    Calls Tryz.prog 7 #[.int .i64 n] w fun e w' => e = .returned (numV (Lib.itoa n)) ∧ Below w.heap.size w w' := by
  have HE := Lib.hid he
  clear he
  go_enter Tryz.func7, Tryz.ntmps7
  go_wp2_with fail
  generalize hw : w.alloc _ = w1
  have hb1 : Below w.heap.size w w1 := by rw [← hw]; exact (Below.refl _ _).alloc (Nat.le_refl _) _
  have hk : Blk w1 w.heap.size 27 #[.int .i64 0, .bool false, .string ⟨#[]⟩, .slice none 0 0, .slice none 0 0] := by rw [← hw]; exact Blk.new w _ _
  clear hw
  refine (itoa_any n h0 h1 w1 (HE.out.below hb1 HE.out.size)).mono ?_
  rintro e w2 ⟨rfl, hb2⟩
  have hk2 := hk.below hb2 hk.lt
  have hz := hk.lt
  have HB := Lib.hid (hb1.trans (hb2.mono hb1.size))
  clear hb1 hb2 hk
  have c0 := hk2.cell 0
  have c1 := hk2.cell 1
  have c2 := hk2.cell 2
  have c3 := hk2.cell 3
  have c4 := hk2.cell 4
  have f0 := Lib.frozen_of_heap hk2 0
  have f1 := Lib.frozen_of_heap hk2 1
  have f2 := Lib.frozen_of_heap hk2 2
  have f3 := Lib.frozen_of_heap hk2 3
  have f4 := Lib.frozen_of_heap hk2 4
  clear hk2
  obtain ⟨q, hq⟩ : ∃ q, q = w.heap.size := ⟨_, rfl⟩
  have HQ := Lib.hid hq
  rw [← hq] at c0 c1 c2 c3 c4 f0 f1 f2 f3 f4 hz ⊢
  obtain ⟨L, hL⟩ : ∃ L, L = Lib.itoa n := ⟨_, rfl⟩
  have HL := Lib.hid hL
  rw [← hL]
  clear hq hL
  go_wp2
  refine bodyPost_ret (v := numV L) ?_ rfl ?_
  · rw [results_one rfl]
    go_simp
  · exact ⟨by rw [HL.out], ((((HB.out.setCell (Nat.le_of_eq HQ.out.symm) _).setCell (Nat.le_of_eq HQ.out.symm) _).setCell (Nat.le_of_eq HQ.out.symm) _).setCell (Nat.le_of_eq HQ.out.symm) _).setCell (Nat.le_of_eq HQ.out.symm) _⟩
/-- What Int hands back of a number's text. -/
def intR (l : List UInt8) : Value := .tuple #[.int .i64 ((jInt l).getD 0), .bool (jInt l).isSome]
set_option maxHeartbeats 2000000 in
theorem int_any (l : List UInt8) (hl : l.length ≤ 1000000) (w : World) (he : Env w) :
    Calls Tryz.prog 8 #[numV l] w fun e w' => e = .returned (intR l) ∧ Below w.heap.size w w' := by
  have HE := Lib.hid he
  clear he
  have hms := mk_size
  have hmt := mk_toList
  cases hn : isNum l with
  | false =>
    have HR : Hid (intR l = .tuple #[.int .i64 0, .bool false]) := Lib.hid (by unfold intR jInt; rw [hn]; rfl)
    have HC := Lib.hid (fun w => isNumber_any l w (by omega))
    rw [hn] at HC
    clear hn
    go_enter Tryz.func8, Tryz.ntmps8
    go_wp2_with fail
    refine (HC.out _).mono ?_
    rintro e w1 ⟨rfl, hb1⟩
    have HB := Lib.hid (((Below.refl w.heap.size w).alloc (Nat.le_refl _) _).trans (hb1.mono (by simp)))
    clear hb1
    go_wp2
    go_ret2
    exact ⟨by rw [HR.out]; rfl, HB.out⟩
  | true =>
    have HC := Lib.hid (fun w => isNumber_any l w (by omega))
    rw [hn] at HC
    have HN := Lib.hid hn
    clear hn
    go_enter Tryz.func8, Tryz.ntmps8
    go_wp2_with fail
    generalize hw : w.alloc _ = w0
    have hb0 : Below w.heap.size w w0 := by rw [← hw]; exact (Below.refl _ _).alloc (Nat.le_refl _) _
    have hk : Blk w0 w.heap.size 27 #[.int .i64 3, .bool false, .string (mk l), .slice none 0 0, .slice none 0 0] := by rw [← hw]; exact Blk.new w _ _
    clear hw
    refine (HC.out _).mono ?_
    rintro e w1 ⟨rfl, hb1⟩
    have hk1 := hk.below hb1 hk.lt
    have c2 : w1.cell? ⟨w.heap.size, 2, none⟩ = some (.string (mk l)) := hk1.cell 2
    have HB := Lib.hid (hb0.trans (hb1.mono hb0.size))
    clear hb0 hb1 hk hk1
    go_wp2_with fail
    refine (parseInt_any l hl w1 (HE.out.below HB.out HE.out.size)).mono ?_
    rintro e w2 ⟨hcase, hb2⟩
    have HB2 := Lib.hid (HB.out.trans (hb2.mono HB.out.size))
    clear hb2 c2 HB
    rcases hcase with ⟨v, hp, rfl⟩ | ⟨hp, v, t, N, rfl⟩
    · by_cases hv : -9007199254740992 ≤ v ∧ v ≤ 9007199254740992
      · have HR : Hid (intR l = .tuple #[.int .i64 v, .bool true]) := Lib.hid (by unfold intR jInt; rw [HN.out, hp]; simp [hv])
        obtain ⟨h3, h4⟩ := hv
        have h3' : ¬ v < -9007199254740992 := by omega
        have h4' : ¬ (9007199254740992 : Int) < v := by omega
        clear hp
        go_wp2
        go_ret2
        exact ⟨by rw [HR.out]; rfl, HB2.out⟩
      · have HR : Hid (intR l = .tuple #[.int .i64 0, .bool false]) := Lib.hid (by unfold intR jInt; rw [HN.out, hp]; simp [hv])
        have hx : v < -9007199254740992 ∨ (¬ v < -9007199254740992 ∧ (9007199254740992 : Int) < v) := by omega
        clear hp hv
        rcases hx with h3 | ⟨h3, h4⟩
        all_goals
          go_wp2
          go_ret2
          exact ⟨by rw [HR.out]; rfl, HB2.out⟩
    · have HR : Hid (intR l = .tuple #[.int .i64 0, .bool false]) := Lib.hid (by
        unfold intR jInt
        rw [HN.out]
        cases hx : Lib.parseIntB 64 l with
        | ok n => exact absurd hx (hp n)
        | _ => rfl)
      clear hp
      go_wp2
      go_ret2
      exact ⟨by rw [HR.out]; rfl, HB2.out⟩
end Go.Proofs.YtkenananejgcpaaGreatDoor.Jsn
