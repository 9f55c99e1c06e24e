/-
  The contract of Records of package wal.
-/
import Derived.Test.YtaoaegkfejlgkaaW12
namespace Go.Proofs.Ytaoaegkfejlgkaa.Dsk
open Go.RowKit
/-- Bytes that were made, and that may be written. -/
def FreshU (w : World) (l : List UInt8) (e : Ending) (w' : World) : Prop := ∃ p c, e = .returned (.slice (some ⟨p, 0, none⟩) l.length c) ∧ l.length ≤ c ∧ w.heap.size ≤ p ∧ Rd w' (· = p) (some ⟨p, 0, none⟩) l ∧ (∀ j, w'.frozen? ⟨p, j, none⟩ = false) ∧ Below w.heap.size w w'
set_option maxRecDepth 100000 in
theorem clone_own (w : World) (S : Nat → Prop) (ad : Addr) (c : Nat) (l : List UInt8) (hR : Rd w S (some ad) l) (h1 : 1 ≤ l.length) (hl : l.length ≤ 900000) :
    Calls Try.prog 29 #[.slice (some ad) l.length c] w (FreshU w l) := by
  have HR := Lib.hid hR
  have HL := Lib.hid hl
  have H1 := Lib.hid h1
  have HO : Hid ((w.alloc (.cells #[] 5)).ownsRow w.heap.size 5 1 (.slice (some ⟨w.heap.size, 0, none⟩) 0 0) ([] : List Nat).length (vals .u8 [])) := Lib.hid (empty_own w)
  clear hR hl h1
  have HR2 : Hid (RdB (w.alloc (.cells #[] 5)) (w.alloc (.cells #[] 5)).heap.size (some ad) (ns l)) := Lib.hid ((HR.out.rdb.below ((Below.refl _ _).alloc (Nat.le_refl _) _)).more (by simp))
  have hnil := fun w => nil_no w ad l.length c
  go_enter Try.func29, Try.ntmps29
  go_wp2_with (at_builtin; go_must (refine wpList_append_bytes rfl _ _ rfl w.heap.size _ [] rfl HO.out (some ad) c (ns l) (show Value.slice (some ad) l.length c = .slice (some ad) (ns l).length c by rw [ns_length]) (fun h => by cases h) HR2.out (by rw [ns_length, List.length_nil, Nat.zero_add]; exact Nat.le_trans HL.out (by decide)) (by simp) ?_); intro v4 w4 hown4 hgrow4 _)
  rw [List.nil_append] at hown4
  obtain ⟨A, c', rfl, h5, h6, h7, h8, h9⟩ := own_form hown4
  have HB4 : Hid (Below w.heap.size w w4) := Lib.hid (((Below.refl w.heap.size w).alloc (Nat.le_refl _) (.cells #[] 5)).grown hgrow4 (by simp) (fun j hj => by have hj2 : some w.heap.size = some j := hj; injection hj2 with hj2; omega))
  rw [ns_length] at h5 ⊢
  have HA := Lib.hid h9
  have HD := Lib.hid h8
  have HFz : Hid (∀ p, A = some ⟨p, 0, none⟩ → ∀ j, w4.frozen? ⟨p, j, none⟩ = false) := Lib.hid (fun p ep j => by
    rcases hown4.2 with ⟨e, _⟩ | ⟨q, cap, cur, e, _, hg, _⟩
    · injection e with e _ _; rw [ep] at e; cases e
    · injection e with e _ _
      rw [ep] at e
      injection e with e
      injection e with e
      subst e
      exact Go.Proofs.Ytaoaegkfejlgkaa.Blk.frozen (show Go.Proofs.Ytaoaegkfejlgkaa.Blk w4 p 5 cur from hg) j)
  clear h7 h8 h9 hgrow4 hown4
  have hA : ∃ p, A = some ⟨p, 0, none⟩ ∧ w.heap.size ≤ p ∧ p < w4.heap.size := by
    obtain ⟨ad, e, _⟩ := HD.out (by rw [ns_length]; exact H1.out)
    obtain ⟨p, e2, h2⟩ := HA.out ad e
    exact ⟨p, by rw [e, e2], h2⟩
  obtain ⟨p, rfl, hp, hp2⟩ := hA
  go_ret
  exact ⟨p, c', rfl, h5, hp, rd_of_rdb HD.out (fun ad e => by injection e with e; subst e; exact ⟨rfl, hp2⟩), HFz.out p rfl, HB4.out⟩
/-- A list of payloads that was told. -/
def RL (w : World) (S : Nat → Prop) (r : Nat) (rs : List (List UInt8)) : Prop :=
  S r ∧ r < w.heap.size ∧ ∀ (i : Nat) x, rs[i]? = some x → ∃ p c, w.cell? ⟨r, i, none⟩ = some (.slice (some ⟨p, 0, none⟩) x.length c) ∧ x.length ≤ c ∧ S p ∧ p ≠ r ∧ Rd w (· = p) (some ⟨p, 0, none⟩) x ∧ (∀ j, w.frozen? ⟨p, j, none⟩ = false) ∧ 1 ≤ x.length
theorem Recs.at' {w : World} {S : Nat → Prop} {A : Option Addr} {n k : Nat} {rs : List (List UInt8)} (h : Recs w S (.slice A n k) rs) {i : Nat} {x : List UInt8} (hi : rs[i]? = some x) :
    ∃ r q c, A = some ⟨r, 0, none⟩ ∧ S r ∧ r < w.heap.size ∧ w.cell? ((⟨r, 0, none⟩ : Addr).add i) = some (.slice (some ⟨q, 0, none⟩) x.length c) ∧ 1 ≤ x.length ∧ x.length ≤ 65536 ∧ x.length ≤ c ∧ S q ∧ Rd w (· = q) (some ⟨q, 0, none⟩) x := by
  obtain ⟨xs, h1, h2⟩ := h.ex
  obtain ⟨u, hu, q, c, rfl, a1, a2, a3, a4, a5, a6⟩ := h2 i x hi
  have hcells := fun p => World.ownsRow.cells (g := p) h1
  have hown := h.own
  have hlt := h1.lt
  rcases h1.2 with ⟨e, h3⟩ | ⟨g, cap, cur, e, _⟩
  · have := (List.getElem?_eq_some_iff.1 hi).1; omega
  · injection e with e _ _
    subst e
    exact ⟨g, q, c, rfl, hown g rfl, (hlt g rfl).2, hcells g rfl _ _ hu, a1, a2, a3, a4, a6⟩
theorem made_nils (n : Nat) : madeCells (Value.slice none 0 0).cells n = (List.replicate n (Value.slice none 0 0)).toArray := by
  apply Array.ext
  · simp [size_madeCells, Value.cells]
  · intro i h1 h2
    simp [madeCells, Value.cells, Nat.mod_one]
theorem run_nils (n : Nat) (hn : n ≤ 2000000) (w : World) :
    (Instr.makeSlice 32 (.int .i64 (n : Int)) (.int .i64 (n : Int))).run Try.prog w = .ok (.slice (some ⟨w.heap.size, 0, none⟩) n n) (w.alloc (.cells (List.replicate n (Value.slice none 0 0)).toArray 33)) := by
  obtain ⟨i0, hi0, hz0, hz1, hz2⟩ := info_parts infoRow
  rw [run_make (P := Try.prog) w 32 33 i0 _ Try.underlying32 hi0 hz0 .i64 .i64 _ _ (by omega) (by omega) (by rw [hz2]; omega) (by omega)]
  rw [hz1, Int.toNat_natCast, Nat.mul_one, made_nils]
theorem Sys.tight {w : World} {d g0 lb : Nat} {S : Nat → Prop} {s : Dk} {c : Lc} (h : Sys w d g0 lb S s c) : Sys w d g0 lb (fun k => S k ∧ k < w.heap.size) s c := by
  obtain ⟨A, k, h1, h2⟩ := h.log.ex
  exact ⟨h.dsk, ⟨⟨A, k, h1, h2.tight⟩, fun e => h.log.nlb e.1⟩, fun e => h.sd e.1, fun e => h.sg e.1, h.ld, h.lg⟩
theorem Sys.more {w : World} {d g0 lb : Nat} {S S' : Nat → Prop} {s : Dk} {c : Lc} (h : Sys w d g0 lb S s c) (hS : ∀ k, S k → S' k) (h1 : ¬ S' d) (h2 : ¬ S' g0) (h3 : ¬ S' lb) : Sys w d g0 lb S' s c := by
  obtain ⟨A, k, h4, h5⟩ := h.log.ex
  exact ⟨h.dsk, ⟨⟨A, k, h4, h5.more hS⟩, h3⟩, h1, h2, h.ld, h.lg⟩
theorem rd_put {w : World} {p q i : Nat} {u : Value} {A : Option Addr} {x : List UInt8} (h : Rd w (· = p) A x) (hne : p ≠ q) : Rd (w.setCell ⟨q, i, none⟩ u) (· = p) A x := fun hl => by
  obtain ⟨ad, e, a1, a2, a3⟩ := h hl
  have a1' : ad.block = p := a1
  refine ⟨ad, e, a1, by simpa [World.setCell] using a2, fun j v hv => ?_⟩
  rw [← a3 j v hv]
  exact World.cell?_of_block (by rw [block_add]; exact Below.heap_setCell _ _ _ _ (by show ad.block ≠ q; rw [a1']; exact hne))
theorem fz_put {w : World} {p q i j : Nat} {u : Value} (h : w.frozen? ⟨p, j, none⟩ = false) (hne : p ≠ q) : (w.setCell ⟨q, i, none⟩ u).frozen? ⟨p, j, none⟩ = false := by
  rw [← h]
  exact World.frozen?_of_block (Below.heap_setCell _ _ _ _ hne)
theorem rd_lt {w : World} {p : Nat} {A : Option Addr} {x : List UInt8} (h : Rd w (· = p) A x) (h1 : 1 ≤ x.length) : p < w.heap.size := by
  obtain ⟨ad, e, a1, a2, a3⟩ := h (by omega)
  have a1' : ad.block = p := a1
  omega
theorem fz_old {w w' : World} {p j : Nat} (h : w.frozen? ⟨p, j, none⟩ = false) (hb : Below w.heap.size w w') (hp : p < w.heap.size) : w'.frozen? ⟨p, j, none⟩ = false := by
  rw [← h]
  exact World.frozen?_of_block (hb.block p hp)
/-- While the records are copied. -/
structure CInv (w1 : World) (d g0 lb : Nat) (S : Nat → Prop) (s : Dk) (c : Lc) (k : Nat) (wr : World) : Prop where
  sys : Sys wr d g0 lb S s c
  row : ∃ cs, cs.length = c.rs.length ∧ Blk wr w1.heap.size 33 cs ∧ ∀ (i : Nat) x, i < k → c.rs[i]? = some x → ∃ p k', cs[i]? = some (.slice (some ⟨p, 0, none⟩) x.length k') ∧ x.length ≤ k' ∧ w1.heap.size < p ∧ Rd wr (· = p) (some ⟨p, 0, none⟩) x ∧ (∀ j, wr.frozen? ⟨p, j, none⟩ = false)
  bel : Below w1.heap.size w1 wr
/-- What Records hands back. -/
def RecordsR (w : World) (d g0 lb : Nat) (S : Nat → Prop) (s : Dk) (c : Lc) (e : Ending) (w' : World) : Prop :=
  ∃ r, e = .returned (.slice (some ⟨r, 0, none⟩) c.rs.length c.rs.length) ∧ RL w' (fun k => w.heap.size ≤ k) r c.rs ∧ Sys w' d g0 lb S s (c.seen s) ∧ Kp (fun k => k = lb) w w'
set_option maxRecDepth 100000
set_option maxHeartbeats 4000000 in
theorem records_any (w : World) (d g0 lb : Nat) (S : Nat → Prop) (s : Dk) (c : Lc) (h : Sys w d g0 lb S s c) (hn : c.rs.length ≤ 1000000) :
    Calls Try.prog 14 #[.pointer (some ⟨lb, 0, none⟩)] w (RecordsR w d g0 lb S s c) := by
  have HW := Lib.hid (watch_any w d g0 lb S s c h)
  have HN := Lib.hid hn
  obtain ⟨n, hnn⟩ : ∃ n, n = c.rs.length := ⟨_, rfl⟩
  have HNN := Lib.hid hnn
  have hmk := run_nils n (by omega)
  have HZl : Hid ((List.replicate n (Value.slice none 0 0)).length = n) := Lib.hid (by simp)
  generalize List.replicate n (Value.slice none 0 0) = Z at *
  clear h hn hnn
  go_enter Try.func14, Try.ntmps14
  go_wp2_with fail
  refine HW.out.mono ?_
  rintro e w1 ⟨rfl, h1, hk1, hz1⟩
  obtain ⟨A, k, hb, hr⟩ := h1.log.ex
  have c5 : w1.cell? ⟨lb, 5, none⟩ = some (.slice A n k) := by rw [hb.cell, HNN.out]; rfl
  have hlb : lb < w1.heap.size := hb.lt
  have hc5 : (w1.alloc (.cells Z.toArray 33)).cell? ⟨lb, 5, none⟩ = some (.slice A n k) := ((Below.refl w1.heap.size w1).alloc (Nat.le_refl _) _).cell hlb |>.trans c5
  have H1 := Lib.hid h1
  have HB := Lib.hid hb
  have HR := Lib.hid hr
  have HK1 := Lib.hid hk1
  have HZ1 := Lib.hid hz1
  clear h1 hb hr hk1 hz1
  go_wp2
  have HI : Hid (CInv w1 d g0 lb (fun k => S k ∧ k < w1.heap.size) s (c.seen s) 0 (w1.alloc (.cells Z.toArray 33))) := Lib.hid ⟨H1.out.tight.old ((Below.refl _ _).alloc (Nat.le_refl _) _), ⟨Z, HZl.out.trans HNN.out, Blk.new w1 _ _ _ rfl, fun i x hi => by omega⟩, (Below.refl _ _).alloc (Nat.le_refl _) _⟩
  clear hmk hc5
  have H1len : ∀ (y : List UInt8) (i : Nat), (c.seen s).rs[i]? = some y → 1 ≤ y.length := fun y i hy => by
    obtain ⟨_, _, _, _, _, _, _, h1, _⟩ := HR.out.at' hy
    exact h1
  have HL1 := Lib.hid H1len
  clear H1len
  go_loopw [21] (fun i wr => ∃ k : Nat, k ≤ n ∧ i = .int .i64 k ∧ CInv w1 d g0 lb (fun k => S k ∧ k < w1.heap.size) s (c.seen s) k wr) (fun i _ => n - (intOf i).toNat)
  case atStart => exact ⟨0, Nat.zero_le _, rfl, HI.out⟩
  case round =>
    obtain ⟨i, hi, rfl, hinv⟩ := hrel
    clear HI
    have HI := Lib.hid hinv
    clear hinv
    obtain ⟨cs, hcl, hcb, hcd⟩ := HI.out.row
    have HCB := Lib.hid hcb
    have HCD := Lib.hid hcd
    have HCL : Hid (cs.length = n) := Lib.hid (by rw [hcl, HNN.out]; rfl)
    clear hcb hcd hcl
    by_cases hlt : i < n
    · obtain ⟨x, hx⟩ : ∃ x, c.rs[i]? = some x := ⟨_, List.getElem?_eq_getElem (by have := HNN.out; omega)⟩
      obtain ⟨r, q, c', rfl, hSr, hrl, hcell, hx1, hx2, hxc, hSq, hrd⟩ := HR.out.at' hx
      have hcw : wr.cell? ((⟨r, 0, none⟩ : Addr).add i) = some (.slice (some ⟨q, 0, none⟩) x.length c') := (HI.out.bel.cell (by rw [block_add]; exact hrl)).trans hcell
      have HCl := Lib.hid (clone_own wr (· = q) ⟨q, 0, none⟩ c' x (hrd.old HI.out.bel) hx1 (by omega))
      have HX := Lib.hid hx
      have HX1 := Lib.hid hx1
      have hin := HN.out
      have hbw : Below w1.heap.size w1 wr := HI.out.bel
      have HW1 := Lib.hid (show w1.heap.size < wr.heap.size from HCB.out.lt)
      obtain ⟨m, hm⟩ : ∃ m, m = x.length := ⟨_, rfl⟩
      have HM := Lib.hid hm
      rw [← hm] at hcw HCl
      rw [Addr.add_mid, Nat.zero_add] at hcw
      clear hSr hrl hcell hx1 hx2 hxc hSq hrd hx hm hbw
      rw [← HNN.out] at hin
      go_wp2_with fail
      refine HCl.out.mono ?_
      rintro e w3 ⟨p, cp, rfl, h5, h6, h7, h8, h9⟩
      rw [← HM.out]
      have HCB3 := Lib.hid (HCB.out.below h9 HCB.out.lt)
      have hst : w3.cell? ⟨w1.heap.size, i, none⟩ = some (cs.getD i (.slice none 0 0)) := by
        rw [HCB3.out.cell, List.getD_eq_getElem?_getD, List.getElem?_eq_getElem (by have := HCL.out; omega)]
        rfl
      have hfr := HCB3.out.frozen i
      generalize cs.getD i (.slice none 0 0) = u0 at hst
      have HP := Lib.hid (show FreshU wr x (.returned (.slice (some ⟨p, 0, none⟩) x.length cp)) w3 from ⟨p, cp, rfl, h5, h6, h7, h8, h9⟩)
      clear h5 h6 h7 h8 h9
      go_wp2
      go_roundw
      case rel =>
        obtain ⟨p', cp', e, h5, h6, h7, h8, h9⟩ := HP.out
        injection e with e
        injection e with e e2 e3
        injection e with e
        injection e with e
        subst e
        subst e3
        have hw1p : w1.heap.size < p := Nat.lt_of_lt_of_le HW1.out h6
        have hkp : Kp (fun k => k = w1.heap.size) w3 (w3.setCell ⟨w1.heap.size, i, none⟩ (.slice (some ⟨p, 0, none⟩) m cp)) := (Kp.refl (fun k => k = w1.heap.size) w3).put w1.heap.size i _ rfl
        refine ⟨i + 1, by omega, by go_num, ⟨(HI.out.sys.old h9).keep (fun k hk hl => hkp.block k hl ?_) hkp.size, ⟨cs.set i (.slice (some ⟨p, 0, none⟩) m cp), by rw [List.length_set, HCL.out, HNN.out]; rfl, HCB3.out.put i _, fun j y hj hy => ?_⟩, (HI.out.bel.trans (h9.mono (Nat.le_of_lt HW1.out))).trans (hkp.below (Nat.le_of_lt (Nat.lt_of_lt_of_le HW1.out h9.size)) (fun k e => by omega))⟩⟩
        · rintro rfl
          rcases hk with hk | hk | hk | hk
          · have := H1.out.dsk.blk.lt; omega
          · have := H1.out.dsk.row.lt; omega
          · omega
          · exact Nat.lt_irrefl _ hk.2
        · by_cases hji : j = i
          · subst hji
            have hxy := HX.out
            rw [show c.rs[j]? = some y from hy] at hxy
            injection hxy with hxy
            subst hxy
            rw [HM.out]
            refine ⟨p, cp, by rw [List.getElem?_set_self (by rw [HCL.out]; exact hlt)], h5, hw1p, ?_, ?_⟩
            · exact rd_put h7 (by omega)
            · exact fun j => fz_put (h8 j) (by omega)
          · obtain ⟨p2, k2, g1, g2, g3, g4, g5⟩ := HCD.out j y (by omega) hy
            refine ⟨p2, k2, by rw [List.getElem?_set_ne (by omega)]; exact g1, g2, g3, ?_, ?_⟩
            · exact rd_put (g4.old h9) (by omega)
            · exact fun j' => fz_put (fz_old (g5 j') h9 (rd_lt g4 (HL1.out y _ hy))) (by omega)
      case measure => simp [intOf]; omega
    · obtain rfl : i = n := by omega
      go_wp2
      go_ret
      have hsz : w.heap.size ≤ w1.heap.size := by rw [HZ1.out]; exact Nat.le_refl _
      refine ⟨w1.heap.size, by rw [HNN.out]; rfl, ⟨hsz, HCB.out.lt, fun j y hy => ?_⟩, HI.out.sys.more (fun k hk => hk.1) H1.out.sd H1.out.sg H1.out.log.nlb, ?_⟩
      · obtain ⟨p2, k2, g1, g2, g3, g4, g5⟩ := HCD.out j y (by have := (List.getElem?_eq_some_iff.1 hy).1; have := HNN.out; omega) hy
        exact ⟨p2, k2, by rw [HCB.out.cell]; exact g1, g2, by omega, by omega, g4, g5, HL1.out y _ hy⟩
      · exact HK1.out.trans (Kp.old (S := fun k => k = lb) HI.out.bel) (fun _ _ h => h)
end Go.Proofs.Ytaoaegkfejlgkaa.Dsk
