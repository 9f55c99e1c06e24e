/-
  The contract of remains of package wal: what a half has, and the write that removes what follows.
-/
import Derived.Test.YtaoaegkfejlgkaaW8
import Derived.BigRegion
namespace Go.Proofs.Ytaoaegkfejlgkaa.Dsk
open Go.RowKit
/-- What payloadAt has handed to the loop. -/
def NextV (w : World) (S : Nat → Prop) (rb : Option Nat) (o : Option (List UInt8)) (v : Value) : Prop :=
  match o with
  | none => v = .slice none 0 0
  | some x => ∃ q c, v = .slice (some ⟨q, 0, none⟩) x.length c ∧ PayAt w S rb v x
theorem payAt_len {h : List UInt8} {g p : Nat} {x : List UInt8} (e : payAt h g p = some x) : 1 ≤ x.length ∧ x.length ≤ 65536 := ⟨(payAt_some e).1, (payAt_some e).2.1⟩
theorem payR_next {w w' : World} {h : List UInt8} {g p : Nat} {e : Ending} {S : Nat → Prop} {rb : Option Nat} (hp : PayR w (payAt h g p) e w') (hS : ∀ k, w.heap.size ≤ k → S k) (hrb : ∀ k, rb = some k → k < w.heap.size) : ∃ v, e = .returned v ∧ NextV w' S rb (payAt h g p) v ∧ Below w.heap.size w w' := by
  cases ho : payAt h g p with
  | none => rw [ho] at hp; exact ⟨_, hp.1, rfl, hp.2⟩
  | some x =>
    rw [ho] at hp
    obtain ⟨q, c, e, h1, h2, h3, h4, h5⟩ := hp
    have hl := payAt_len ho
    exact ⟨_, e, ⟨q, c, rfl, q, c, rfl, hl.1, hl.2, h1, hS q h3, fun e => by have := hrb q e; omega, h4⟩, h5⟩
/-- What stands in a cell, as a number. -/
def numAt (w : World) (a : Addr) : Nat := match w.cell? a with | some (.int _ z) => z.toNat | _ => 0
theorem numAt_of {w : World} {a : Addr} {z : Nat} (h : w.cell? a = some (.int .i64 (z : Int))) : numAt w a = z := by unfold numAt; rw [h]; simp
theorem Ch.count {h : List UInt8} {g : Nat} : ∀ {rs : List (List UInt8)} {p q : Nat}, Ch h g p rs q → p + rs.length ≤ q
  | [], p, q, h1 => by simp only [Ch] at h1; simp; omega
  | y :: r, p, q, h1 => by have := Ch.count h1.2; simp only [List.length_cons]; omega
/-- What remains hands back. -/
def Rem (w : World) (h : List UInt8) (st g : Nat) (e : Ending) (w' : World) : Prop :=
  ∃ rs p rv v, Ch h g 16 rs p ∧ payAt h g p = none ∧ e = .returned (.tuple #[.agg #[.int .i64 (st : Int), .int .i64 (g : Int), rv, .int .i64 (p : Int)], v]) ∧ Recs w' (fun k => w.heap.size ≤ k) rv rs ∧ WRow w' (fun k => w.heap.size ≤ k) v (if blankB (h.drop p) then [] else [(st + p, List.replicate (h.length - p) 0)]) ∧ Below w.heap.size w w'
/-- While the records are read. -/
structure RInv (w : World) (h : List UInt8) (st g ra cb : Nat) (v : Value) (wr : World) (rs : List (List UInt8)) (p : Nat) (rv : Value) : Prop where
  ch : Ch h g 16 rs p
  res : Blk wr ra 59 [.int .i64 0, .int .i64 0, .slice none 0 0, .int .i64 0]
  con : Blk wr cb 59 [.int .i64 (st : Int), .int .i64 (g : Int), rv, .int .i64 (p : Int)]
  recs : Recs wr (fun k => w.heap.size + 2 ≤ k) rv rs
  next : NextV wr (fun k => w.heap.size + 2 ≤ k) rv.ownBlock (payAt h g p) v
  bel : Below w.heap.size w wr
set_option maxRecDepth 100000
set_option maxHeartbeats 4000000 in
theorem remains_any (w : World) (q : Nat) (h : List UInt8) (hk : Blk w q 5 (bc h)) (st g : Nat) (hg : g < 4294967296) (h1 : 500 ≤ h.length) (h2 : h.length ≤ 1000000) (hst : st ≤ 1000000) :
    Calls Try.prog 40 #[.slice (some ⟨q, 0, none⟩) h.length h.length, .int .i64 (st : Int), .int .i64 (g : Int)] w (Rem w h st g) := by
  have HK := Lib.hid (fun W (hb : Below w.heap.size w W) => hk.below hb hk.lt)
  have HG := Lib.hid hg
  have H1 := Lib.hid h1
  have H2 := Lib.hid h2
  have HST := Lib.hid hst
  have HPay := Lib.hid (fun W p (hb : Below w.heap.size w W) (hp : p ≤ h.length) => pay_any W q h (HK.out W hb) g p hg hp (by omega))
  obtain ⟨L, hL⟩ : ∃ L, L = h.length := ⟨_, rfl⟩
  have HL := Lib.hid hL
  rw [← hL] at HPay ⊢
  clear hk hg h1 h2 hst hL
  go_enter Try.func40, Try.ntmps40
  go_wp2_with fail
  have hA1 := Blk.new w 59 #[.int .i64 0, .int .i64 0, .slice none 0 0, .int .i64 0] _ rfl
  have hA2 := hA1.alloc (.cells #[.int .i64 (st : Int), .int .i64 (g : Int), .slice none 0 0, .int .i64 16] 59)
  have hA3 := Blk.new (w.alloc (.cells #[.int .i64 0, .int .i64 0, .slice none 0 0, .int .i64 0] 59)) 59 #[.int .i64 (st : Int), .int .i64 (g : Int), .slice none 0 0, .int .i64 16] _ rfl
  have hB0 := ((Below.refl w.heap.size w).alloc (Nat.le_refl _) (.cells #[.int .i64 0, .int .i64 0, .slice none 0 0, .int .i64 0] 59)).alloc (by simp) (.cells #[.int .i64 (st : Int), .int .i64 (g : Int), .slice none 0 0, .int .i64 16] 59)
  have hS0 : ((w.alloc (.cells #[.int .i64 0, .int .i64 0, .slice none 0 0, .int .i64 0] 59)).alloc (.cells #[.int .i64 (st : Int), .int .i64 (g : Int), .slice none 0 0, .int .i64 16] 59)).heap.size = w.heap.size + 2 := by simp
  simp only [World.size_alloc] at hA3
  generalize (w.alloc (.cells #[.int .i64 0, .int .i64 0, .slice none 0 0, .int .i64 0] 59)).alloc (.cells #[.int .i64 (st : Int), .int .i64 (g : Int), .slice none 0 0, .int .i64 16] 59) = w0 at *
  have HA2 := Lib.hid hA2
  have HA3 := Lib.hid hA3
  have HB0 := Lib.hid hB0
  have HS0 := Lib.hid hS0
  clear hA1 hA2 hA3 hB0 hS0
  refine (HPay.out w0 16 HB0.out (by have := HL.out; have := H1.out; omega)).mono ?_
  rintro e w1 hp1
  obtain ⟨v, rfl, hn1, hb1⟩ := payR_next (S := fun k => w.heap.size + 2 ≤ k) (rb := none) hp1 (fun k hk => by have := HS0.out; omega) (fun k e => by cases e)
  have HI : Hid (RInv w h st g w.heap.size (w.heap.size + 1) v w1 [] 16 (.slice none 0 0)) := Lib.hid ⟨rfl, HA2.out.below hb1 (by have := HS0.out; omega), HA3.out.below hb1 (by have := HS0.out; omega), Recs.nil _ _, hn1, HB0.out.trans (hb1.mono (by have := HS0.out; omega))⟩
  clear hp1 hn1 hb1 HA2 HA3 HB0 HS0
  go_wp2_with fail
  go_loopw [9] (fun v wr => ∃ rs p rv, RInv w h st g w.heap.size (w.heap.size + 1) v wr rs p rv) (fun _ wr => L - numAt wr ⟨w.heap.size + 1, 3, none⟩)
  case atStart => exact ⟨[], 16, _, HI.out⟩
  case round =>
    obtain ⟨rs, p, rv, hinv⟩ := hrel
    clear HI
    have HI := Lib.hid hinv
    clear hinv
    have hpL := HI.out.ch.end_le (by have := H1.out; omega)
    have hcell3 : wr.cell? ⟨w.heap.size + 1, 3, none⟩ = some (.int .i64 (p : Int)) := HI.out.con.cell 3
    have hnx := HI.out.next
    cases ho : payAt h g p with
    | some x =>
      rw [ho] at hnx
      obtain ⟨q1, c1, rfl, hpa⟩ := hnx
      have hpx := (payAt_some ho).2.2.1
      have hch := HI.out.ch.snoc ho
      have hcnt := HI.out.ch.count
      have HAdd := Lib.hid (add_any wr (fun k => w.heap.size + 2 ≤ k) (w.heap.size + 1) 0 59 _ rv rs p q1 c1 x HI.out.con rfl rfl HI.out.recs (by omega) hpa (by have := H2.out; omega) (by have := H2.out; omega))
      have HCH := Lib.hid hch
      have HPX := Lib.hid hpx
      have HM : Hid (numAt wr ⟨w.heap.size + 1, 3, none⟩ = p) := Lib.hid (numAt_of hcell3)
      have hnil := fun W => nil_no' W ⟨q1, 0, none⟩ x.length c1
      obtain ⟨p', hp'⟩ : ∃ p', p' = p + (9 + x.length) := ⟨_, rfl⟩
      have HP' := Lib.hid hp'
      rw [← hp'] at HAdd HCH HPX
      clear hpx hch hcnt hpa hcell3 hp' ho hpL
      go_wp2_with fail
      refine HAdd.out.mono ?_
      rintro e w2 ⟨rfl, rv', hr2, hk2, hkp2⟩
      have HR2 := Lib.hid (hr2.more (S' := fun k => w.heap.size + 2 ≤ k) (fun k hk => by rcases hk with hk | hk; exact hk; have := HI.out.con.lt; omega))
      have HK2 : Hid (Blk w2 (w.heap.size + 1) 59 [.int .i64 (st : Int), .int .i64 (g : Int), rv', .int .i64 (p' : Int)]) := Lib.hid hk2
      have hown : ∀ k, rv.ownBlock = some k → w.heap.size + 2 ≤ k := HI.out.recs.own
      have HX2 : Hid (Blk w2 w.heap.size 59 [.int .i64 0, .int .i64 0, .slice none 0 0, .int .i64 0]) := Lib.hid ((hkp2.block _ HI.out.res.lt (by rintro (h | h); omega; have := hown _ h; omega)).trans HI.out.res)
      have HB2 : Hid (Below w.heap.size w w2) := Lib.hid (HI.out.bel.trans (hkp2.below HI.out.bel.size (by rintro k (h | h); omega; have := hown _ h; omega)))
      have HRB : Hid (∀ k, rv'.ownBlock = some k → k < w2.heap.size) := Lib.hid (by
        obtain ⟨xs, h5, _⟩ := hr2.ex
        exact fun k e => (h5.lt k e).2)
      have hc3 : w2.cell? ⟨w.heap.size + 1, 3, none⟩ = some (.int .i64 (p' : Int)) := HK2.out.cell 3
      clear hr2 hk2 hkp2 hown HAdd hnil
      go_wp2_with fail
      refine (HPay.out w2 p' HB2.out (by have := HPX.out; have := HL.out; omega)).mono ?_
      rintro e w4 hp4
      obtain ⟨v4, rfl, hn4, hb4⟩ := payR_next (S := fun k => w.heap.size + 2 ≤ k) (rb := rv'.ownBlock) hp4 (fun k hk => by have := HK2.out.lt; omega) HRB.out
      have HI4 : Hid (RInv w h st g w.heap.size (w.heap.size + 1) v4 w4 (rs ++ [x]) p' rv') := Lib.hid ⟨HCH.out, HX2.out.below hb4 HX2.out.lt, HK2.out.below hb4 HK2.out.lt, HR2.out.old hb4, hn4, HB2.out.trans (hb4.mono HB2.out.size)⟩
      clear hp4 hn4 hb4 hc3
      go_wp2
      go_roundw
      case rel => exact ⟨_, _, _, HI4.out⟩
      case measure =>
        rw [HM.out, numAt_of (HI4.out.con.cell 3)]
        have := HP'.out
        have := HPX.out
        have := HL.out
        omega
    | none =>
      rw [ho] at hnx
      have hnx' : _ = Value.slice none 0 0 := hnx
      subst hnx'
      have HO := Lib.hid ho
      have hnil := fun W => nil_yes' W 0 0
      obtain ⟨P, hP, hP'⟩ := run_from q L p (by have := HL.out; omega)
      have HPL : Hid (p ≤ L) := Lib.hid (by have := HL.out; omega)
      have hRd : Rd wr (· = q) P (h.drop p) := fun hl => by
        rw [List.length_drop] at hl
        rw [hP' (by have := HL.out; omega)]
        have := Rd.of_part (a := p) (n := h.length - p) (HK.out wr HI.out.bel)
        rw [show h.length - p = (h.drop p).length from by rw [List.length_drop], List.take_length] at this
        exact this (by rw [List.length_drop]; exact hl)
      have hIB := isBlank_any wr (· = q) P (L - p) (h.drop p) hRd (by rw [List.length_drop]; have := H2.out; omega)
      rw [List.length_drop, ← HL.out] at hIB
      have HIB := Lib.hid hIB
      obtain ⟨m, hm⟩ : ∃ m, m = L - p := ⟨_, rfl⟩
      have HMm := Lib.hid hm
      rw [← hm] at hP HIB
      clear hRd hIB hP' ho hpL hm
      have hc0 : wr.cell? ⟨w.heap.size + 1, 0, none⟩ = some (.int .i64 (st : Int)) := HI.out.con.cell 0
      have hc1 : wr.cell? ⟨w.heap.size + 1, 1, none⟩ = some (.int .i64 (g : Int)) := HI.out.con.cell 1
      obtain ⟨A, c, rfl⟩ := HI.out.recs.form
      have hc2 : wr.cell? ⟨w.heap.size + 1, 2, none⟩ = some (.slice A rs.length c) := HI.out.con.cell 2
      have r0 := HI.out.res.cell 0
      have r1 := HI.out.res.cell 1
      have r2 := HI.out.res.cell 2
      have r3 := HI.out.res.cell 3
      have f0 := HI.out.res.frozen 0
      have f1 := HI.out.res.frozen 1
      have f2 := HI.out.res.frozen 2
      have f3 := HI.out.res.frozen 3
      simp only [List.getElem?_cons_zero, List.getElem?_cons_succ] at r0 r1 r2 r3
      by_cases hbl : blankB (h.drop p) = true
      · rw [hbl] at HIB
        go_wp2_with fail
        refine HIB.out.mono ?_
        rintro e w1 ⟨rfl, rfl⟩
        go_wp2
        have hKf := (((HI.out.res.put 0 (.int .i64 (st : Int))).put 1 (.int .i64 (g : Int))).put 2 (.slice A rs.length c)).put 3 (.int .i64 (p : Int))
        have hkp := ((((Kp.refl (fun k => k = w.heap.size) wr).put w.heap.size 0 (.int .i64 (st : Int)) rfl).put w.heap.size 1 (.int .i64 (g : Int)) rfl).put w.heap.size 2 (.slice A rs.length c) rfl).put w.heap.size 3 (.int .i64 (p : Int)) rfl
        generalize (((wr.setCell { block := w.heap.size, off := 0 } (Value.int IntKind.i64 ↑st)).setCell { block := w.heap.size, off := 1 } (Value.int IntKind.i64 ↑g)).setCell { block := w.heap.size, off := 2 } (Value.slice A rs.length c)).setCell { block := w.heap.size, off := 3 } (Value.int IntKind.i64 ↑p) = wf at *
        have q0 : wf.cell? ⟨w.heap.size, 0, none⟩ = some (.int .i64 (st : Int)) := hKf.cell 0
        have q1 : wf.cell? ⟨w.heap.size, 1, none⟩ = some (.int .i64 (g : Int)) := hKf.cell 1
        have q2 : wf.cell? ⟨w.heap.size, 2, none⟩ = some (.slice A rs.length c) := hKf.cell 2
        have q3 : wf.cell? ⟨w.heap.size, 3, none⟩ = some (.int .i64 (p : Int)) := hKf.cell 3
        refine bodyPost_ret (v := .tuple #[.agg #[.int .i64 (st : Int), .int .i64 (g : Int), .slice A rs.length c, .int .i64 (p : Int)], .slice none 0 0]) (by simp [results, Try.results40, go_sem, q0, q1, q2, q3]) rfl ?_
        refine ⟨rs, p, _, _, HI.out.ch, HO.out, rfl, ?_, by rw [if_pos hbl]; exact WRow.nil _ _, HI.out.bel.trans (hkp.below HI.out.bel.size (fun k e => by omega))⟩
        exact (HI.out.recs.keep (fun k hk _ => hkp.block k (by omega) (by omega)) hkp.size).more (fun k hk => by omega)
      · have hbl' : blankB (h.drop p) = false := by simpa using hbl
        rw [hbl'] at HIB
        have hmk := run_zeros m (by have := HMm.out; have := HL.out; have := H2.out; omega)
        have hsp : IntKind.i64.wrap ((st : Int) + p) = (st : Int) + p := by rw [IntKind.wrap_i64]; have := HST.out; have := HPL.out; have := HL.out; have := H2.out; omega
        go_wp2_with fail
        refine HIB.out.mono ?_
        rintro e w1 ⟨rfl, rfl⟩
        have hlt0 : w.heap.size < wr.heap.size := HI.out.res.lt
        have hlt1 : w.heap.size + 1 < wr.heap.size := HI.out.con.lt
        have HZl : Hid ((List.replicate m (0 : UInt8)).length = m) := Lib.hid (by simp)
        have HZe : Hid (List.replicate m (0 : UInt8) = List.replicate m (0 : UInt8)) := Lib.hid rfl
        generalize hZ : List.replicate m (0 : UInt8) = Z at hmk HZl
        have HZ := Lib.hid hZ
        clear hZ HZe
        go_wp2
        go_region
        go_wp2
        have hKf := (((HI.out.res.put 0 (.int .i64 (st : Int))).put 1 (.int .i64 (g : Int))).put 2 (.slice A rs.length c)).put 3 (.int .i64 (p : Int))
        have hkp := ((((Kp.refl (fun k => k = w.heap.size) wr).put w.heap.size 0 (.int .i64 (st : Int)) rfl).put w.heap.size 1 (.int .i64 (g : Int)) rfl).put w.heap.size 2 (.slice A rs.length c) rfl).put w.heap.size 3 (.int .i64 (p : Int)) rfl
        have hsz : ((((wr.setCell { block := w.heap.size, off := 0 } (Value.int IntKind.i64 ↑st)).setCell { block := w.heap.size, off := 1 } (Value.int IntKind.i64 ↑g)).setCell { block := w.heap.size, off := 2 } (Value.slice A rs.length c)).setCell { block := w.heap.size, off := 3 } (Value.int IntKind.i64 ↑p)).heap.size = wr.heap.size := by simp [World.setCell]
        generalize (((wr.setCell { block := w.heap.size, off := 0 } (Value.int IntKind.i64 ↑st)).setCell { block := w.heap.size, off := 1 } (Value.int IntKind.i64 ↑g)).setCell { block := w.heap.size, off := 2 } (Value.slice A rs.length c)).setCell { block := w.heap.size, off := 3 } (Value.int IntKind.i64 ↑p) = wf at *
        have hZb := Blk.new wf 5 _ _ (show (bc Z).toArray = _ from rfl)
        rw [hsz] at hZb
        have hrow := WRow.new (wf.alloc (.cells (bc Z).toArray 5)) (fun k => w.heap.size ≤ k) [(st + p, .slice (some ⟨wr.heap.size, 0, none⟩) m m)] [(st + p, Z)] #[.int .i64 ((st : Int) + p), .slice (some ⟨wr.heap.size, 0, none⟩) m m] (by simp [wsCells]) rfl (by simp) (by simp [hsz]; omega) (fun i a b hi => by
          rcases i with _ | i
          · simp at hi
            obtain ⟨rfl, rfl⟩ := hi
            exact ⟨_, rfl, some ⟨wr.heap.size, 0, none⟩, m, by rw [HZl.out], by rw [HZl.out]; exact Nat.le_refl _, (Rd.of_blk hZb).more (fun k hk => by have : k = wr.heap.size := hk; omega)⟩
          · simp at hi) 1 rfl
        rw [World.size_alloc, hsz] at hrow
        have hb2 : Below wf.heap.size wf (((wf.alloc (.cells (bc Z).toArray 5)).alloc (.cells #[.int .i64 ((st : Int) + p), .slice (some ⟨wr.heap.size, 0, none⟩) m m] 71)).drew) := (((Below.refl _ _).alloc (Nat.le_refl _) _).alloc (by simp) _).drew
        have hKl := hKf.below hb2 hKf.lt
        have q0 : (((wf.alloc (.cells (bc Z).toArray 5)).alloc (.cells #[.int .i64 ((st : Int) + p), .slice (some ⟨wr.heap.size, 0, none⟩) m m] 71)).drew).cell? ⟨w.heap.size, 0, none⟩ = some (.int .i64 (st : Int)) := hKl.cell 0
        have q1 : (((wf.alloc (.cells (bc Z).toArray 5)).alloc (.cells #[.int .i64 ((st : Int) + p), .slice (some ⟨wr.heap.size, 0, none⟩) m m] 71)).drew).cell? ⟨w.heap.size, 1, none⟩ = some (.int .i64 (g : Int)) := hKl.cell 1
        have q2 : (((wf.alloc (.cells (bc Z).toArray 5)).alloc (.cells #[.int .i64 ((st : Int) + p), .slice (some ⟨wr.heap.size, 0, none⟩) m m] 71)).drew).cell? ⟨w.heap.size, 2, none⟩ = some (.slice A rs.length c) := hKl.cell 2
        have q3 : (((wf.alloc (.cells (bc Z).toArray 5)).alloc (.cells #[.int .i64 ((st : Int) + p), .slice (some ⟨wr.heap.size, 0, none⟩) m m] 71)).drew).cell? ⟨w.heap.size, 3, none⟩ = some (.int .i64 (p : Int)) := hKl.cell 3
        have hrow2 : WRow (((wf.alloc (.cells (bc Z).toArray 5)).alloc (.cells #[.int .i64 ((st : Int) + p), .slice (some ⟨wr.heap.size, 0, none⟩) m m] 71)).drew) (fun k => w.heap.size ≤ k) (.slice (some ⟨wr.heap.size + 1, 0, none⟩) 1 1) [(st + p, Z)] := hrow.old ((Below.refl _ _).drew)
        have hbw : Below w.heap.size w (((wf.alloc (.cells (bc Z).toArray 5)).alloc (.cells #[.int .i64 ((st : Int) + p), .slice (some ⟨wr.heap.size, 0, none⟩) m m] 71)).drew) := (HI.out.bel.trans (hkp.below HI.out.bel.size (fun k e => by omega))).trans (hb2.mono (by rw [hsz]; omega))
        have hrec : Recs (((wf.alloc (.cells (bc Z).toArray 5)).alloc (.cells #[.int .i64 ((st : Int) + p), .slice (some ⟨wr.heap.size, 0, none⟩) m m] 71)).drew) (fun k => w.heap.size ≤ k) (.slice A rs.length c) rs := ((HI.out.recs.keep (fun k hk _ => hkp.block k (by omega) (by omega)) hkp.size).old hb2).more (fun k hk => by omega)
        generalize ((wf.alloc (.cells (bc Z).toArray 5)).alloc (.cells #[.int .i64 ((st : Int) + p), .slice (some ⟨wr.heap.size, 0, none⟩) m m] 71)).drew = wl at *
        refine bodyPost_ret (v := .tuple #[.agg #[.int .i64 (st : Int), .int .i64 (g : Int), .slice A rs.length c, .int .i64 (p : Int)], .slice (some ⟨wr.heap.size + 1, 0, none⟩) 1 1]) (by simp [results, Try.results40, go_sem, q0, q1, q2, q3]) rfl ?_
        refine ⟨rs, p, _, _, HI.out.ch, HO.out, rfl, hrec, ?_, hbw⟩
        rw [if_neg hbl, ← HL.out, ← HMm.out, HZ.out]
        exact hrow2
end Go.Proofs.Ytaoaegkfejlgkaa.Dsk
