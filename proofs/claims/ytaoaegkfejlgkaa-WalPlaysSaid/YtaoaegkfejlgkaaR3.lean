/-
  The document's Read of layer 8: what a disk's bytes have as a log.
-/
import Derived.Test.YtaoaegkfejlgkaaR2
namespace Go.Proofs.Ytaoaegkfejlgkaa.Dsk
open Go.RowKit
/-- What Read hands back. -/
def ReadR (w : World) (g : Nat) (rs : List (List UInt8)) (e : Ending) (w' : World) : Prop := ∃ A c, e = .returned (.tuple #[.slice A rs.length c, .int .i64 (g : Int)]) ∧ Recs w' (fun k => w.heap.size ≤ k) (.slice A rs.length c) rs ∧ Below w.heap.size w w'
/-- While the records are read. -/
structure QInv (w : World) (h : List UInt8) (g p : Nat) (rs' : List (List UInt8)) (v : Value) (wr : World) : Prop where
  ch : Ch h g 16 rs' p
  recs : Recs wr (fun k => w.heap.size ≤ k) v rs'
  bel : Below w.heap.size w wr
/-- Bytes that were copied, as a payload. -/
theorem own_pay {w8 w9 : World} {S : Nat → Prop} {rb : Option Nat} {v9 : Value} {x : List UInt8} (h1 : 1 ≤ x.length) (h2 : x.length ≤ 65536) (hown : w9.ownsRow w8.heap.size 5 1 v9 ([] ++ ns x).length (vals .u8 ([] ++ ns x))) (hg : (w8.alloc (.cells #[] 5)).grownBy w9 (Value.slice (some ⟨w8.heap.size, 0, none⟩) 0 0).ownBlock) (hS : ∀ k, w8.heap.size ≤ k → S k) (hrb : ∀ k, rb = some k → k < w8.heap.size) :
    ∃ pb cb, v9 = .slice (some ⟨pb, 0, none⟩) x.length cb ∧ PayAt w9 S rb v9 x ∧ Below w8.heap.size w8 w9 := by
  rw [List.nil_append] at hown
  obtain ⟨A, c', rfl, h5, h6, h7, h8, h9⟩ := own_form hown
  have hb : Below w8.heap.size w8 w9 := ((Below.refl w8.heap.size w8).alloc (Nat.le_refl _) (.cells #[] 5)).grown hg (by simp) (fun j hj => by have hj2 : some w8.heap.size = some j := hj; injection hj2 with hj2; omega)
  obtain ⟨ad, e, _⟩ := h8 (by rw [ns_length]; exact h1)
  obtain ⟨p, e2, hp, hp2⟩ := h9 ad e
  subst e e2
  rw [ns_length] at h5 ⊢
  exact ⟨p, c', rfl, ⟨p, c', rfl, h1, h2, h5, hS p hp, fun e => by have := hrb p e; omega, rd_of_rdb h8 (fun ad e => by injection e with e; subst e; exact ⟨rfl, hp2⟩)⟩, hb⟩
theorem wrapN {n : Nat} (h : n ≤ 4000000) : IntKind.i64.wrap (n : Int) = (n : Int) := by rw [IntKind.wrap_i64]; omega
set_option maxRecDepth 100000
set_option maxHeartbeats 16000000 in
theorem read08_any (w : World) (qb : Nat) (L : List UInt8) (sz st g q : Nat) (rs : List (List UInt8)) (hk : Blk w qb 5 (bc L)) (hw : Wk L sz st g rs q) (hsz : L.length / 2 = sz) (hl : L.length ≤ 1000000) :
    Calls Try.prog 36 #[.slice (some ⟨qb, 0, none⟩) L.length L.length] w (ReadR w g rs) := by
  have hs5 := hw.hsz
  have HK := Lib.hid (fun W (hb : Below w.heap.size w W) => hk.below hb hk.lt)
  have HG1 := Lib.hid (fun W (hb : Below w.heap.size w W) => rgen_any W qb L (HK.out W hb) 0 (by omega) (by omega))
  have HG2 := Lib.hid (fun W (hb : Below w.heap.size w W) => rgen_any W qb L (HK.out W hb) sz (by omega) (by omega))
  rw [genOf_half L 0 sz (by omega), show ((0 : Nat) : Int) = 0 from rfl] at HG1
  rw [genOf_half L sz sz (by omega)] at HG2
  have HNum := Lib.hid (fun W a (hb : Below w.heap.size w W) (ha : a + 4 ≤ L.length) => number_any W qb L (HK.out W hb) a ha (by omega))
  obtain ⟨h, hh⟩ : ∃ h, h = half L st sz := ⟨_, rfl⟩
  have hhl : h.length = sz := by rw [hh]; exact hw.hlen
  have hgl := hw.gle
  have hg1 := hw.g1
  have HC := Lib.hid (fun p rs' (hc : Ch h g 16 rs' p) (hn : payAt h g p = none) => Ch.det (hh ▸ hw.ch) (hh ▸ hw.none) hc hn)
  have HPW := Lib.hid (fun p r (hp : (h.drop p).length = r) => pay_ways h g p r _ _ _ _ _ hp rfl rfl rfl rfl rfl)
  have HHN := Lib.hid (fun p (h9 : 9 ≤ sz - p) => (show num (h.drop p) = num (L.drop (st + p)) by rw [hh]; exact half_dropN h9))
  have HHM := Lib.hid (fun p (h9 : 9 ≤ sz - p) => (show num ((h.drop p).drop 4) = num (L.drop (st + p + 4)) by rw [hh]; exact half_dropM h9))
  have HHm := Lib.hid (fun p (h9 : 9 ≤ sz - p) => (show (h.drop p).getD 8 0 = L.getD (st + p + 8) 0 by rw [hh]; exact half_dropm h9))
  have HHx := Lib.hid (fun p N (h9 : 9 + N ≤ sz - p) => (show ((h.drop p).drop 9).take N = (L.drop (st + p + 9)).take N by rw [hh]; exact half_dropx h9))
  have HHl := Lib.hid hhl
  have hst := hw.hst
  have hlen := hw.len
  have hstn : st + sz ≤ L.length := by omega
  have HSTN := Lib.hid hstn
  have HSZ := Lib.hid hs5
  have HL := Lib.hid hl
  have HGL := Lib.hid hgl
  have hgen := hw.gen
  have hoth := hw.oth
  have q2' : ((L.length : Nat) : Int) / 2 = (sz : Int) := by omega
  have wsz := wrapN (n := sz) (by omega)
  obtain ⟨n, hn⟩ : ∃ n, n = L.length := ⟨_, rfl⟩
  have HN := Lib.hid hn
  rw [← hn] at HG1 HG2 HNum q2' ⊢
  have HSt : Hid (st = 0 ∨ st = sz) := Lib.hid hst
  have e0 : ((g : Int) == 0) = false := by simp; omega
  rcases hst with hst' | hst'
  · have hg' : genOf (half L 0 sz) = g := by rw [← hst']; exact hgen
    rw [hg'] at HG1
    have ho' : genOf (half L sz sz) < g := by rw [hst', Nat.sub_zero] at hoth; exact hoth
    generalize genOf (half L sz sz) = g2 at *
    have e1 : ¬ (g : Int) < (g2 : Int) := by omega
    have e1' : decide (g < g2) = false := by simp; omega
    have HST0 := Lib.hid hst'
    clear hk hsz hl hh hhl hgl hg1 hstn hlen hs5 hgen hoth hst' hg' ho' hw hn
    go_enter Try.func36, Try.ntmps36
    go_wp2_with fail
    refine (HG1.out w (Below.refl _ _)).mono ?_
    rintro e w1 ⟨rfl, hb⟩
    have HB1 := Lib.hid hb
    clear hb
    go_wp2_with fail
    refine (HG2.out w1 HB1.out).mono ?_
    rintro e w2 ⟨rfl, hb⟩
    have HB2 := Lib.hid (HB1.out.trans (hb.mono HB1.out.size))
    clear hb
    go_wp2
    have HI : Hid (QInv w h g 16 [] (.slice none 0 0) w2) := Lib.hid ⟨rfl, Recs.nil _ _, HB2.out⟩
    go_loopw [8, 9] (fun v8 i wr => ∃ (p : Nat) (rs' : List (List UInt8)), i = .int .i64 (p : Int) ∧ QInv w h g p rs' v8 wr) (fun _ i _ => sz - (intOf i).toNat)
    case atStart => exact ⟨16, [], rfl, HI.out⟩
    case round =>
      clear HI
      obtain ⟨p, rs', rfl, hinv⟩ := hrel
      have HI := Lib.hid hinv
      clear hinv
      have hpz : p ≤ sz := by
        have := HI.out.ch.end_le (by have := HHl.out; have := HSZ.out; omega)
        have := HHl.out
        omega
      obtain ⟨A8, c8, rfl⟩ := HI.out.recs.form
      obtain ⟨r, hr⟩ : ∃ r, r = sz - p := ⟨_, rfl⟩
      have hways := HPW.out p r (by rw [List.length_drop, HHl.out, hr])
      have ha : p = st + p := by have := HST0.out; omega
      obtain ⟨p9, hp9⟩ : ∃ p9, p9 = p + 9 := ⟨_, rfl⟩
      have wa := wrapN (n := p) (by have := HSTN.out; have := HL.out; omega)
      have w9 := wrapN (n := p9) (by have := HSTN.out; have := HL.out; omega)
      have e9 : (p : Int) + 9 = (p9 : Int) := by omega
      by_cases h9 : r < 9
      · have hle : ¬ (p9 : Int) ≤ (sz : Int) := by omega
        have hno : payAt h g p = none := by
          rcases hways with ⟨_, c⟩ | ⟨c, _⟩ | ⟨c, _⟩ | ⟨_, _, c, _⟩ | ⟨_, _, c, _⟩ | ⟨_, _, c, _⟩
          · exact c
          all_goals omega
        have HE := Lib.hid (HC.out p rs' HI.out.ch hno)
        clear hways hno h9 hr ha hp9 hpz
        go_wp2
        go_ret2
        rw [HE.out.1]
        exact ⟨A8, c8, rfl, HE.out.1 ▸ HI.out.recs, HI.out.bel⟩
      have h9' : 9 ≤ sz - p := by omega
      have hle : (p9 : Int) ≤ (sz : Int) := by omega
      rw [HHN.out p h9', HHM.out p h9', HHm.out p h9', ← ha] at hways
      have HNm := Lib.hid (HNum.out wr p HI.out.bel (by have := HSTN.out; have := HN.out; omega))
      obtain ⟨N, hNN⟩ : ∃ N, N = num (L.drop p) := ⟨_, rfl⟩
      rw [← hNN] at hways HNm
      have hNl : N < 4294967296 := hNN ▸ num_lt _
      by_cases hbad : N < 1 ∨ 65536 < N
      · have hno : payAt h g p = none := by
          rcases hways with ⟨_, c⟩ | ⟨_, _, c⟩ | ⟨_, _, _, _, c⟩ | ⟨c1, c2, c3, _⟩ | ⟨c1, c2, c3, _⟩ | ⟨c1, c2, c3, _⟩
          · exact c
          · exact c
          · exact c
          all_goals omega
        have HE := Lib.hid (HC.out p rs' HI.out.ch hno)
        have hb2 : (N : Int) < 1 ∨ (¬ (N : Int) < 1 ∧ (65536 : Int) < N) := by omega
        clear hways hno h9 h9' hr ha hp9 hpz hbad hNl hNN
        rcases hb2 with hb2 | ⟨hb1, hb2⟩
        all_goals
          go_wp2_with fail
          refine HNm.out.mono ?_
          rintro e w3 ⟨rfl, k3, rfl⟩
          have HB3 := Lib.hid (below_drewN (Below.refl wr.heap.size wr) k3)
          go_wp2
          go_ret2
          rw [HE.out.1]
          exact ⟨A8, c8, rfl, HE.out.1 ▸ HI.out.recs.old HB3.out, HI.out.bel.trans (HB3.out.mono HI.out.bel.size)⟩
      have hb1 : ¬ (N : Int) < 1 := by omega
      have hb2 : ¬ (65536 : Int) < (N : Int) := by omega
      obtain ⟨pN, hpN⟩ : ∃ pN, pN = p9 + N := ⟨_, rfl⟩
      have eN : (p9 : Int) + N = (pN : Int) := by omega
      have wN := wrapN (n := pN) (by have := HSTN.out; have := HL.out; omega)
      by_cases hsh : r < 9 + N
      · have hno : payAt h g p = none := by
          rcases hways with ⟨_, c⟩ | ⟨_, _, c⟩ | ⟨_, _, _, _, c⟩ | ⟨c1, c2, c3, _⟩ | ⟨c1, c2, c3, _⟩ | ⟨c1, c2, c3, _⟩
          · exact c
          · exact c
          · exact c
          all_goals omega
        have HE := Lib.hid (HC.out p rs' HI.out.ch hno)
        have hlN : (sz : Int) < (pN : Int) := by omega
        clear hways hno h9 h9' hr ha hp9 hpz hbad hNl hsh hpN hNN
        go_wp2_with fail
        refine HNm.out.mono ?_
        rintro e w3 ⟨rfl, k3, rfl⟩
        have HB3 := Lib.hid (below_drewN (Below.refl wr.heap.size wr) k3)
        go_wp2
        go_ret2
        rw [HE.out.1]
        exact ⟨A8, c8, rfl, HE.out.1 ▸ HI.out.recs.old HB3.out, HI.out.bel.trans (HB3.out.mono HI.out.bel.size)⟩
      have hlN : ¬ (sz : Int) < (pN : Int) := by omega
      have HC8 := Lib.hid (fun W (hb : Below w.heap.size w W) => (show W.cell? ⟨qb, p + 8, none⟩ = some (.int .u8 ((L.getD (p + 8) 0).toNat : Nat)) by rw [(HK.out W hb).cell]; exact bc_get _ _ (by have := HSTN.out; omega)))
      have w8 : IntKind.i64.wrap ((p : Int) + 8) = (p : Int) + 8 := by rw [IntKind.wrap_i64]; have := HSTN.out; have := HL.out; omega
      have i8 : (p : Int) + 8 < (n : Int) := by have := HSTN.out; have := HN.out; omega
      have j8 : (0 : Int) ≤ (p : Int) + 8 := by omega
      have k8 : ((p : Int) + 8).toNat = p + 8 := by omega
      have i8' : p + 8 < n := by have := HSTN.out; have := HN.out; omega
      generalize L.getD (p + 8) 0 = m at *
      by_cases hm : m = 1
      · subst hm
        have e1 : (((UInt8.toNat 1 : Nat) : Int)) = 1 := rfl
        rw [e1] at HC8
        obtain ⟨x, hx⟩ : ∃ x, x = (L.drop (p + 9)).take N := ⟨_, rfl⟩
        have hxl : x.length = N := by rw [hx, List.length_take, List.length_drop]; have := HSTN.out; omega
        have hhx := HHx.out p N (by omega)
        rw [← ha, ← hx] at hhx
        rw [hhx] at hways
        have wa9 := wrapN (n := p9) (by have := HSTN.out; have := HL.out; omega)
        have waN := wrapN (n := pN) (by have := HSTN.out; have := HL.out; omega)
        obtain ⟨a4, ha4⟩ : ∃ a4, a4 = p + 4 := ⟨_, rfl⟩
        have ea4 : (p : Int) + 4 = (a4 : Int) := by omega
        have wa4 := wrapN (n := a4) (by have := HSTN.out; have := HL.out; omega)
        obtain ⟨P, hP, hP'⟩ := run_part qb n p9 pN (by omega) (by have := HSTN.out; have := HN.out; omega)
        obtain rfl := hP' (by have := HSTN.out; have := HN.out; omega)
        rw [show pN - p9 = N by omega] at hP
        have HRx := Lib.hid (fun W (hb : Below w.heap.size w W) => (show Rd W (· = qb) (some ⟨qb, p9, none⟩) x by rw [hx, show p + 9 = p9 by omega]; exact Rd.of_part (HK.out W hb)))
        have HNn : Hid (N ≤ n - p9) := Lib.hid (by have := HSTN.out; have := HN.out; omega)
        have HXl := Lib.hid hxl
        have HN6 : Hid (1 ≤ N ∧ N ≤ 65536) := Lib.hid (by omega)
        have HF1 := Lib.hid (fun W => four_any g W (by have := HGL.out; omega))
        have HF2 := Lib.hid (fun W => four_any p W (by have := HSTN.out; have := HL.out; omega))
        have HF3 := Lib.hid (fun W => four_any N W hNl)
        have HM4 := Lib.hid (fun W (hb : Below w.heap.size w W) => HNum.out W a4 hb (by have := HSTN.out; have := HN.out; omega))
        rw [show a4 = p + 4 by omega] at HM4
        obtain ⟨M, hMM⟩ : ∃ M, M = num (L.drop (p + 4)) := ⟨_, rfl⟩
        rw [← hMM] at HM4 hways
        rw [show p + 4 = a4 by omega] at HM4
        obtain ⟨T, hTT⟩ : ∃ T, T = rsum g p x := ⟨_, rfl⟩
        have HTT : Hid (csum (be4 g ++ (be4 p ++ (be4 N ++ x))) = T) := Lib.hid (by rw [hTT]; unfold rsum; rw [hxl])
        rw [← hTT] at hways
        have hfin : (M ≠ T ∧ payAt h g p = none) ∨ (M = T ∧ payAt h g p = some x) := by
          rcases hways with ⟨_, c⟩ | ⟨_, _, c⟩ | ⟨_, _, _, c, _⟩ | ⟨_, _, _, c, _⟩ | ⟨_, _, _, _, c, d⟩ | ⟨_, _, _, _, c, d⟩
          · omega
          · omega
          · omega
          · exact absurd rfl c
          · exact .inl ⟨c, d⟩
          · exact .inr ⟨c, d⟩
        have HFin := Lib.hid hfin
        have HPN : Hid (p + (9 + N) = pN ∧ pN ≤ sz) := Lib.hid ⟨by omega, by omega⟩
        have HPn2 : Hid (p < pN) := Lib.hid (by omega)
        have ePN : (9 : Int) + N = ((9 + N : Nat) : Int) := by omega
        have wPN := wrapN (n := 9 + N) (by omega)
        have ePP : (p : Int) + ((9 + N : Nat) : Int) = (pN : Int) := by omega
        clear hways h9 h9' hr ha hp9 hpz hbad hNl hsh hpN hNN hx hxl hhx hP' hMM hTT hfin ha4
        generalize ht : 9 + N = t9 at *
        have HT9 := Lib.hid ht
        clear ht
        go_wp2_with fail
        refine HNm.out.mono ?_
        rintro e w3 ⟨rfl, k3, rfl⟩
        have HB3 := Lib.hid (below_drewN HI.out.bel k3)
        have HR3 := Lib.hid (HI.out.recs.old (below_drewN (Below.refl wr.heap.size wr) k3))
        generalize wr.drewN k3 = w3 at *
        have hc8 := HC8.out w3 HB3.out
        go_wp2_with fail
        refine (HF1.out w3).mono ?_
        rintro e w4 ⟨b1, rfl, x1, x2, x3, x4⟩
        have HK1 := Lib.hid x2
        have HB4 := Lib.hid (HB3.out.trans (x3.mono HB3.out.size))
        have HR4 := Lib.hid (HR3.out.old x3)
        clear x1 x2 x3 x4 hc8
        go_wp2_with fail
        refine (HF2.out w4).mono ?_
        rintro e w5 ⟨b2, rfl, x1, x2, x3, x4⟩
        have HK1' := Lib.hid (HK1.out.below x3 HK1.out.lt)
        have HK2 := Lib.hid x2
        have HB5 := Lib.hid (HB4.out.trans (x3.mono HB4.out.size))
        have HR5 := Lib.hid (HR4.out.old x3)
        clear x1 x2 x3 x4
        go_wp2_with fail
        refine (HF3.out w5).mono ?_
        rintro e w6 ⟨b3, rfl, x1, x2, x3, x4⟩
        have HJ := Lib.hid (join_four w6 w6.heap.size ⟨b1, 0, none⟩ ⟨b2, 0, none⟩ ⟨b3, 0, none⟩ ⟨qb, p9, none⟩ 4 4 4 N 4 4 4 (n - p9) _ _ _ _ (be4 g) (be4 p) (be4 N) x rfl (Rd.of_blk (HK1'.out.below x3 HK1'.out.lt)) (Rd.of_blk (HK2.out.below x3 HK2.out.lt)) (Rd.of_blk x2) (HRx.out w6 (HB5.out.trans (x3.mono HB5.out.size))) rfl rfl rfl HXl.out (Nat.le_refl _) (Nat.le_refl _) (Nat.le_refl _) (by rw [HXl.out]; exact HNn.out) (by rw [HXl.out]; have := HN6.out; simp only [be4_length]; omega) _ rfl)
        have HB6 := Lib.hid (HB5.out.trans (x3.mono HB5.out.size))
        have HR6 := Lib.hid (HR5.out.old x3)
        clear x1 x2 x3 x4 HK1 HK1' HK2
        go_wp2_with fail
        refine HJ.out.mono ?_
        rintro e w7 ⟨AJ, cJ, rfl, y1, y2⟩
        have HS := Lib.hid (rsum03 w7 _ AJ _ cJ _ rfl y1 (by simp only [List.length_append, be4_length]; rw [HXl.out]; have := HN6.out; omega))
        rw [HTT.out] at HS
        have HB7 := Lib.hid (HB6.out.trans (y2.mono HB6.out.size))
        have HR7 := Lib.hid (HR6.out.old y2)
        clear y1 y2
        generalize (be4 g ++ (be4 p ++ (be4 N ++ x))).length = jn at *
        go_wp2_with fail
        refine HS.out.mono ?_
        rintro e w8 ⟨rfl, rfl⟩
        go_wp2_with fail
        refine (HM4.out w7 HB7.out).mono ?_
        rintro e w8 ⟨rfl, k8', rfl⟩
        have HB8 := Lib.hid (below_drewN HB7.out k8')
        have HR8 := Lib.hid (HR7.out.old (below_drewN (Below.refl w7.heap.size w7) k8'))
        generalize w7.drewN k8' = w8 at *
        rcases HFin.out with ⟨hMT, hno⟩ | ⟨hMT, hyes⟩
        · have e3 := int_ne (Ne.symm hMT)
          have HE := Lib.hid (HC.out p rs' HI.out.ch hno)
          clear hMT hno HFin
          go_wp2
          go_ret2
          rw [HE.out.1]
          exact ⟨A8, c8, rfl, HE.out.1 ▸ HR8.out, HB8.out⟩
        · subst hMT
          have HCH := Lib.hid (HI.out.ch.snoc hyes)
          clear hyes HFin
          have HO : Hid ((w8.alloc (.cells #[] 5)).ownsRow w8.heap.size 5 1 (.slice (some ⟨w8.heap.size, 0, none⟩) 0 0) ([] : List Nat).length (vals .u8 [])) := Lib.hid (empty_own w8)
          have HRb : Hid (RdB (w8.alloc (.cells #[] 5)) (w8.alloc (.cells #[] 5)).heap.size (some ⟨qb, p9, none⟩) (ns x)) := Lib.hid (((HRx.out w8 HB8.out).rdb.below ((Below.refl _ _).alloc (Nat.le_refl _) _)).more (by simp))
          have HRB8 : Hid (∀ k, (Value.slice A8 rs'.length c8).ownBlock = some k → k < w8.heap.size) := Lib.hid (by
            obtain ⟨xs, h5, _⟩ := HR8.out.ex
            exact fun k e => (h5.lt k e).2)
          have HCnt := Lib.hid HI.out.ch.count
          go_wp2_with (first
            | (at_builtin; refine wpList_append_bytes rfl _ _ rfl w8.heap.size _ [] rfl HO.out (some ⟨qb, p9, none⟩) (n - p9) (ns x) (show Value.slice (some ⟨qb, p9, none⟩) N (n - p9) = .slice (some ⟨qb, p9, none⟩) (ns x).length (n - p9) by rw [ns_length, HXl.out]) (fun h => by cases h) HRb.out (by rw [ns_length, List.length_nil, Nat.zero_add, HXl.out]; have := HN6.out; omega) (by simp) ?_; intro v9 w9 hown9 hgrow9 _; obtain ⟨pb, cb, rfl, hpay9, hb9⟩ := own_pay (S := fun k => w.heap.size ≤ k) (rb := (Value.slice A8 rs'.length c8).ownBlock) (by rw [HXl.out]; exact HN6.out.1) (by rw [HXl.out]; exact HN6.out.2) hown9 hgrow9 (fun k hk => Nat.le_trans HB8.out.size hk) HRB8.out; have HPay9 := Lib.hid hpay9; have HB9 := Lib.hid (HB8.out.trans (hb9.mono HB8.out.size)); have HR9 := Lib.hid (HR8.out.old hb9); obtain ⟨xs, ho9, hxs9⟩ := HR9.out.ex; have HO9a := Lib.hid ho9; have HX9 := Lib.hid hxs9; have HO9 := Lib.hid (ho9.alloc (.cells #[Value.slice (some ⟨pb, 0, none⟩) x.length cb] 33)); have HNb := Lib.hid (Blk.new w9 33 _ _ (show #[Value.slice (some ⟨pb, 0, none⟩) x.length cb] = _ from rfl)); clear hown9 hgrow9 hpay9 hb9 ho9 hxs9)
            | (at_builtin; refine wpList_append_at rfl _ _ 32 rfl 0 33 1 24 _ Try.underlying32 infoRow rfl (by decide) (by decide) (.slice A8 rs'.length c8) rs'.length xs rfl HO9.out ⟨w9.heap.size, 0, none⟩ 1 1 [.slice (some ⟨pb, 0, none⟩) x.length cb] rfl rfl (fun j u hu => by rw [Addr.add_mid, Nat.zero_add, HNb.out.cell]; exact hu) (by intro u hu; rw [List.mem_singleton.1 hu]; rfl) (by have := HCnt.out; have := HSTN.out; have := HL.out; have := HPN.out; omega) (Nat.zero_le _) (by decide) ?_; intro v10 w10 HO10 HG10 HW10))
          have hkp10 : Below w.heap.size w w10 := by
            refine (HB9.out.alloc HB9.out.size (.cells #[Value.slice (some ⟨pb, 0, none⟩) x.length cb] 33)).grown HG10.out (by have := HB9.out.size; simp; omega) (fun j hj => HR9.out.own j hj)
          have HR10 := Lib.hid ((recs_snoc HO9a.out HX9.out HR9.out.own HPay9.out _ HO10.out HG10.out HW10.out).more (S' := fun k => w.heap.size ≤ k) (fun k hk => by rcases hk with hk | hk; exact hk; exact Nat.le_trans HB9.out.size hk.1))
          have HB10 := Lib.hid hkp10
          clear hkp10
          go_roundw
          case rel =>
            refine ⟨pN, rs' ++ [x], by go_num, ?_, HR10.out, HB10.out⟩
            have := HCH.out
            rwa [HXl.out, HT9.out, HPN.out.1] at this
          case measure =>
            have := HPN.out.2
            have := HPn2.out
            simp [intOf]
            omega
      · have hno : payAt h g p = none := by
          rcases hways with ⟨_, c⟩ | ⟨_, _, c⟩ | ⟨_, _, _, _, c⟩ | ⟨_, _, _, _, c⟩ | ⟨_, _, _, c, _⟩ | ⟨_, _, _, c, _⟩
          · exact c
          · exact c
          · exact c
          · exact c
          · exact absurd c hm
          · exact absurd c hm
        have HE := Lib.hid (HC.out p rs' HI.out.ch hno)
        have e1 : (((m.toNat : Nat) : Int) != 1) = true := u8_ne hm
        clear hways hno h9 h9' hr ha hp9 hpz hbad hNl hsh hpN hNN hm
        go_wp2_with fail
        refine HNm.out.mono ?_
        rintro e w3 ⟨rfl, k3, rfl⟩
        have HB3 := Lib.hid (below_drewN HI.out.bel k3)
        have HR3 := Lib.hid (HI.out.recs.old (below_drewN (Below.refl wr.heap.size wr) k3))
        generalize wr.drewN k3 = w3 at *
        have hc8 := HC8.out w3 HB3.out
        go_wp2
        go_ret2
        rw [HE.out.1]
        exact ⟨A8, c8, rfl, HE.out.1 ▸ HR3.out, HB3.out⟩
  · have hg' : genOf (half L sz sz) = g := by rw [hst'] at hgen; exact hgen
    rw [hg'] at HG2
    have ho' : genOf (half L 0 sz) < g := by rw [hst', Nat.sub_self] at hoth; exact hoth
    generalize genOf (half L 0 sz) = g2 at *
    have e1 : (g2 : Int) < (g : Int) := by omega
    have e1' : decide (g2 < g) = true := by simp; omega
    have HST0 := Lib.hid hst'
    clear hk hsz hl hh hhl hgl hg1 hstn hlen hs5 hgen hoth hst' hg' ho' hw hn
    go_enter Try.func36, Try.ntmps36
    go_wp2_with fail
    refine (HG1.out w (Below.refl _ _)).mono ?_
    rintro e w1 ⟨rfl, hb⟩
    have HB1 := Lib.hid hb
    clear hb
    go_wp2_with fail
    refine (HG2.out w1 HB1.out).mono ?_
    rintro e w2 ⟨rfl, hb⟩
    have HB2 := Lib.hid (HB1.out.trans (hb.mono HB1.out.size))
    clear hb
    go_wp2
    have HI : Hid (QInv w h g 16 [] (.slice none 0 0) w2) := Lib.hid ⟨rfl, Recs.nil _ _, HB2.out⟩
    go_loopw [8, 9] (fun v8 i wr => ∃ (p : Nat) (rs' : List (List UInt8)), i = .int .i64 (p : Int) ∧ QInv w h g p rs' v8 wr) (fun _ i _ => sz - (intOf i).toNat)
    case atStart => exact ⟨16, [], rfl, HI.out⟩
    case round =>
      clear HI
      obtain ⟨p, rs', rfl, hinv⟩ := hrel
      have HI := Lib.hid hinv
      clear hinv
      have hpz : p ≤ sz := by
        have := HI.out.ch.end_le (by have := HHl.out; have := HSZ.out; omega)
        have := HHl.out
        omega
      obtain ⟨A8, c8, rfl⟩ := HI.out.recs.form
      obtain ⟨r, hr⟩ : ∃ r, r = sz - p := ⟨_, rfl⟩
      have hways := HPW.out p r (by rw [List.length_drop, HHl.out, hr])
      obtain ⟨a, ha⟩ : ∃ a, a = st + p := ⟨_, rfl⟩
      obtain ⟨p9, hp9⟩ : ∃ p9, p9 = p + 9 := ⟨_, rfl⟩
      have wa := wrapN (n := a) (by have := HSTN.out; have := HL.out; omega)
      have w9 := wrapN (n := p9) (by have := HSTN.out; have := HL.out; omega)
      have ea : (sz : Int) + p = (a : Int) := by have := HST0.out; omega
      have e9 : (p : Int) + 9 = (p9 : Int) := by omega
      by_cases h9 : r < 9
      · have hle : ¬ (p9 : Int) ≤ (sz : Int) := by omega
        have hno : payAt h g p = none := by
          rcases hways with ⟨_, c⟩ | ⟨c, _⟩ | ⟨c, _⟩ | ⟨_, _, c, _⟩ | ⟨_, _, c, _⟩ | ⟨_, _, c, _⟩
          · exact c
          all_goals omega
        have HE := Lib.hid (HC.out p rs' HI.out.ch hno)
        clear hways hno h9 hr ha hp9 hpz
        go_wp2
        go_ret2
        rw [HE.out.1]
        exact ⟨A8, c8, rfl, HE.out.1 ▸ HI.out.recs, HI.out.bel⟩
      have h9' : 9 ≤ sz - p := by omega
      have hle : (p9 : Int) ≤ (sz : Int) := by omega
      rw [HHN.out p h9', HHM.out p h9', HHm.out p h9', ← ha] at hways
      have HNm := Lib.hid (HNum.out wr a HI.out.bel (by have := HSTN.out; have := HN.out; omega))
      obtain ⟨N, hNN⟩ : ∃ N, N = num (L.drop a) := ⟨_, rfl⟩
      rw [← hNN] at hways HNm
      have hNl : N < 4294967296 := hNN ▸ num_lt _
      by_cases hbad : N < 1 ∨ 65536 < N
      · have hno : payAt h g p = none := by
          rcases hways with ⟨_, c⟩ | ⟨_, _, c⟩ | ⟨_, _, _, _, c⟩ | ⟨c1, c2, c3, _⟩ | ⟨c1, c2, c3, _⟩ | ⟨c1, c2, c3, _⟩
          · exact c
          · exact c
          · exact c
          all_goals omega
        have HE := Lib.hid (HC.out p rs' HI.out.ch hno)
        have hb2 : (N : Int) < 1 ∨ (¬ (N : Int) < 1 ∧ (65536 : Int) < N) := by omega
        clear hways hno h9 h9' hr ha hp9 hpz hbad hNl hNN
        rcases hb2 with hb2 | ⟨hb1, hb2⟩
        all_goals
          go_wp2_with fail
          refine HNm.out.mono ?_
          rintro e w3 ⟨rfl, k3, rfl⟩
          have HB3 := Lib.hid (below_drewN (Below.refl wr.heap.size wr) k3)
          go_wp2
          go_ret2
          rw [HE.out.1]
          exact ⟨A8, c8, rfl, HE.out.1 ▸ HI.out.recs.old HB3.out, HI.out.bel.trans (HB3.out.mono HI.out.bel.size)⟩
      have hb1 : ¬ (N : Int) < 1 := by omega
      have hb2 : ¬ (65536 : Int) < (N : Int) := by omega
      obtain ⟨pN, hpN⟩ : ∃ pN, pN = p9 + N := ⟨_, rfl⟩
      have eN : (p9 : Int) + N = (pN : Int) := by omega
      have wN := wrapN (n := pN) (by have := HSTN.out; have := HL.out; omega)
      by_cases hsh : r < 9 + N
      · have hno : payAt h g p = none := by
          rcases hways with ⟨_, c⟩ | ⟨_, _, c⟩ | ⟨_, _, _, _, c⟩ | ⟨c1, c2, c3, _⟩ | ⟨c1, c2, c3, _⟩ | ⟨c1, c2, c3, _⟩
          · exact c
          · exact c
          · exact c
          all_goals omega
        have HE := Lib.hid (HC.out p rs' HI.out.ch hno)
        have hlN : (sz : Int) < (pN : Int) := by omega
        clear hways hno h9 h9' hr ha hp9 hpz hbad hNl hsh hpN hNN
        go_wp2_with fail
        refine HNm.out.mono ?_
        rintro e w3 ⟨rfl, k3, rfl⟩
        have HB3 := Lib.hid (below_drewN (Below.refl wr.heap.size wr) k3)
        go_wp2
        go_ret2
        rw [HE.out.1]
        exact ⟨A8, c8, rfl, HE.out.1 ▸ HI.out.recs.old HB3.out, HI.out.bel.trans (HB3.out.mono HI.out.bel.size)⟩
      have hlN : ¬ (sz : Int) < (pN : Int) := by omega
      have HC8 := Lib.hid (fun W (hb : Below w.heap.size w W) => (show W.cell? ⟨qb, a + 8, none⟩ = some (.int .u8 ((L.getD (a + 8) 0).toNat : Nat)) by rw [(HK.out W hb).cell]; exact bc_get _ _ (by have := HSTN.out; omega)))
      have w8 : IntKind.i64.wrap ((a : Int) + 8) = (a : Int) + 8 := by rw [IntKind.wrap_i64]; have := HSTN.out; have := HL.out; omega
      have i8 : (a : Int) + 8 < (n : Int) := by have := HSTN.out; have := HN.out; omega
      have j8 : (0 : Int) ≤ (a : Int) + 8 := by omega
      have k8 : ((a : Int) + 8).toNat = a + 8 := by omega
      have i8' : a + 8 < n := by have := HSTN.out; have := HN.out; omega
      generalize L.getD (a + 8) 0 = m at *
      by_cases hm : m = 1
      · subst hm
        have e1 : (((UInt8.toNat 1 : Nat) : Int)) = 1 := rfl
        rw [e1] at HC8
        obtain ⟨x, hx⟩ : ∃ x, x = (L.drop (a + 9)).take N := ⟨_, rfl⟩
        have hxl : x.length = N := by rw [hx, List.length_take, List.length_drop]; have := HSTN.out; omega
        have hhx := HHx.out p N (by omega)
        rw [← ha, ← hx] at hhx
        rw [hhx] at hways
        obtain ⟨a9, ha9⟩ : ∃ a9, a9 = a + 9 := ⟨_, rfl⟩
        obtain ⟨aN, haN⟩ : ∃ aN, aN = a9 + N := ⟨_, rfl⟩
        have ea9 : (a : Int) + 9 = (a9 : Int) := by omega
        have eaN : (a9 : Int) + N = (aN : Int) := by omega
        have wa9 := wrapN (n := a9) (by have := HSTN.out; have := HL.out; omega)
        have waN := wrapN (n := aN) (by have := HSTN.out; have := HL.out; omega)
        obtain ⟨a4, ha4⟩ : ∃ a4, a4 = a + 4 := ⟨_, rfl⟩
        have ea4 : (a : Int) + 4 = (a4 : Int) := by omega
        have wa4 := wrapN (n := a4) (by have := HSTN.out; have := HL.out; omega)
        obtain ⟨P, hP, hP'⟩ := run_part qb n a9 aN (by omega) (by have := HSTN.out; have := HN.out; omega)
        obtain rfl := hP' (by have := HSTN.out; have := HN.out; omega)
        rw [show aN - a9 = N by omega] at hP
        have HRx := Lib.hid (fun W (hb : Below w.heap.size w W) => (show Rd W (· = qb) (some ⟨qb, a9, none⟩) x by rw [hx, show a + 9 = a9 by omega]; exact Rd.of_part (HK.out W hb)))
        have HNn : Hid (N ≤ n - a9) := Lib.hid (by have := HSTN.out; have := HN.out; omega)
        have HXl := Lib.hid hxl
        have HN6 : Hid (1 ≤ N ∧ N ≤ 65536) := Lib.hid (by omega)
        have HF1 := Lib.hid (fun W => four_any g W (by have := HGL.out; omega))
        have HF2 := Lib.hid (fun W => four_any p W (by have := HSTN.out; have := HL.out; omega))
        have HF3 := Lib.hid (fun W => four_any N W hNl)
        have HM4 := Lib.hid (fun W (hb : Below w.heap.size w W) => HNum.out W a4 hb (by have := HSTN.out; have := HN.out; omega))
        rw [show a4 = a + 4 by omega] at HM4
        obtain ⟨M, hMM⟩ : ∃ M, M = num (L.drop (a + 4)) := ⟨_, rfl⟩
        rw [← hMM] at HM4 hways
        rw [show a + 4 = a4 by omega] at HM4
        obtain ⟨T, hTT⟩ : ∃ T, T = rsum g p x := ⟨_, rfl⟩
        have HTT : Hid (csum (be4 g ++ (be4 p ++ (be4 N ++ x))) = T) := Lib.hid (by rw [hTT]; unfold rsum; rw [hxl])
        rw [← hTT] at hways
        have hfin : (M ≠ T ∧ payAt h g p = none) ∨ (M = T ∧ payAt h g p = some x) := by
          rcases hways with ⟨_, c⟩ | ⟨_, _, c⟩ | ⟨_, _, _, c, _⟩ | ⟨_, _, _, c, _⟩ | ⟨_, _, _, _, c, d⟩ | ⟨_, _, _, _, c, d⟩
          · omega
          · omega
          · omega
          · exact absurd rfl c
          · exact .inl ⟨c, d⟩
          · exact .inr ⟨c, d⟩
        have HFin := Lib.hid hfin
        have HPN : Hid (p + (9 + N) = pN ∧ pN ≤ sz) := Lib.hid ⟨by omega, by omega⟩
        have HPn2 : Hid (p < pN) := Lib.hid (by omega)
        have ePN : (9 : Int) + N = ((9 + N : Nat) : Int) := by omega
        have wPN := wrapN (n := 9 + N) (by omega)
        have ePP : (p : Int) + ((9 + N : Nat) : Int) = (pN : Int) := by omega
        clear hways h9 h9' hr ha hp9 hpz hbad hNl hsh hpN hNN hx hxl hhx hP' hMM hTT hfin ha9 haN ha4
        generalize ht : 9 + N = t9 at *
        have HT9 := Lib.hid ht
        clear ht
        go_wp2_with fail
        refine HNm.out.mono ?_
        rintro e w3 ⟨rfl, k3, rfl⟩
        have HB3 := Lib.hid (below_drewN HI.out.bel k3)
        have HR3 := Lib.hid (HI.out.recs.old (below_drewN (Below.refl wr.heap.size wr) k3))
        generalize wr.drewN k3 = w3 at *
        have hc8 := HC8.out w3 HB3.out
        go_wp2_with fail
        refine (HF1.out w3).mono ?_
        rintro e w4 ⟨b1, rfl, x1, x2, x3, x4⟩
        have HK1 := Lib.hid x2
        have HB4 := Lib.hid (HB3.out.trans (x3.mono HB3.out.size))
        have HR4 := Lib.hid (HR3.out.old x3)
        clear x1 x2 x3 x4 hc8
        go_wp2_with fail
        refine (HF2.out w4).mono ?_
        rintro e w5 ⟨b2, rfl, x1, x2, x3, x4⟩
        have HK1' := Lib.hid (HK1.out.below x3 HK1.out.lt)
        have HK2 := Lib.hid x2
        have HB5 := Lib.hid (HB4.out.trans (x3.mono HB4.out.size))
        have HR5 := Lib.hid (HR4.out.old x3)
        clear x1 x2 x3 x4
        go_wp2_with fail
        refine (HF3.out w5).mono ?_
        rintro e w6 ⟨b3, rfl, x1, x2, x3, x4⟩
        have HJ := Lib.hid (join_four w6 w6.heap.size ⟨b1, 0, none⟩ ⟨b2, 0, none⟩ ⟨b3, 0, none⟩ ⟨qb, a9, none⟩ 4 4 4 N 4 4 4 (n - a9) _ _ _ _ (be4 g) (be4 p) (be4 N) x rfl (Rd.of_blk (HK1'.out.below x3 HK1'.out.lt)) (Rd.of_blk (HK2.out.below x3 HK2.out.lt)) (Rd.of_blk x2) (HRx.out w6 (HB5.out.trans (x3.mono HB5.out.size))) rfl rfl rfl HXl.out (Nat.le_refl _) (Nat.le_refl _) (Nat.le_refl _) (by rw [HXl.out]; exact HNn.out) (by rw [HXl.out]; have := HN6.out; simp only [be4_length]; omega) _ rfl)
        have HB6 := Lib.hid (HB5.out.trans (x3.mono HB5.out.size))
        have HR6 := Lib.hid (HR5.out.old x3)
        clear x1 x2 x3 x4 HK1 HK1' HK2
        go_wp2_with fail
        refine HJ.out.mono ?_
        rintro e w7 ⟨AJ, cJ, rfl, y1, y2⟩
        have HS := Lib.hid (rsum03 w7 _ AJ _ cJ _ rfl y1 (by simp only [List.length_append, be4_length]; rw [HXl.out]; have := HN6.out; omega))
        rw [HTT.out] at HS
        have HB7 := Lib.hid (HB6.out.trans (y2.mono HB6.out.size))
        have HR7 := Lib.hid (HR6.out.old y2)
        clear y1 y2
        generalize (be4 g ++ (be4 p ++ (be4 N ++ x))).length = jn at *
        go_wp2_with fail
        refine HS.out.mono ?_
        rintro e w8 ⟨rfl, rfl⟩
        go_wp2_with fail
        refine (HM4.out w7 HB7.out).mono ?_
        rintro e w8 ⟨rfl, k8', rfl⟩
        have HB8 := Lib.hid (below_drewN HB7.out k8')
        have HR8 := Lib.hid (HR7.out.old (below_drewN (Below.refl w7.heap.size w7) k8'))
        generalize w7.drewN k8' = w8 at *
        rcases HFin.out with ⟨hMT, hno⟩ | ⟨hMT, hyes⟩
        · have e3 := int_ne (Ne.symm hMT)
          have HE := Lib.hid (HC.out p rs' HI.out.ch hno)
          clear hMT hno HFin
          go_wp2
          go_ret2
          rw [HE.out.1]
          exact ⟨A8, c8, rfl, HE.out.1 ▸ HR8.out, HB8.out⟩
        · subst hMT
          have HCH := Lib.hid (HI.out.ch.snoc hyes)
          clear hyes HFin
          have HO : Hid ((w8.alloc (.cells #[] 5)).ownsRow w8.heap.size 5 1 (.slice (some ⟨w8.heap.size, 0, none⟩) 0 0) ([] : List Nat).length (vals .u8 [])) := Lib.hid (empty_own w8)
          have HRb : Hid (RdB (w8.alloc (.cells #[] 5)) (w8.alloc (.cells #[] 5)).heap.size (some ⟨qb, a9, none⟩) (ns x)) := Lib.hid (((HRx.out w8 HB8.out).rdb.below ((Below.refl _ _).alloc (Nat.le_refl _) _)).more (by simp))
          have HRB8 : Hid (∀ k, (Value.slice A8 rs'.length c8).ownBlock = some k → k < w8.heap.size) := Lib.hid (by
            obtain ⟨xs, h5, _⟩ := HR8.out.ex
            exact fun k e => (h5.lt k e).2)
          have HCnt := Lib.hid HI.out.ch.count
          go_wp2_with (first
            | (at_builtin; refine wpList_append_bytes rfl _ _ rfl w8.heap.size _ [] rfl HO.out (some ⟨qb, a9, none⟩) (n - a9) (ns x) (show Value.slice (some ⟨qb, a9, none⟩) N (n - a9) = .slice (some ⟨qb, a9, none⟩) (ns x).length (n - a9) by rw [ns_length, HXl.out]) (fun h => by cases h) HRb.out (by rw [ns_length, List.length_nil, Nat.zero_add, HXl.out]; have := HN6.out; omega) (by simp) ?_; intro v9 w9 hown9 hgrow9 _; obtain ⟨pb, cb, rfl, hpay9, hb9⟩ := own_pay (S := fun k => w.heap.size ≤ k) (rb := (Value.slice A8 rs'.length c8).ownBlock) (by rw [HXl.out]; exact HN6.out.1) (by rw [HXl.out]; exact HN6.out.2) hown9 hgrow9 (fun k hk => Nat.le_trans HB8.out.size hk) HRB8.out; have HPay9 := Lib.hid hpay9; have HB9 := Lib.hid (HB8.out.trans (hb9.mono HB8.out.size)); have HR9 := Lib.hid (HR8.out.old hb9); obtain ⟨xs, ho9, hxs9⟩ := HR9.out.ex; have HO9a := Lib.hid ho9; have HX9 := Lib.hid hxs9; have HO9 := Lib.hid (ho9.alloc (.cells #[Value.slice (some ⟨pb, 0, none⟩) x.length cb] 33)); have HNb := Lib.hid (Blk.new w9 33 _ _ (show #[Value.slice (some ⟨pb, 0, none⟩) x.length cb] = _ from rfl)); clear hown9 hgrow9 hpay9 hb9 ho9 hxs9)
            | (at_builtin; refine wpList_append_at rfl _ _ 32 rfl 0 33 1 24 _ Try.underlying32 infoRow rfl (by decide) (by decide) (.slice A8 rs'.length c8) rs'.length xs rfl HO9.out ⟨w9.heap.size, 0, none⟩ 1 1 [.slice (some ⟨pb, 0, none⟩) x.length cb] rfl rfl (fun j u hu => by rw [Addr.add_mid, Nat.zero_add, HNb.out.cell]; exact hu) (by intro u hu; rw [List.mem_singleton.1 hu]; rfl) (by have := HCnt.out; have := HSTN.out; have := HL.out; have := HPN.out; omega) (Nat.zero_le _) (by decide) ?_; intro v10 w10 HO10 HG10 HW10))
          have hkp10 : Below w.heap.size w w10 := by
            refine (HB9.out.alloc HB9.out.size (.cells #[Value.slice (some ⟨pb, 0, none⟩) x.length cb] 33)).grown HG10.out (by have := HB9.out.size; simp; omega) (fun j hj => HR9.out.own j hj)
          have HR10 := Lib.hid ((recs_snoc HO9a.out HX9.out HR9.out.own HPay9.out _ HO10.out HG10.out HW10.out).more (S' := fun k => w.heap.size ≤ k) (fun k hk => by rcases hk with hk | hk; exact hk; exact Nat.le_trans HB9.out.size hk.1))
          have HB10 := Lib.hid hkp10
          clear hkp10
          go_roundw
          case rel =>
            refine ⟨pN, rs' ++ [x], by go_num, ?_, HR10.out, HB10.out⟩
            have := HCH.out
            rwa [HXl.out, HT9.out, HPN.out.1] at this
          case measure =>
            have := HPN.out.2
            have := HPn2.out
            simp [intOf]
            omega
      · have hno : payAt h g p = none := by
          rcases hways with ⟨_, c⟩ | ⟨_, _, c⟩ | ⟨_, _, _, _, c⟩ | ⟨_, _, _, _, c⟩ | ⟨_, _, _, c, _⟩ | ⟨_, _, _, c, _⟩
          · exact c
          · exact c
          · exact c
          · exact c
          · exact absurd c hm
          · exact absurd c hm
        have HE := Lib.hid (HC.out p rs' HI.out.ch hno)
        have e1 : (((m.toNat : Nat) : Int) != 1) = true := u8_ne hm
        clear hways hno h9 h9' hr ha hp9 hpz hbad hNl hsh hpN hNN hm
        go_wp2_with fail
        refine HNm.out.mono ?_
        rintro e w3 ⟨rfl, k3, rfl⟩
        have HB3 := Lib.hid (below_drewN HI.out.bel k3)
        have HR3 := Lib.hid (HI.out.recs.old (below_drewN (Below.refl wr.heap.size wr) k3))
        generalize wr.drewN k3 = w3 at *
        have hc8 := HC8.out w3 HB3.out
        go_wp2
        go_ret2
        rw [HE.out.1]
        exact ⟨A8, c8, rfl, HE.out.1 ▸ HR3.out, HB3.out⟩
end Go.Proofs.Ytaoaegkfejlgkaa.Dsk
