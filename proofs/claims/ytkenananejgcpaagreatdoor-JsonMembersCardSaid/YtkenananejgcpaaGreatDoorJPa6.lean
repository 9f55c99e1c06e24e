/-
  elements: what stands between brackets, whatever the function that reads one of them does.
-/
import Derived.Test.YtkenananejgcpaaGreatDoorJPa5
namespace Go.Proofs.YtkenananejgcpaaGreatDoor.Jsn
open Go.RowKit Txt
theorem ps_cell {w : World} {pp : Nat} {t : List UInt8} {a r : Nat} (h : Ps w pp t a r) (x : Addr) (hx : x.block = pp) {v : Value} (hv : w.cell? x = some v) : (x.off = 0 ∧ v = .string (mk t)) ∨ (x.off = 1 ∧ v = .int .i64 a) ∨ (x.off = 2 ∧ v = .int .i64 r) := by
  unfold Ps at h
  unfold World.cell? at hv
  rw [hx, h] at hv
  obtain ⟨bk, off, sp⟩ := x
  cases sp with
  | some s => simp at hv
  | none =>
    simp only at hv
    match off, hv with
    | 0, hv => left; exact ⟨rfl, by simpa using hv.symm⟩
    | 1, hv => right; left; exact ⟨rfl, by simpa using hv.symm⟩
    | 2, hv => right; right; exact ⟨rfl, by simpa using hv.symm⟩
    | n + 3, hv => simp at hv
theorem add_off (x : Addr) (n : Nat) (hn : n ≠ 0) : (x.add n).off = x.off + n := by unfold Addr.add; rw [if_neg hn]
/-- No value lies in the parser. -/
theorem Reads.away {w : World} {pp : Nat} {t : List UInt8} {a r : Nat} (h : Ps w pp t a r) {x : Addr} {v : V} (hr : Reads w x v) : x.block ≠ pp := by
  intro hx
  cases hr with
  | mk _ k y tx l m A ca B cb c0 c1 c2 c3 c4 hA hB hl hn hm =>
    rcases ps_cell h x hx c0 with ⟨_, e⟩ | ⟨o, _⟩ | ⟨o, _⟩
    · cases e
    · rcases ps_cell h (x.add 1) (by rw [block_add]; exact hx) c1 with ⟨_, e⟩ | ⟨_, e⟩ | ⟨_, e⟩ <;> cases e
    · rcases ps_cell h (x.add 1) (by rw [block_add]; exact hx) c1 with ⟨_, e⟩ | ⟨_, e⟩ | ⟨_, e⟩ <;> cases e
theorem Reads.keepG {w w' : World} {pp : Nat} {t : List UInt8} {a r : Nat} (h : Ps w pp t a r) (hg : G pp w w') {x : Addr} {v : V} (hr : Reads w x v) : Reads w' x v := by
  have hc : ∀ {y : Addr} {u : Value}, y.block ≠ pp → w.cell? y = some u → w'.cell? y = some u := fun {y u} hy hu => (World.cell?_of_block (hg.block _ (lt_cell hu) (fun e => hy (by injection e)))).trans hu
  induction hr with
  | mk x k y tx l m A ca B cb c0 c1 c2 c3 c4 hA hB hl hn hm ihl ihm =>
    have hx : x.block ≠ pp := Reads.away h (.mk x k y tx l m A ca B cb c0 c1 c2 c3 c4 hA hB hl hn hm)
    have hxa : ∀ n, (x.add n).block ≠ pp := fun n => by rw [block_add]; exact hx
    refine .mk x k y tx l m A ca B cb (hc hx c0) (hc (hxa 1) c1) (hc (hxa 2) c2) (hc (hxa 3) c3) (hc (hxa 4) c4) hA hB ihl (fun i z hz => hc ?_ (hn i z hz)) ihm
    have := Reads.away h (hm i z hz)
    rw [block_add] at this ⊢
    exact this
theorem Holds.keepG {w w' : World} {pp : Nat} {t : List UInt8} {a r : Nat} (h : Ps w pp t a r) (hg : G pp w w') {val : Value} {v : V} (hv : Holds w val v) : Holds w' val v := by
  obtain ⟨A, ca, B, cb, e, h1, h2, h3, h4, h5⟩ := hv
  have hc : ∀ {y : Addr} {u : Value}, y.block ≠ pp → w.cell? y = some u → w'.cell? y = some u := fun {y u} hy hu => (World.cell?_of_block (hg.block _ (lt_cell hu) (fun e => hy (by injection e)))).trans hu
  refine ⟨A, ca, B, cb, e, h1, h2, fun i x hx => (h3 i x hx).keepG h hg, fun i x hx => hc ?_ (h4 i x hx), fun i x hx => (h5 i x hx).keepG h hg⟩
  have := Reads.away h (h5 i x hx)
  rw [block_add] at this ⊢
  exact this
/-- Where what stands between brackets lies: n of them, the first behind s0. -/
structure Elems (t : List UInt8) (cl : UInt8) (a n : Nat) (p q s : Nat → Nat) (b : Nat) : Prop where
  room : a < t.length
  first : Skips t (a + 1) (p 0)
  none : n = 0 → nb t (p 0) = cl ∧ p 0 < t.length ∧ b = p 0 + 1
  some : 0 < n → nb t (p 0) ≠ cl
  skip : ∀ k, k < n → Skips t (q k) (s k)
  more : ∀ k, k + 1 < n → (nb t (s k)).toNat = 44 ∧ s k < t.length ∧ Skips t (s k + 1) (p (k + 1))
  last : 0 < n → nb t (s (n - 1)) = cl ∧ s (n - 1) < t.length ∧ b = s (n - 1) + 1
set_option maxRecDepth 100000
set_option maxHeartbeats 4000000 in
theorem elements_any (pp : Nat) (t : List UInt8) (a r n b : Nat) (p q s : Nat → Nat) (cl : UInt8) (cf : Nat) (caps : Array Value) (S : Nat → World → Prop) (w : World) (h : Ps w pp t a (r + 1)) (hr : r ≤ 100000) (hcl : cl.toNat ≠ 44) (hl : t.length ≤ 100000) (he : Elems t cl a n p q s b)
    (ecf : ∀ args w, (callFunc cf args).run Tryz.prog w = .ok (.enter cf args) w)
    (hS : ∀ k w w' x rm, S k w → Ps w pp t x rm → G pp w w' → S k w') (h0 : S 0 w)
    (hel : ∀ k w, k < n → S k w → Ps w pp t (p k) r → Calls Tryz.prog cf caps w fun e w' => e = .returned (.tuple #[]) ∧ S (k + 1) w' ∧ Ps w' pp t (q k) r) :
    Calls Tryz.prog 97 #[.pointer (some ⟨pp, 0, none⟩), .int .u8 (cl.toNat : Nat), .func (.func cf) #[] caps] w fun e w' => e = .returned (.tuple #[]) ∧ S n w' ∧ Ps w' pp t b (r + 1) := by
  obtain ⟨c0, c1, c2, f1, f2⟩ := h.cells
  have har := he.room
  obtain ⟨w2, hw2⟩ : ∃ w2, w2 = (w.setCell ⟨pp, 2, none⟩ (.int .i64 (r : Int))).setCell ⟨pp, 1, none⟩ (.int .i64 ((a : Int) + 1)) := ⟨_, rfl⟩
  have hp2 : Ps w2 pp t (a + 1) r := by rw [hw2]; exact (h.set2 r).set1 (a + 1)
  have hg2 : G pp w w2 := by rw [hw2]; exact (put2 pp _).trans (put1 pp _)
  have HS2 := Lib.hid (hS 0 w w2 _ _ h0 h hg2)
  have HK2 := Lib.hid (skip_any pp t (a + 1) (p 0) r w2 hp2 he.first hl)
  have HP2 := Lib.hid hp2
  have c2' : w.cell? ⟨pp, 2, none⟩ = some (.int .i64 ((r : Int) + 1)) := c2
  have n0 : (((r : Int) + 1) == 0) = false := by rw [beq_eq_false_iff_ne]; omega
  have HH := Lib.hid (show r ≤ 100000 ∧ t.length ≤ 100000 ∧ cl.toNat ≠ 44 from ⟨hr, hl, hcl⟩)
  have HEL := Lib.hid he
  have HS := Lib.hid hS
  have HC := Lib.hid hel
  have d1 : (w.setCell ⟨pp, 2, none⟩ (.int .i64 (r : Int))).cell? ⟨pp, 1, none⟩ = some (.int .i64 (a : Int)) := (h.set2 r).cells.2.1
  have df : (w.setCell ⟨pp, 2, none⟩ (.int .i64 (r : Int))).frozen? ⟨pp, 1, none⟩ = false := (h.set2 r).cells.2.2.2.1
  have w8 := wrap64i (n := (r : Int)) (by omega) (by omega)
  have w9 := wrap64i (n := (r : Int) + 1) (by omega) (by omega)
  have w6 := wrap64i (n := (a : Int) + 1) (by omega) (by omega)
  clear h h0 hp2 hg2 hel hS he har hl hr hcl c2
  go_enter Tryz.func97, Tryz.ntmps97
  go_wp2_with fail
  rw [← hw2]
  clear hw2 c0 c1 c2' f1 f2 d1 df n0 w8 w6
  refine HK2.out.mono ?_
  rintro e w3 ⟨rfl, hp3, hg3⟩
  have HS3 := Lib.hid (HS.out 0 w2 w3 _ _ HS2.out HP2.out hg3)
  have HP3 := Lib.hid hp3
  have HN3 := Lib.hid (next_any pp t (p 0) r w3 hp3 HEL.out.first.2.1)
  clear hp3 hg3 HK2 HS2 HP2
  -- the end: the closing bracket
  have HEND : Hid (∀ (c : Nat) (wq : World), S n wq → Ps wq pp t c r → nb t c = cl → c < t.length → Calls Tryz.prog 94 #[.pointer (some ⟨pp, 0, none⟩), .int .u8 (cl.toNat : Nat)] wq fun e w' => e = .returned (.tuple #[]) ∧ Ps w' pp t (c + 1) r ∧ S n w') := Lib.hid (fun c wq h1 h2 h3 h4 => by
    refine (take_any pp t c r cl wq h2 h4 h3 HH.out.2.1).mono ?_
    rintro e w' ⟨rfl, h5, h6⟩
    exact ⟨rfl, h5, HS.out n wq w' _ _ h1 h2 h6⟩)
  by_cases hn : n = 0
  · subst hn
    obtain ⟨e1, e2, e3⟩ := HEL.out.none rfl
    rw [e1] at HN3
    have ne : (((cl.toNat : Int)) != ((cl.toNat : Int))) = false := by simp
    have HE := Lib.hid (show nb t (p 0) = cl ∧ p 0 < t.length ∧ b = p 0 + 1 from ⟨e1, e2, e3⟩)
    clear e1 e2 e3
    go_wp2_with fail
    refine HN3.out.mono ?_
    rintro e w4 ⟨rfl, hp4, hg4⟩
    have HT := Lib.hid (HEND.out (p 0) w4 (HS.out 0 w3 w4 _ _ HS3.out HP3.out hg4) hp4 HE.out.1 HE.out.2.1)
    clear hp4 hg4 HN3
    go_wp2_with fail
    refine HT.out.mono ?_
    rintro e w5 ⟨rfl, hp5, hs5⟩
    obtain ⟨-, -, k2, -, g2⟩ := hp5.cells
    have HF : Hid (Ps (w5.setCell ⟨pp, 2, none⟩ (.int .i64 ((r : Int) + 1))) pp t b (r + 1) ∧ S 0 (w5.setCell ⟨pp, 2, none⟩ (.int .i64 ((r : Int) + 1)))) := Lib.hid (by
      rw [HE.out.2.2]
      exact ⟨hp5.set2 (r + 1), HS.out 0 w5 _ _ _ hs5 hp5 (put2 pp _)⟩)
    clear hp5 hs5 HT
    go_wp2
    go_end0
    exact ⟨rfl, HF.out.2, HF.out.1⟩
  · have hn0 : 0 < n := by omega
    have e1 := HEL.out.some hn0
    have ne : ((((nb t (p 0)).toNat : Int)) != ((cl.toNat : Int))) = true := by
      rw [bne_iff_ne]
      intro e
      exact e1 (UInt8.toNat.inj (by omega))
    clear e1
    go_wp2_with fail
    refine HN3.out.mono ?_
    rintro e w4 ⟨rfl, hp4, hg4⟩
    have HC0 := Lib.hid (HC.out 0 w4 hn0 (HS.out 0 w3 w4 _ _ HS3.out HP3.out hg4) hp4)
    clear hp4 hg4 HN3 HS3 HP3
    go_wp2_with fail
    refine HC0.out.mono ?_
    rintro e w5 ⟨rfl, hs5, hp5⟩
    have HK5 := Lib.hid (skip_any pp t (q 0) (s 0) r w5 hp5 (HEL.out.skip 0 hn0) HH.out.2.1)
    have HS5 := Lib.hid hs5
    have HP5 := Lib.hid hp5
    clear hs5 hp5 HC0
    go_wp2_with fail
    refine HK5.out.mono ?_
    rintro e w6 ⟨rfl, hp6, hg6⟩
    have HS6 := Lib.hid (HS.out 1 w5 w6 _ _ HS5.out HP5.out hg6)
    have HP6 := Lib.hid hp6
    clear hp6 hg6 HK5 HS5 HP5 ne
    go_wp2
    go_loopg [42] (n - 1) (fun k _ wr => ∃ m : Nat, m < n ∧ k = n - 1 - m ∧ S (m + 1) wr ∧ Ps wr pp t (s m) r)
    case atStart => exact ⟨0, hn0, rfl, HS6.out, HP6.out⟩
    case round =>
      obtain ⟨m, hm, hk, hsm, hpm⟩ := hrel
      have hsk := (HEL.out.skip m hm).2.1
      have HN := Lib.hid (next_any pp t (s m) r wr hpm hsk)
      have HSM := Lib.hid hsm
      have HPM := Lib.hid hpm
      clear hsm hpm HS6 HP6
      by_cases hlast : m + 1 = n
      · obtain ⟨e1, e2, e3⟩ := HEL.out.last hn0
        have hmm : n - 1 = m := by omega
        rw [hmm] at e1 e2 e3
        rw [e1] at HN
        have ne : ((cl.toNat : Int) == 44) = false := by rw [beq_eq_false_iff_ne]; have := HH.out.2.2; omega
        have HE := Lib.hid (show nb t (s m) = cl ∧ s m < t.length ∧ b = s m + 1 ∧ m + 1 = n from ⟨e1, e2, e3, hlast⟩)
        clear e1 e2 e3 hmm hlast hsk hk hm hn hn0
        go_wp2_with fail
        refine HN.out.mono ?_
        rintro e w7 ⟨rfl, hp7, hg7⟩
        have HT := Lib.hid (HEND.out (s m) w7 (by rw [← HE.out.2.2.2]; exact HS.out (m + 1) wr w7 _ _ HSM.out HPM.out hg7) hp7 HE.out.1 HE.out.2.1)
        clear hp7 hg7 HN HSM HPM
        go_wp2_with fail
        refine HT.out.mono ?_
        rintro e w8 ⟨rfl, hp8, hs8⟩
        obtain ⟨-, -, k2, -, g2⟩ := hp8.cells
        have HF : Hid (Ps (w8.setCell ⟨pp, 2, none⟩ (.int .i64 ((r : Int) + 1))) pp t b (r + 1) ∧ S n (w8.setCell ⟨pp, 2, none⟩ (.int .i64 ((r : Int) + 1)))) := Lib.hid (by
          rw [HE.out.2.2.1]
          exact ⟨hp8.set2 (r + 1), HS.out n w8 _ _ _ hs8 hp8 (put2 pp _)⟩)
        clear hp8 hs8 HT
        go_wp2
        go_end0
        exact ⟨rfl, HF.out.2, HF.out.1⟩
      · obtain ⟨e1, e2, e3⟩ := HEL.out.more m (by omega)
        have hnn : m + 1 < n := by omega
        rw [e1] at HN
        have hlim := HH.out.2.1
        have hc2 : (0 : Int) ≤ (s m : Int) + 1 ∧ (s m : Int) + 1 ≤ 10000000 := by omega
        have HM := Lib.hid (show m + 1 < n ∧ gk = n - 1 - m from ⟨hnn, hk⟩)
        have HE3 := Lib.hid e3
        clear e1 e2 e3 hlast hsk hk hm hn hn0 hnn hlim
        have w6' := wrap64i hc2.1 hc2.2
        clear hc2
        go_wp2_with fail
        refine HN.out.mono ?_
        rintro e w7 ⟨rfl, hp7, hg7⟩
        obtain ⟨-, d1, -, f1, -⟩ := hp7.cells
        have HS7 := Lib.hid (HS.out (m + 1) wr w7 _ _ HSM.out HPM.out hg7)
        obtain ⟨wb, hwb⟩ : ∃ wb, wb = w7.setCell ⟨pp, 1, none⟩ (.int .i64 ((s m : Int) + 1)) := ⟨_, rfl⟩
        have hpb : Ps wb pp t (s m + 1) r := by rw [hwb]; exact hp7.set1 (s m + 1)
        have HSb := Lib.hid (HS.out (m + 1) w7 wb _ _ HS7.out hp7 (by rw [hwb]; exact put1 pp _))
        have HPb := Lib.hid hpb
        have HKb := Lib.hid (skip_any pp t (s m + 1) (p (m + 1)) r wb hpb HE3.out HH.out.2.1)
        clear hp7 hg7 HN HSM HPM HS7 hpb
        go_wp2_with fail
        rw [← hwb]
        clear hwb d1 f1
        refine HKb.out.mono ?_
        rintro e w8 ⟨rfl, hp8, hg8⟩
        have HC8 := Lib.hid (HC.out (m + 1) w8 HM.out.1 (HS.out (m + 1) wb w8 _ _ HSb.out HPb.out hg8) hp8)
        clear hp8 hg8 HKb HSb HPb
        go_wp2_with fail
        refine HC8.out.mono ?_
        rintro e w9 ⟨rfl, hs9, hp9⟩
        have HK9 := Lib.hid (skip_any pp t (q (m + 1)) (s (m + 1)) r w9 hp9 (HEL.out.skip (m + 1) HM.out.1) HH.out.2.1)
        have HS9 := Lib.hid hs9
        have HP9 := Lib.hid hp9
        clear hs9 hp9 HC8
        go_wp2_with fail
        refine HK9.out.mono ?_
        rintro e wa ⟨rfl, hpa, hga⟩
        have HSa := Lib.hid (HS.out (m + 1 + 1) w9 wa _ _ HS9.out HP9.out hga)
        have HPa := Lib.hid hpa
        clear hpa hga HK9 HS9 HP9
        go_wp2
        go_roundg (n - 1 - (m + 1))
        case measure => have := HM.out; omega
        case rel => exact ⟨m + 1, HM.out.1, rfl, HSa.out, HPa.out⟩
end Go.Proofs.YtkenananejgcpaaGreatDoor.Jsn
