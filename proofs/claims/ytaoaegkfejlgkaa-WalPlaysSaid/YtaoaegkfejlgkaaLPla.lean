/-
  The walk of the statement WalPlays: whatever the play it returns true, and nothing that was there before has changed.
-/
import Derived.Test.YtaoaegkfejlgkaaP3
import Derived.Deep.QuietTactic
import Derived.BigQuiet
import Derived.Deep.RegionLaw
import Derived.OwnWalk
import Derived.Deep.CutRange
import Derived.Deep.CutBlock
namespace Go.Proofs.Ytaoaegkfejlgkaa.Dsk
open Go.RowKit
set_option maxRecDepth 100000 in
set_option maxHeartbeats 4000000 in
theorem plays_none (w : World) (size : Int) (A : Option Addr) (k : Nat) (os : List OpW) (h : size < 1024 ∨ 3000 < size) :
    Calls Try.prog 3 #[.int .i64 size, .slice A os.length k] w fun e w' => e = .returned (.bool true) ∧ Below w.heap.size w w' := by
  have hx : size < 1024 ∨ (¬ size < 1024 ∧ 3000 < size) := by omega
  clear h
  rcases hx with h1 | ⟨h1, h2⟩
  all_goals
    go_enter Try.func3, Try.ntmps3
    go_wp2_with fail
    with_reducible refine (anchor_any w).mono ?_
    rintro e w1 ⟨rfl, hb1⟩
    have HB1 := Lib.hid hb1
    clear hb1
    go_wp2
    go_ret
    exact ⟨rfl, HB1.out⟩
set_option maxRecDepth 100000
set_option maxHeartbeats 40000000 in
theorem plays_ok (w : World) (size : Nat) (A : Option Addr) (k : Nat) (os : List OpW) (hO : RdOps w w.heap.size A os) (hn : os.length ≤ maxLen) (h1 : 1024 ≤ size) (h2 : size ≤ 3000) :
    Calls Try.prog 3 #[.int .i64 (size : Int), .slice A os.length k] w fun e w' => e = .returned (.bool true) ∧ Below w.heap.size w w' := by
  obtain ⟨N, hN⟩ : ∃ N, N = os.length := ⟨_, rfl⟩
  have HN := Lib.hid hN
  have HO := Lib.hid hO
  have HMi := Lib.hid (fun W (hW : Below w.heap.size w W) => wmild_any W A k os (fun j o hj => by
    obtain ⟨ad, e1, e2, ⟨s0, s1, s2, s3, s4, s5, s6⟩, e4⟩ := (hO.below hW) j o hj
    have hz := hW.size
    exact ⟨ad, e1, by omega, ⟨s0, s1, s2, s3, s4, s5.more (fun q (hq : q < w.heap.size) => show q < W.heap.size by omega), s6.more (fun q (hq : q < w.heap.size) => show q < W.heap.size by omega)⟩, e4⟩) hn)
  have HSZ := Lib.hid (⟨h1, h2⟩ : 1024 ≤ size ∧ size ≤ 3000)
  have x1 : ¬ (size : Int) < 1024 := by omega
  have x2 : ¬ (3000 : Int) < size := by omega
  rw [← hN] at HMi ⊢
  clear hO hn h1 h2 hN
  go_enter Try.func3, Try.ntmps3
  go_wp2_with fail
  with_reducible refine (anchor_any w).mono ?_
  rintro e w1 ⟨rfl, hb1⟩
  have HB1 := Lib.hid hb1
  clear hb1
  go_wp2_with fail
  with_reducible refine (HMi.out w1 HB1.out).mono ?_
  rintro e wa ⟨b, rfl, hm, hba⟩
  have HBa := Lib.hid (HB1.out.trans (hba.mono HB1.out.size))
  cases b with
  | false =>
    clear hm hba HB1
    go_wp2
    go_ret
    exact ⟨rfl, HBa.out⟩
  | true =>
    have HM := Lib.hid (hm rfl)
    clear hm hba HB1 HMi
    go_wp2_with fail
    refine (new_ok wa size (by have := HSZ.out; omega) (by have := HSZ.out; omega)).mono ?_
    rintro e w2 ⟨rfl, h2, hb2, hz2⟩
    obtain ⟨d, hd⟩ : ∃ d, d = wa.heap.size + 1 := ⟨_, rfl⟩
    obtain ⟨g0, hg0⟩ : ∃ g0, g0 = wa.heap.size := ⟨_, rfl⟩
    rw [← hg0, show g0 + 1 = d by omega] at h2
    have H2 := Lib.hid h2
    have HB2 := Lib.hid (HBa.out.trans (hb2.mono HBa.out.size))
    have HDG : Hid (w.heap.size ≤ d ∧ w.heap.size ≤ g0 ∧ d < w2.heap.size ∧ g0 < w2.heap.size) := Lib.hid (by have := HBa.out.size; omega)
    rw [← hd]
    clear h2 hb2 hz2 hd hg0 HBa
    go_wp2_with fail
    refine (open_new w2 d g0 size H2.out (by have := HSZ.out; omega) (by have := HSZ.out; omega)).mono ?_
    rintro e w3 ⟨lb, s, rfl, hlb, hb3, hset, hw3⟩
    have HI : Hid (PlI w d g0 size 0 lb (.slice none 0 0) (.slice none 0 0) [] [] false w3) := Lib.hid (by
      have h1 := HB2.out.size
      refine ⟨_, ⟨⟨none, 0, rfl, fun _ => rfl, fun i x hi => by simp at hi⟩, ⟨none, 0, rfl, fun _ => rfl, fun i x hi => by simp at hi⟩, (fun x hx => by cases hx), by simp, by simp, fun j e => Nat.le_trans h1 e.1, by omega, HDG.out.1, HDG.out.2.1, HB2.out.trans (hb3.below h1 HDG.out.1 HDG.out.2.1)⟩, s, _, .inl ⟨rfl, hw3.mono (by omega), rfl⟩⟩)
    clear hlb hb3 hset hw3 H2 HB2
    go_wp2
    go_loopw [7, 9, 10, 11, 48] (fun l wv mv cv i wr => ∃ (k lb : Nat) (want may : List (List UInt8)) (cut : Bool), k ≤ N ∧ i = .int .i64 (k : Int) ∧ l = .pointer (some ⟨lb, 0, none⟩) ∧ cv = .bool cut ∧ PlI w d g0 size k lb wv mv want may cut wr) (fun _ _ _ _ i _ => N - (intOf i).toNat)
    case atStart => exact ⟨0, lb, [], [], false, Nat.zero_le _, rfl, rfl, rfl, HI.out⟩
    case round =>
      clear HI
      obtain ⟨k, lb, want, may, cut, hk, rfl, rfl, rfl, hinv⟩ := hrel
      obtain ⟨S, hbs, s, c, hways⟩ := hinv
      have HBS := Lib.hid hbs
      have HWY := Lib.hid hways
      clear hbs hways
      obtain ⟨Aw, cw, hwv, hcw, hrw⟩ := HBS.out.wl
      obtain ⟨Am, cm, hmv, hcm, hrm⟩ := HBS.out.ml
      subst hwv hmv
      obtain ⟨nw, hnw⟩ : ∃ nw, nw = want.length := ⟨_, rfl⟩
      obtain ⟨nm, hnm⟩ : ∃ nm, nm = may.length := ⟨_, rfl⟩
      have HNW := Lib.hid hnw
      have HNM := Lib.hid hnm
      have HRW := Lib.hid hrw
      have HRM := Lib.hid hrm
      have HCW := Lib.hid hcw
      rw [← hnw, ← hnm] at HBS
      rw [← hnw, ← hnm]
      clear hrw hrm hcw hcm hnw hnm
      by_cases hlt : k < N
      · obtain ⟨o, ho⟩ : ∃ o, os[k]? = some o := ⟨_, List.getElem?_eq_getElem (by have := HN.out; omega)⟩
        obtain ⟨ad, rfl, had, ⟨s0, s1, s2, s3, s4, s5, s6⟩, hf⟩ := (HO.out.below HBS.out.bel) k o ho
        have HMl := Lib.hid (HM.out.2 o (List.mem_of_getElem? ho))
        have HK : Hid (k < N ∧ N ≤ 40) := Lib.hid ⟨hlt, by have := HM.out.1; have := HN.out; omega⟩
        have hjN : (k : Int) < N := by omega
        have q3 : IntKind.i64.wrap ((k : Int) + 1) = (k : Int) + 1 := by rw [IntKind.wrap_i64]; have := HK.out; omega
        obtain ⟨oA, hoA⟩ : ∃ oA, oA = o.A := ⟨_, rfl⟩
        obtain ⟨oC, hoC⟩ : ∃ oC, oC = o.C := ⟨_, rfl⟩
        obtain ⟨oc, hoc⟩ : ∃ oc, oc = o.c := ⟨_, rfl⟩
        obtain ⟨ok, hok⟩ : ∃ ok, ok = o.k := ⟨_, rfl⟩
        obtain ⟨l, hl⟩ : ∃ l, l = o.data.length := ⟨_, rfl⟩
        obtain ⟨m, hm⟩ : ∃ m, m = o.all.length := ⟨_, rfl⟩
        obtain ⟨kd, hkd⟩ : ∃ kd, kd = o.kind := ⟨_, rfl⟩
        obtain ⟨z1, hz1⟩ : ∃ z1, z1 = o.at' := ⟨_, rfl⟩
        obtain ⟨z2, hz2⟩ : ∃ z2, z2 = o.n := ⟨_, rfl⟩
        rw [← hkd] at s0
        rw [← hz1] at s1
        rw [← hz2] at s2
        rw [← hoA, ← hl, ← hoc] at s3
        rw [← hoC, ← hm, ← hok] at s4
        rw [← hoA] at s5
        rw [← hoC] at s6
        have HF := Lib.hid (⟨by rw [hoA, hoc]; exact hf.dn, by rw [hl, hoc]; exact hf.dc, by rw [hoC, hok]; exact hf.cn, by rw [hz1]; exact hf.a1.2⟩ : (oA = none → oc = 0) ∧ l ≤ oc ∧ (oC = none → ok = 0) ∧ z1 ≤ 9223372036854775807)
        have HL := Lib.hid hl
        have HMm := Lib.hid hm
        have HRD := Lib.hid s5
        have HRA := Lib.hid s6
        have hk0 := Blk.new wr 35 #[.int .i64 kd, .int .i64 z1, .int .i64 z2, .slice oA l oc, .slice oC m ok] _ rfl
        have hb0 : Below wr.heap.size wr (wr.alloc (.cells #[.int .i64 kd, .int .i64 z1, .int .i64 z2, .slice oA l oc, .slice oC m ok] 35)) := (Below.refl _ _).alloc (Nat.le_refl _) _
        have HSo := Lib.hid hb0
        obtain ⟨p, hp⟩ : ∃ p, p = wr.heap.size := ⟨_, rfl⟩
        rw [← hp] at hk0
        have HP := Lib.hid hp
        clear s5 s6 hf ho hlt hoA hoC hoc hok hl hm hkd hz1 hz2 hb0
        have HK0 := Lib.hid hk0
        clear hk0
        by_cases hkd : kd = 1 ∨ kd = 2 ∨ kd = 3 ∨ kd = 4
        · rcases hkd with rfl | rfl | rfl | rfl
          · rcases HWY.out with ⟨rfl, hw, hr⟩ | ⟨rfl, hsys, hwas, hdn, c', hhas, hc'⟩
            · as_aux_lemma =>
                have HLBp : Hid (d < wr.heap.size ∧ g0 < wr.heap.size ∧ lb < wr.heap.size) := Lib.hid ⟨hw.sys.dsk.blk.lt, hw.sys.dsk.row.lt, hw.sys.log.lt⟩
                have HW := Lib.hid hw.tight
                have HR := Lib.hid hr
                clear hw hr
                have hS1 : ∀ j, (S j ∧ j < wr.heap.size) → S j ∨ wr.heap.size ≤ j := fun j h => .inl h.1
                have HBT := Lib.hid (HBS.out.step (S' := fun j => S j ∧ j < wr.heap.size) (Kp.refl _ _) hS1)
                have hcells : ∀ W : World, Below (wr.alloc (.cells #[.int .i64 1, .int .i64 z1, .int .i64 z2, .slice oA l oc, .slice oC m ok] 35)).heap.size (wr.alloc (.cells #[.int .i64 1, .int .i64 z1, .int .i64 z2, .slice oA l oc, .slice oC m ok] 35)) W → W.cell? ⟨wr.heap.size, 0, none⟩ = some (.int .i64 1) ∧ W.cell? ⟨wr.heap.size, 1, none⟩ = some (.int .i64 z1) ∧ W.cell? ⟨wr.heap.size, 2, none⟩ = some (.int .i64 z2) ∧ W.cell? ⟨wr.heap.size, 3, none⟩ = some (.slice oA l oc) ∧ W.cell? ⟨wr.heap.size, 4, none⟩ = some (.slice oC m ok) := fun W hW => by
                  have hk := HK0.out.below hW (by have := HP.out; simp; omega)
                  rw [← HP.out]
                  exact ⟨hk.cell 0, hk.cell 1, hk.cell 2, hk.cell 3, hk.cell 4⟩
                have HCE := Lib.hid hcells
                clear hS1 hcells
                have HSrcW : Hid (∀ W, Below wr.heap.size wr W → SrcsP W (fun j => j < wr.heap.size ∧ j ≠ d ∧ j ≠ g0 ∧ j ≠ lb ∧ ¬ S j) Aw want) := Lib.hid (fun W hW => (HRW.out.keep (fun j hj _ => hW.block j hj.1) hW.size).srcsP)
                have HRDP : Hid (∀ W, Below wr.heap.size wr W → Rd W (fun j => j < wr.heap.size ∧ j ≠ d ∧ j ≠ g0 ∧ j ≠ lb ∧ ¬ S j) oA o.data) := Lib.hid (fun W hW => (HRD.out.below (hW.mono HBS.out.bel.size) (fun _ h => h)).more (fun j (hj : j < w.heap.size) => by
                  have h1 := HBS.out.bel.size
                  have h2 := HBS.out.dw
                  have h3 := HBS.out.gw
                  have h4 := HBS.out.lbw
                  exact ⟨by omega, by omega, by omega, by omega, fun e => by have := HBS.out.own j e; omega⟩))
                obtain ⟨w1, hw1⟩ : ∃ w1, w1 = (wr.alloc (.cells #[.int .i64 1, .int .i64 z1, .int .i64 z2, .slice oA l oc, .slice oC m ok] 35)) := ⟨_, rfl⟩
                have hz1' : w1.heap.size = wr.heap.size + 1 := by rw [hw1]; simp
                have HZ1 := Lib.hid hz1'
                rw [← hw1] at HCE HSo HK0
                obtain ⟨y0, y1, y2, y3, y4⟩ := HCE.out w1 (Below.refl _ _)
                have hPC : ∀ j, (j < wr.heap.size ∧ j ≠ d ∧ j ≠ g0 ∧ j ≠ lb ∧ ¬ S j) → j < w1.heap.size := fun j hj => by omega
                have HPC := Lib.hid hPC
                have hbE : Below wr.heap.size wr (w1.alloc (.cells #[] 33)) := HSo.out.alloc HSo.out.size _
                have hbO : Below wr.heap.size wr (w1.alloc (.cells #[.slice oA l oc] 33)) := HSo.out.alloc HSo.out.size _
                have HbE := Lib.hid hbE
                have e3 : (w1.alloc (.cells #[] 33)).cell? ⟨wr.heap.size, 3, none⟩ = some (.slice oA l oc) := (HCE.out _ ((Below.refl _ _).alloc (Nat.le_refl _) _)).2.2.2.1
                have e3d : (w1.alloc (.cells #[] 33)).drew.cell? ⟨wr.heap.size, 3, none⟩ = some (.slice oA l oc) := e3
                have y3d : w1.drew.cell? ⟨wr.heap.size, 3, none⟩ = some (.slice oA l oc) := y3
                have HbO := Lib.hid hbO
                have HWl : Hid (want.length ≤ 1000) := Lib.hid (by have := HBS.out.wlen; have := HK.out; omega)
                clear hPC hz1' hbE hbO
                go_upto_block 2 with fail
                rw [← hw1]
                clear hw1
                go_cut [7, 9, 11, 14, 48] from 48 to 188 (fun lv wv cv vv iv wx => lv = .pointer (some ⟨lb, 0, none⟩) ∧ wv = .slice Aw nw cw ∧ cv = .bool false ∧ iv = .int .i64 (k : Int) ∧ OwnP wx (fun j => j < wr.heap.size ∧ j ≠ d ∧ j ≠ g0 ∧ j ≠ lb ∧ ¬ S j) w1.heap.size vv (want ++ [o.data]) ∧ Below w1.heap.size w1 wx)
                case first =>
                  go_wp2
                  go_region_law (first
                    | (refine step_append_list (by rfl) (.tmp 56) (.tmp 57) (by rfl) (fun j => j < wr.heap.size ∧ j ≠ d ∧ j ≠ g0 ∧ j ≠ lb ∧ ¬ S j) w1.heap.size (.slice (some ⟨w1.heap.size, 0, none⟩) 0 0) [] want (by rfl) (own_list_at (heap_alloc_new w1 _) (by omega)) Aw cw (show Value.slice Aw nw cw = .slice Aw want.length cw by rw [HNW.out]) HCW.out (HSrcW.out _ (HSo.out.trans (((Below.refl w1.heap.size w1).alloc (Nat.le_refl _) _).drew.mono HSo.out.size))) HPC.out (by simp) (by have := HWl.out; simp; omega) ?_; intro v3 w3 HO3 HB3 HG3; rw [List.nil_append] at HO3; obtain ⟨A3, c3, rfl⟩ := HO3.out.form; have HB3' : Hid (Below w1.heap.size w1 w3) := Lib.hid (((Below.refl w1.heap.size w1).alloc (Nat.le_refl _) _).drew.trans HB3.out); obtain ⟨y0, y1, y2, y3, y4⟩ := HCE.out w3 HB3'.out)
                    | (refine step_append_list (by rfl) (.tmp 56) (.tmp 57) (by rfl) (fun j => j < wr.heap.size ∧ j ≠ d ∧ j ≠ g0 ∧ j ≠ lb ∧ ¬ S j) w1.heap.size (.slice (some ⟨w1.heap.size, 0, none⟩) 0 0) [] want (by rfl) (own_list_at (Blk.alloc (heap_alloc_new w1 _) _) (by omega)) Aw cw (show Value.slice Aw nw cw = .slice Aw want.length cw by rw [HNW.out]) HCW.out (HSrcW.out _ (HSo.out.trans ((((Below.refl w1.heap.size w1).alloc (Nat.le_refl _) _).alloc (by simp) _).drew.mono HSo.out.size))) HPC.out (by simp; omega) (by have := HWl.out; simp; omega) ?_; intro v3 w3 HO3 HB3 HG3; rw [List.nil_append] at HO3; obtain ⟨A3, c3, rfl⟩ := HO3.out.form; have HB3' : Hid (Below w1.heap.size w1 w3) := Lib.hid ((((Below.refl w1.heap.size w1).alloc (Nat.le_refl _) _).alloc (by simp) _).drew.trans HB3.out); obtain ⟨y0, y1, y2, y3, y4⟩ := HCE.out w3 HB3'.out; have HONE : Hid (Blk w3 (w1.heap.size + 1) 33 [.slice oA l oc]) := Lib.hid ((HG3.out.block _ (by simp) (fun e => by have e' : some (w1.heap.size + 1) = some w1.heap.size := e; injection e' with e'; omega)).trans (blk_second w1 _ _ [.slice oA l oc])))
                    | (refine step_append_list (by rfl) (.tmp 56) (.tmp 57) (by rfl) (fun j => j < wr.heap.size ∧ j ≠ d ∧ j ≠ g0 ∧ j ≠ lb ∧ ¬ S j) w1.heap.size (.slice (some ⟨w1.heap.size + 1, 0, none⟩) 0 0) [] want (by rfl) (own_list_at (blk_second w1 _ _ []) (by omega)) Aw cw (show Value.slice Aw nw cw = .slice Aw want.length cw by rw [HNW.out]) HCW.out (HSrcW.out _ (HSo.out.trans ((((Below.refl w1.heap.size w1).alloc (Nat.le_refl _) _).alloc (by simp) _).drew.mono HSo.out.size))) HPC.out (by simp; omega) (by have := HWl.out; simp; omega) ?_; intro v3 w3 HO3 HB3 HG3; rw [List.nil_append] at HO3; obtain ⟨A3, c3, rfl⟩ := HO3.out.form; have HB3' : Hid (Below w1.heap.size w1 w3) := Lib.hid ((((Below.refl w1.heap.size w1).alloc (Nat.le_refl _) _).alloc (by simp) _).drew.trans HB3.out); obtain ⟨y0, y1, y2, y3, y4⟩ := HCE.out w3 HB3'.out; have HONE : Hid (Blk w3 w1.heap.size 33 [.slice oA l oc]) := Lib.hid ((HG3.out.block _ (by simp; omega) (fun e => by have e' : some w1.heap.size = some (w1.heap.size + 1) := e; injection e' with e'; omega)).trans (Blk.alloc (heap_alloc_new w1 _) _)))
                    | (refine step_append_list (by rfl) (.tmp 58) (.tmp 61) (by rfl) (fun j => j < wr.heap.size ∧ j ≠ d ∧ j ≠ g0 ∧ j ≠ lb ∧ ¬ S j) w1.heap.size _ want [o.data] (by rfl) (HO3.out.old ((Below.refl _ _).alloc (Nat.le_refl _) _)) _ 1 (by rfl) (fun h => by cases h) (srcs_at HL.out (by have := HF.out.2.1; have := HL.out; omega) (HRDP.out _ ((HSo.out.trans (HB3'.out.mono HSo.out.size)).alloc (Nat.le_trans HSo.out.size HB3'.out.size) _)) (heap_alloc_new w3 _)) HPC.out (by have := HB3'.out.size; simp; omega) (by have := HWl.out; simp; omega) ?_; intro v2 w2 HO2 HB2 HG2; have HB32 : Hid (Below w1.heap.size w3 w2) := Lib.hid (Below.trans ((Below.refl w3.heap.size w3).alloc (Nat.le_refl _) _ |>.mono HB3'.out.size) HB2.out); clear HG2)
                    | (refine step_append_list (by rfl) (.tmp 58) (.tmp 61) (by rfl) (fun j => j < wr.heap.size ∧ j ≠ d ∧ j ≠ g0 ∧ j ≠ lb ∧ ¬ S j) w1.heap.size _ want [o.data] (by rfl) HO3.out _ 1 (by rfl) (fun h => by cases h) (srcs_at HL.out (by have := HF.out.2.1; have := HL.out; omega) (HRDP.out _ (HSo.out.trans (HB3'.out.mono HSo.out.size))) HONE.out) HPC.out HB3'.out.size (by have := HWl.out; simp; omega) ?_; intro v2 w2 HO2 HB2 HG2; have HB32 : Hid (Below w1.heap.size w3 w2) := Lib.hid (HB2.out); clear HG2)
                    | fail)
                  all_goals (try go_wp2_with fail)
                  all_goals go_meet
                  all_goals exact ⟨rfl, rfl, rfl, rfl, HO2.out, HB3'.out.trans HB32.out⟩
                case rest =>
                  obtain ⟨rfl, rfl, rfl, rfl, hO2, hB2⟩ := hcut
                  have HO2 := Lib.hid hO2
                  have HB2 := Lib.hid hB2
                  obtain ⟨w2, hw2⟩ : ∃ w2, w2 = wc := ⟨_, rfl⟩
                  subst hw2
                  clear hO2 hB2
                  obtain ⟨A2, c2, hv2, hc2⟩ := HO2.out.form2
                  subst hv2
                  obtain ⟨NX, hNX⟩ : ∃ NX, NX = want ++ [o.data] := ⟨_, rfl⟩
                  rw [← hNX] at HO2
                  rw [← hNX]
                  obtain ⟨n2, hn2⟩ : ∃ n2, n2 = NX.length := ⟨_, rfl⟩
                  have HN2 := Lib.hid hn2
                  have HNX := Lib.hid hNX
                  have HC2 := Lib.hid hc2
                  rw [← hn2] at HO2
                  rw [← hn2]
                  have HB12 : Hid (Below wr.heap.size wr w2) := Lib.hid (HSo.out.trans (HB2.out.mono HSo.out.size))
                  have HLX : Hid (Lst w2 d g0 lb (fun j => S j ∧ j < wr.heap.size) (.slice A2 n2 c2) NX) := Lib.hid ⟨A2, c2, by rw [hn2], hc2, ((HO2.out.rdl rfl).tight2).more (fun j hj => by
                    have h1 := HLBp.out
                    have h2 := HZ1.out
                    rcases hj with ⟨hj | hj, hj2⟩
                    · exact ⟨hj2, hj.2.1, hj.2.2.1, hj.2.2.2.1, fun e => hj.2.2.2.2 e.1⟩
                    · exact ⟨hj2, by omega, by omega, by omega, fun e => by have := e.2; omega⟩)⟩
                  have HNXb : Hid (NX.length ≤ 9 + k) := Lib.hid (by rw [hNX]; have := HBS.out.wlen; simp; omega)
                  have HNXo : Hid (Okp o.data → ∀ x ∈ NX, Okp x) := Lib.hid (fun h x hx => by
                    rw [hNX] at hx
                    rcases List.mem_append.1 hx with hx | hx
                    · exact HBS.out.wok x hx
                    · rw [List.mem_singleton] at hx
                      subst hx
                      exact h)
                  have hy : Blk w2 wr.heap.size 35 [.int .i64 1, .int .i64 z1, .int .i64 z2, .slice oA l oc, .slice oC m ok] := by
                    have := HK0.out.below HB2.out (by have := HP.out; have := HZ1.out; omega)
                    rw [HP.out] at this
                    exact this
                  have HY := Lib.hid hy
                  clear hy hn2 hNX hc2 HO2 HB2 HSrcW HRDP y0 y1 y2 y3 y4 e3 e3d y3d
                  obtain ⟨sz2, hsz2⟩ : ∃ sz2, sz2 = size / 2 := ⟨_, rfl⟩
                  have HS2 := Lib.hid hsz2
                  have qd1 : IntKind.i64.wrap (sz2 : Int) = (sz2 : Int) := by rw [IntKind.wrap_i64]; have := HSZ.out; omega
                  have qd2 : (size : Int) / 2 = (sz2 : Int) := by omega
                  have HBT2 := Lib.hid (HBT.out.old HB12.out)
                  have hcl : ∀ W : World, W.heap[wr.heap.size]? = w2.heap[wr.heap.size]? → W.cell? ⟨wr.heap.size, 0, none⟩ = some (.int .i64 1) ∧ W.cell? ⟨wr.heap.size, 1, none⟩ = some (.int .i64 z1) ∧ W.cell? ⟨wr.heap.size, 2, none⟩ = some (.int .i64 z2) ∧ W.cell? ⟨wr.heap.size, 3, none⟩ = some (.slice oA l oc) ∧ W.cell? ⟨wr.heap.size, 4, none⟩ = some (.slice oC m ok) := fun W hW => by
                    have hk : Blk W wr.heap.size 35 [.int .i64 1, .int .i64 z1, .int .i64 z2, .slice oA l oc, .slice oC m ok] := hW.trans HY.out
                    exact ⟨hk.cell 0, hk.cell 1, hk.cell 2, hk.cell 3, hk.cell 4⟩
                  have HCL := Lib.hid hcl
                  obtain ⟨y0, y1, y2, y3, y4⟩ := hcl w2 rfl
                  have HPl : Hid (wr.heap.size < w2.heap.size ∧ lb ≠ wr.heap.size) := Lib.hid ⟨HY.out.lt, by have := HLBp.out; omega⟩
                  clear hcl hsz2
                  obtain ⟨E0, hE0⟩ : ∃ E0, appErr sz2 (16 + tot want) l = E0 := ⟨_, rfl⟩
                  have HE0 := Lib.hid hE0
                  clear hE0
                  have HGen := Lib.hid (gen_log ((HW.out.old HB12.out).old ((Below.refl _ _).drew)))
                  have HTold : Hid (∀ W, Kp (fun j => j = lb) w2 W → Calls Try.prog 16 #[.slice Aw nw cw, .agg #[.int .i64 1, .int .i64 z1, .int .i64 z2, .slice oA l oc, .slice oC m ok], .int .i64 (sz2 : Int), .int .i64 (c.g : Int)] W fun e w' => e = .returned (.int .i64 E0) ∧ Below W.heap.size W w') := Lib.hid (fun W hW => by
                    have := told_one W _ Aw cw want (HBT2.out.step (hW.mono (fun _ _ e => .inr (.inr (.inl e)))) (fun _ h => .inl h)).lst.1 (by have := HBS.out.wlen; have := HK.out; omega) HBS.out.wok z1 z2 oA oC l oc m ok sz2 (c.g : Int) (by have := HMl.out.d; have := HL.out; omega)
                    rw [← HNW.out, HE0.out] at this
                    exact this)
                  go_upto_region 33 with fail
                  go_cut [17, 48] from 48 to 188 (fun ev iv wx => iv = .int .i64 (k : Int) ∧ ev = .int .i64 E0 ∧ ∃ w3, Well w3 d g0 lb (fun j => S j ∧ j < wr.heap.size) s c (10 + 6 * k) size ∧ Kp (fun j => j = lb) w2 w3 ∧ Below w3.heap.size w3 wx)
                  case first =>
                    go_region_law (first
                      | (go_simp; go_at_call 17; (with_reducible refine HGen.out.mono ?_); rintro e w3 ⟨rfl, hw3, hk3⟩; have HW3 := Lib.hid hw3; have HK3 : Hid (Kp (fun j => j = lb) w2 w3) := Lib.hid (((Kp.refl (fun j => j = lb) w2).drew).trans hk3 (fun _ _ h => h)); obtain ⟨u0, u1, u2, u3, u4⟩ := HCL.out w3 (HK3.out.block _ HPl.out.1 (fun e => HPl.out.2 e.symm)); have HTo := Lib.hid (HTold.out w3 HK3.out); clear hw3 hk3)
                      | (go_simp; go_at_call 16; (with_reducible refine HTo.out.mono ?_); rintro e w4 ⟨rfl, hb4⟩; have HB4 := Lib.hid hb4; clear hb4)
                      | fail)
                    all_goals (try go_wp2_with fail)
                    all_goals go_meet
                    all_goals exact ⟨rfl, rfl, w3, HW3.out, HK3.out, HB4.out⟩
                  case rest =>
                    obtain ⟨rfl, rfl, w3, hw3, hk3, hb4⟩ := hcut
                    obtain ⟨w4, hw4⟩ : ∃ w4, w4 = wc := ⟨_, rfl⟩
                    subst hw4
                    have HW3 := Lib.hid hw3
                    have HK3 := Lib.hid hk3
                    have HB4 := Lib.hid hb4
                    clear hw3 hk3 hb4
                    have HB24 := Lib.hid ((HK3.out.trans (Kp.old (S := fun j => j = lb) HB4.out) (fun _ _ h => h)))
                    have HBT4 := Lib.hid (HBT2.out.step (HB24.out.mono (fun _ _ e => .inr (.inr (.inl e)))) (fun _ h => .inl h))
                    obtain ⟨v0, v1, v3, v4, v5⟩ := HCL.out w4 (HB24.out.block _ HPl.out.1 (fun e => HPl.out.2 e.symm))
                    have HLX4 := Lib.hid (HLX.out.keep (w' := w4) (lb' := lb) (S' := fun j => S j ∧ j < wr.heap.size) (fun j hj _ _ h9 _ => HB24.out.block j hj h9) HB24.out.size (fun _ h => .inl h) (.inl rfl))
                    have HBw4 : Hid (Below w.heap.size wr w4) := Lib.hid ((HB12.out.mono HBS.out.bel.size).trans (HB24.out.below (Nat.le_trans HBS.out.bel.size HB12.out.size) (fun j e => by have := HBS.out.lbw; omega)))
                    clear y0 y1 y2 y3 y4 HTold HGen
                    have HW4 := Lib.hid (HW3.out.old HB4.out)
                    have HUp := Lib.hid (up_any w4 d g0 s HW4.out.sys.dsk)
                    rw [HW4.out.up] at HUp
                    go_wp2_with fail
                    with_reducible refine HUp.out.mono ?_
                    rintro e w9 ⟨rfl, rfl⟩
                    have happ := append_play w4 d g0 lb _ s c (10 + 6 * k) size HW4.out (by have := HK.out; omega) (by have := HSZ.out; omega) (· < w.heap.size) oA oc o.data (HRD.out.below HBw4.out (fun _ h => h)) (fun j (hj : j < w.heap.size) => by
                      have h1 := HBS.out.dw
                      have h2 := HBS.out.gw
                      have h3 := HBS.out.lbw
                      exact ⟨by omega, by omega, by omega, fun e => by have := HBS.out.own j e.1; omega⟩) (by have := HF.out.2.1; have := HL.out; omega) (by have := HMl.out.d; omega)
                    rw [HR.out, HW4.out.sz, ← HS2.out, ← HL.out, HE0.out] at happ
                    have HApp := Lib.hid happ
                    clear happ
                    clear HUp
                    go_wp2_with fail
                    with_reducible refine HApp.out.mono ?_
                    rintro e w5 ⟨hk5, s5, S5, hS5, hways⟩
                    have HB5k := Lib.hid (HBT4.out.step hk5 hS5)
                    have HLX5 := Lib.hid (HLX4.out.keep (w' := w5) (S' := S5) (lb' := lb) (fun j hj h1 h2 h3 h4 => hk5.block j hj (fun e => by rcases e with e | e | e | e; exact h1 e; exact h2 e; exact h3 e; exact h4 e)) hk5.size hS5 (.inl rfl))
                    clear hk5 hS5 HApp v0 v1 v3 v4 v5 HLX4 HBT4 HB24
                    obtain ⟨f, rfl, hpw⟩ : ∃ f : Int, e = .returned (.int .i64 f) ∧ Dsk w5 d g0 s5 ∧ ((E0 ≠ 0 ∧ f = E0 ∧ PlI w d g0 size (k + 1) lb (.slice Aw nw cw) (.slice Am nm cm) want may false w5) ∨ (E0 = 0 ∧ f = 0 ∧ PlI w d g0 size (k + 1) lb (.slice A2 n2 c2) (.slice Am nm cm) NX may false w5) ∨ (E0 = 0 ∧ f = 20 ∧ s5.down = true ∧ PlI w d g0 size (k + 1) lb (.slice Aw nw cw) (.slice A2 n2 c2) want NX true w5)) := by
                      rcases hways with ⟨hE, rfl, hw5⟩ | ⟨hE, hok, ⟨rfl, hw5⟩ | ⟨rfl, hdn5, hs5, c7, hh7, hc7⟩⟩
                      · exact ⟨_, rfl, hw5.sys.dsk, .inl ⟨hE, rfl, S5, HB5k.out.up (Nat.le_succ k), s5, c, .inl ⟨rfl, hw5.mono (by omega), HR.out⟩⟩⟩
                      · exact ⟨_, rfl, hw5.sys.dsk, .inr (.inl ⟨hE, rfl, S5, HB5k.out.want (m := k + 1) HLX5.out (HNXo.out hok) (by have := HNXb.out; omega) (Nat.le_succ k), s5, _, .inl ⟨rfl, hw5.mono (by omega), by show c.rs ++ [o.data] = _; rw [HNX.out, HR.out]⟩⟩)⟩
                      · refine ⟨_, rfl, hs5.dsk, .inr (.inr ⟨hE, rfl, hdn5, S5, HB5k.out.may (m := k + 1) HLX5.out (by have := HNXb.out; omega) (Nat.le_succ k), s5, c.seen s5, .inr ⟨rfl, hs5, by unfold Lc.seen; rw [hdn5]; simp, hdn5, c7, hh7.mono (by omega), ?_⟩⟩)⟩
                        rcases hc7 with e | e
                        · exact .inl (e.trans HR.out)
                        · exact .inr (e.trans (by rw [HNX.out, HR.out]))
                    have HPW := Lib.hid hpw
                    clear hpw hways HB5k HLX5
                    go_upto_block 3 with fail
                    go_cut [9, 10, 11, 48] from 48 to 188 (fun wv mv cv iv wx => iv = .int .i64 (k : Int) ∧ ∃ want' may' cut', cv = .bool cut' ∧ PlI w d g0 size (k + 1) lb wv mv want' may' cut' wx)
                    case first =>
                      obtain ⟨hd5, hpw⟩ := HPW.out
                      rcases hpw with ⟨h1, h2, h3⟩ | ⟨h1, h2, h3⟩ | ⟨h1, h2, hdn5, h3⟩
                      · subst h2
                        have e0 : (f != 0) = true := by simpa using h1
                        have H3 := Lib.hid h3
                        clear h1 h3 hd5 HPW
                        go_wp2
                        go_meet
                        exact ⟨rfl, want, may, false, rfl, H3.out⟩
                      · subst h1 h2
                        have H3 := Lib.hid h3
                        clear h3 hd5 HPW
                        go_wp2
                        go_meet
                        exact ⟨rfl, NX, may, false, rfl, H3.out⟩
                      · subst h1 h2
                        have H3 := Lib.hid h3
                        have HUp5 := Lib.hid (up_any w5 d g0 s5 hd5)
                        rw [hdn5] at HUp5
                        clear h3 hd5 HPW hdn5
                        go_wp2_with fail
                        with_reducible refine HUp5.out.mono ?_
                        rintro e w9 ⟨rfl, rfl⟩
                        go_wp2
                        go_meet
                        exact ⟨rfl, want, NX, true, rfl, H3.out⟩
                    case rest =>
                      obtain ⟨rfl, want', may', cut', rfl, hpl⟩ := hcut
                      clear HPW
                      obtain ⟨w5, hw5⟩ : ∃ w5, w5 = wc := ⟨_, rfl⟩
                      subst hw5
                      obtain ⟨S5, hb5, s5, c5, hw⟩ := hpl
                      obtain ⟨A5w, c5w, hv1, _, _⟩ := hb5.wl
                      obtain ⟨A5m, c5m, hv2, _, _⟩ := hb5.ml
                      subst hv1 hv2
                      obtain ⟨n5w, hn5w⟩ : ∃ n5w, n5w = want'.length := ⟨_, rfl⟩
                      obtain ⟨n5m, hn5m⟩ : ∃ n5m, n5m = may'.length := ⟨_, rfl⟩
                      rw [← hn5w, ← hn5m] at hb5
                      rw [← hn5w, ← hn5m]
                      have HN5w := Lib.hid hn5w
                      have HN5m := Lib.hid hn5m
                      have HB5 := Lib.hid hb5
                      clear hb5 hn5w hn5m
                      rcases hw with ⟨rfl, hw5, hr5⟩ | ⟨rfl, hs5, hwas5, hdn5, c7, hh7, hc7⟩
                      · have HW5 := Lib.hid hw5
                        have HR5 := Lib.hid hr5
                        clear hw5 hr5
                        have hst := stored_any w5 d g0 s5 _ size c5 HW5.out.has (by have := HSZ.out; omega)
                        rw [HR5.out] at hst
                        have HSto := Lib.hid hst
                        clear hst
                        go_wp2_with fail
                        with_reducible refine HSto.out.mono ?_
                        rintro e w6 ⟨A6, k6, rfl, hr6, hb6⟩
                        have hsm := same_any w6 _ _ A6 A5w k6 c5w want' want' hr6.rdl (HB5.out.old hb6).lst.1 (by have := HB5.out.wlen; have := HK.out; omega)
                        rw [← HN5w.out, decide_eq_true rfl] at hsm
                        rw [← HN5w.out]
                        have HSm := Lib.hid hsm
                        have HB6 := Lib.hid hb6
                        clear hsm hr6 hb6 HSto
                        go_wp2_with fail
                        with_reducible refine HSm.out.mono ?_
                        rintro e w7 ⟨rfl, hb7⟩
                        have HB7 : Hid (Below w5.heap.size w5 w7) := Lib.hid (HB6.out.trans (hb7.mono HB6.out.size))
                        have HGen := Lib.hid (gen_log (HW5.out.old HB7.out))
                        clear hb7 HB6 HSm
                        go_wp2_with fail
                        with_reducible refine HGen.out.mono ?_
                        rintro e w8 ⟨rfl, hw8, hk8⟩
                        have HPL : Hid (PlI w d g0 size (k + 1) lb (.slice A5w n5w c5w) (.slice A5m n5m c5m) want' may' false w8) := Lib.hid ⟨S5, (HB5.out.old HB7.out).step (hk8.mono (fun _ _ e => .inr (.inr (.inl e)))) (fun _ h => .inl h), s5, c5, .inl ⟨rfl, hw8.mono (by omega), HR5.out⟩⟩
                        clear hw8 hk8 HGen HB7
                        go_wp2
                        go_roundw
                        case rel =>
                          have := HK.out
                          first
                            | exact ⟨k + 1, lb, want', may', false, by omega, by go_num, rfl, rfl, HPL.out⟩
                            | ((repeat apply Exists.intro); exact ⟨⟨k + 1, lb, want', may', false, by omega, by go_num, rfl, rfl, HPL.out⟩, rfl⟩)
                        case measure => have := HK.out; simp [intOf]; omega
                      · have HD5 : Hid (Sys w5 d g0 lb S5 s5 c5 ∧ c5.was = true ∧ s5.down = true) := Lib.hid ⟨hs5, hwas5, hdn5⟩
                        have HH7 := Lib.hid hh7
                        have HC7 := Lib.hid hc7
                        clear hs5 hwas5 hdn5 hh7 hc7
                        by_cases hcw : c7.rs = want'
                        · have hst := stored_any w5 d g0 s5 _ size c7 HH7.out (by have := HSZ.out; omega)
                          rw [hcw] at hst
                          have HSto := Lib.hid hst
                          clear hst
                          go_wp2_with fail
                          with_reducible refine HSto.out.mono ?_
                          rintro e w6 ⟨A6, k6, rfl, hr6, hb6⟩
                          have hsm := same_any w6 _ _ A6 A5w k6 c5w want' want' hr6.rdl (HB5.out.old hb6).lst.1 (by have := HB5.out.wlen; have := HB5.out.mlen; have := HK.out; omega)
                          rw [← HN5w.out, decide_eq_true rfl] at hsm
                          rw [← HN5w.out]
                          have HSm := Lib.hid hsm
                          have HB6 := Lib.hid hb6
                          have HR6 := Lib.hid hr6.rdl
                          clear hsm hr6 hb6 HSto
                          go_wp2_with fail
                          with_reducible refine HSm.out.mono ?_
                          rintro e w7 ⟨rfl, hb7⟩
                          have HB7 : Hid (Below w5.heap.size w5 w7) := Lib.hid (HB6.out.trans (hb7.mono HB6.out.size))
                          clear hb7 HB6 HSm HR6
                          have HPL : Hid (PlI w d g0 size (k + 1) lb (.slice A5w n5w c5w) (.slice A5m n5m c5m) want' may' true w7) := Lib.hid ⟨S5, HB5.out.old HB7.out, s5, c5, .inr ⟨rfl, HD5.out.1.old HB7.out, HD5.out.2.1, HD5.out.2.2, c7, (HH7.out.old HB7.out).mono (by omega), HC7.out⟩⟩
                          go_wp2
                          go_roundw
                          case rel =>
                            have := HK.out
                            first
                              | exact ⟨k + 1, lb, want', may', true, by omega, by go_num, rfl, rfl, HPL.out⟩
                              | ((repeat apply Exists.intro); exact ⟨⟨k + 1, lb, want', may', true, by omega, by go_num, rfl, rfl, HPL.out⟩, rfl⟩)
                          case measure => have := HK.out; simp [intOf]; omega
                        · have hcm : c7.rs = may' := HC7.out.resolve_left hcw
                          have HNE : Hid (¬ may' = want') := Lib.hid (fun e => hcw (hcm.trans e))
                          have hst := stored_any w5 d g0 s5 _ size c7 HH7.out (by have := HSZ.out; omega)
                          rw [hcm] at hst
                          have HSto := Lib.hid hst
                          clear hst
                          go_wp2_with fail
                          with_reducible refine HSto.out.mono ?_
                          rintro e w6 ⟨A6, k6, rfl, hr6, hb6⟩
                          have hsm := same_any w6 _ _ A6 A5w k6 c5w may' want' hr6.rdl (HB5.out.old hb6).lst.1 (by have := HB5.out.wlen; have := HB5.out.mlen; have := HK.out; omega)
                          rw [← HN5w.out, ← HN5m.out, decide_eq_false HNE.out] at hsm
                          rw [← HN5m.out]
                          have HSm := Lib.hid hsm
                          have HB6 := Lib.hid hb6
                          have HR6 := Lib.hid hr6.rdl
                          clear hsm hr6 hb6 HSto
                          go_wp2_with fail
                          with_reducible refine HSm.out.mono ?_
                          rintro e w7 ⟨rfl, hb7⟩
                          have HB7 : Hid (Below w5.heap.size w5 w7) := Lib.hid (HB6.out.trans (hb7.mono HB6.out.size))
                          have hsm := same_any w7 _ _ A6 A5m k6 c5m may' may' (HR6.out.old hb7) (HB5.out.old HB7.out).lst.2 (by have := HB5.out.mlen; have := HK.out; omega)
                          rw [← HN5m.out, decide_eq_true rfl] at hsm
                          have HSm2 := Lib.hid hsm
                          clear hb7 hsm HSm HB6 HR6
                          go_wp2_with fail
                          with_reducible refine HSm2.out.mono ?_
                          rintro e w8 ⟨rfl, hb8⟩
                          have HB8 := Lib.hid (HB7.out.trans (hb8.mono HB7.out.size))
                          clear hb8 HSm2
                          have HPL : Hid (PlI w d g0 size (k + 1) lb (.slice A5w n5w c5w) (.slice A5m n5m c5m) want' may' true w8) := Lib.hid ⟨S5, HB5.out.old HB8.out, s5, c5, .inr ⟨rfl, HD5.out.1.old HB8.out, HD5.out.2.1, HD5.out.2.2, c7, (HH7.out.old HB8.out).mono (by omega), HC7.out⟩⟩
                          go_wp2
                          go_roundw
                          case rel =>
                            have := HK.out
                            first
                              | exact ⟨k + 1, lb, want', may', true, by omega, by go_num, rfl, rfl, HPL.out⟩
                              | ((repeat apply Exists.intro); exact ⟨⟨k + 1, lb, want', may', true, by omega, by go_num, rfl, rfl, HPL.out⟩, rfl⟩)
                          case measure => have := HK.out; simp [intOf]; omega
            · as_aux_lemma =>
                have HLBp : Hid (d < wr.heap.size ∧ g0 < wr.heap.size ∧ lb < wr.heap.size) := Lib.hid ⟨hsys.dsk.blk.lt, hsys.dsk.row.lt, hsys.log.lt⟩
                have HSy := Lib.hid hsys.tight
                have HWas := Lib.hid (⟨hwas, hdn⟩ : c.was = true ∧ s.down = true)
                obtain ⟨c7, hc7⟩ : ∃ c7, c7 = c' := ⟨_, rfl⟩
                have HH := Lib.hid (show Has wr d g0 s (10 + 6 * k) size c7 from hc7 ▸ hhas)
                have HC7 : Hid (c7.rs = want ∨ c7.rs = may) := Lib.hid (hc7 ▸ hc')
                clear hsys hwas hdn hhas hc' hc7
                have hS1 : ∀ j, (S j ∧ j < wr.heap.size) → S j ∨ wr.heap.size ≤ j := fun j h => .inl h.1
                have HBT := Lib.hid (HBS.out.step (S' := fun j => S j ∧ j < wr.heap.size) (Kp.refl _ _) hS1)
                have hcells : ∀ W : World, Below (wr.alloc (.cells #[.int .i64 1, .int .i64 z1, .int .i64 z2, .slice oA l oc, .slice oC m ok] 35)).heap.size (wr.alloc (.cells #[.int .i64 1, .int .i64 z1, .int .i64 z2, .slice oA l oc, .slice oC m ok] 35)) W → W.cell? ⟨wr.heap.size, 0, none⟩ = some (.int .i64 1) ∧ W.cell? ⟨wr.heap.size, 1, none⟩ = some (.int .i64 z1) ∧ W.cell? ⟨wr.heap.size, 2, none⟩ = some (.int .i64 z2) ∧ W.cell? ⟨wr.heap.size, 3, none⟩ = some (.slice oA l oc) ∧ W.cell? ⟨wr.heap.size, 4, none⟩ = some (.slice oC m ok) := fun W hW => by
                  have hk := HK0.out.below hW (by have := HP.out; simp; omega)
                  rw [← HP.out]
                  exact ⟨hk.cell 0, hk.cell 1, hk.cell 2, hk.cell 3, hk.cell 4⟩
                have HCE := Lib.hid hcells
                clear hS1 hcells
                have HSrcW : Hid (∀ W, Below wr.heap.size wr W → SrcsP W (fun j => j < wr.heap.size ∧ j ≠ d ∧ j ≠ g0 ∧ j ≠ lb ∧ ¬ S j) Aw want) := Lib.hid (fun W hW => (HRW.out.keep (fun j hj _ => hW.block j hj.1) hW.size).srcsP)
                have HRDP : Hid (∀ W, Below wr.heap.size wr W → Rd W (fun j => j < wr.heap.size ∧ j ≠ d ∧ j ≠ g0 ∧ j ≠ lb ∧ ¬ S j) oA o.data) := Lib.hid (fun W hW => (HRD.out.below (hW.mono HBS.out.bel.size) (fun _ h => h)).more (fun j (hj : j < w.heap.size) => by
                  have h1 := HBS.out.bel.size
                  have h2 := HBS.out.dw
                  have h3 := HBS.out.gw
                  have h4 := HBS.out.lbw
                  exact ⟨by omega, by omega, by omega, by omega, fun e => by have := HBS.out.own j e; omega⟩))
                obtain ⟨w1, hw1⟩ : ∃ w1, w1 = (wr.alloc (.cells #[.int .i64 1, .int .i64 z1, .int .i64 z2, .slice oA l oc, .slice oC m ok] 35)) := ⟨_, rfl⟩
                have hz1' : w1.heap.size = wr.heap.size + 1 := by rw [hw1]; simp
                have HZ1 := Lib.hid hz1'
                rw [← hw1] at HCE HSo HK0
                obtain ⟨y0, y1, y2, y3, y4⟩ := HCE.out w1 (Below.refl _ _)
                have hPC : ∀ j, (j < wr.heap.size ∧ j ≠ d ∧ j ≠ g0 ∧ j ≠ lb ∧ ¬ S j) → j < w1.heap.size := fun j hj => by omega
                have HPC := Lib.hid hPC
                have hbE : Below wr.heap.size wr (w1.alloc (.cells #[] 33)) := HSo.out.alloc HSo.out.size _
                have hbO : Below wr.heap.size wr (w1.alloc (.cells #[.slice oA l oc] 33)) := HSo.out.alloc HSo.out.size _
                have HbE := Lib.hid hbE
                have e3 : (w1.alloc (.cells #[] 33)).cell? ⟨wr.heap.size, 3, none⟩ = some (.slice oA l oc) := (HCE.out _ ((Below.refl _ _).alloc (Nat.le_refl _) _)).2.2.2.1
                have e3d : (w1.alloc (.cells #[] 33)).drew.cell? ⟨wr.heap.size, 3, none⟩ = some (.slice oA l oc) := e3
                have y3d : w1.drew.cell? ⟨wr.heap.size, 3, none⟩ = some (.slice oA l oc) := y3
                have HbO := Lib.hid hbO
                have HWl : Hid (want.length ≤ 1000) := Lib.hid (by have := HBS.out.wlen; have := HK.out; omega)
                clear hPC hz1' hbE hbO
                go_upto_block 2 with fail
                rw [← hw1]
                clear hw1
                go_cut [7, 9, 11, 14, 48] from 48 to 188 (fun lv wv cv vv iv wx => lv = .pointer (some ⟨lb, 0, none⟩) ∧ wv = .slice Aw nw cw ∧ cv = .bool true ∧ iv = .int .i64 (k : Int) ∧ OwnP wx (fun j => j < wr.heap.size ∧ j ≠ d ∧ j ≠ g0 ∧ j ≠ lb ∧ ¬ S j) w1.heap.size vv (want ++ [o.data]) ∧ Below w1.heap.size w1 wx)
                case first =>
                  go_wp2
                  go_region_law (first
                    | (refine step_append_list (by rfl) (.tmp 56) (.tmp 57) (by rfl) (fun j => j < wr.heap.size ∧ j ≠ d ∧ j ≠ g0 ∧ j ≠ lb ∧ ¬ S j) w1.heap.size (.slice (some ⟨w1.heap.size, 0, none⟩) 0 0) [] want (by rfl) (own_list_at (heap_alloc_new w1 _) (by omega)) Aw cw (show Value.slice Aw nw cw = .slice Aw want.length cw by rw [HNW.out]) HCW.out (HSrcW.out _ (HSo.out.trans (((Below.refl w1.heap.size w1).alloc (Nat.le_refl _) _).drew.mono HSo.out.size))) HPC.out (by simp) (by have := HWl.out; simp; omega) ?_; intro v3 w3 HO3 HB3 HG3; rw [List.nil_append] at HO3; obtain ⟨A3, c3, rfl⟩ := HO3.out.form; have HB3' : Hid (Below w1.heap.size w1 w3) := Lib.hid (((Below.refl w1.heap.size w1).alloc (Nat.le_refl _) _).drew.trans HB3.out); obtain ⟨y0, y1, y2, y3, y4⟩ := HCE.out w3 HB3'.out)
                    | (refine step_append_list (by rfl) (.tmp 56) (.tmp 57) (by rfl) (fun j => j < wr.heap.size ∧ j ≠ d ∧ j ≠ g0 ∧ j ≠ lb ∧ ¬ S j) w1.heap.size (.slice (some ⟨w1.heap.size, 0, none⟩) 0 0) [] want (by rfl) (own_list_at (Blk.alloc (heap_alloc_new w1 _) _) (by omega)) Aw cw (show Value.slice Aw nw cw = .slice Aw want.length cw by rw [HNW.out]) HCW.out (HSrcW.out _ (HSo.out.trans ((((Below.refl w1.heap.size w1).alloc (Nat.le_refl _) _).alloc (by simp) _).drew.mono HSo.out.size))) HPC.out (by simp; omega) (by have := HWl.out; simp; omega) ?_; intro v3 w3 HO3 HB3 HG3; rw [List.nil_append] at HO3; obtain ⟨A3, c3, rfl⟩ := HO3.out.form; have HB3' : Hid (Below w1.heap.size w1 w3) := Lib.hid ((((Below.refl w1.heap.size w1).alloc (Nat.le_refl _) _).alloc (by simp) _).drew.trans HB3.out); obtain ⟨y0, y1, y2, y3, y4⟩ := HCE.out w3 HB3'.out; have HONE : Hid (Blk w3 (w1.heap.size + 1) 33 [.slice oA l oc]) := Lib.hid ((HG3.out.block _ (by simp) (fun e => by have e' : some (w1.heap.size + 1) = some w1.heap.size := e; injection e' with e'; omega)).trans (blk_second w1 _ _ [.slice oA l oc])))
                    | (refine step_append_list (by rfl) (.tmp 56) (.tmp 57) (by rfl) (fun j => j < wr.heap.size ∧ j ≠ d ∧ j ≠ g0 ∧ j ≠ lb ∧ ¬ S j) w1.heap.size (.slice (some ⟨w1.heap.size + 1, 0, none⟩) 0 0) [] want (by rfl) (own_list_at (blk_second w1 _ _ []) (by omega)) Aw cw (show Value.slice Aw nw cw = .slice Aw want.length cw by rw [HNW.out]) HCW.out (HSrcW.out _ (HSo.out.trans ((((Below.refl w1.heap.size w1).alloc (Nat.le_refl _) _).alloc (by simp) _).drew.mono HSo.out.size))) HPC.out (by simp; omega) (by have := HWl.out; simp; omega) ?_; intro v3 w3 HO3 HB3 HG3; rw [List.nil_append] at HO3; obtain ⟨A3, c3, rfl⟩ := HO3.out.form; have HB3' : Hid (Below w1.heap.size w1 w3) := Lib.hid ((((Below.refl w1.heap.size w1).alloc (Nat.le_refl _) _).alloc (by simp) _).drew.trans HB3.out); obtain ⟨y0, y1, y2, y3, y4⟩ := HCE.out w3 HB3'.out; have HONE : Hid (Blk w3 w1.heap.size 33 [.slice oA l oc]) := Lib.hid ((HG3.out.block _ (by simp; omega) (fun e => by have e' : some w1.heap.size = some (w1.heap.size + 1) := e; injection e' with e'; omega)).trans (Blk.alloc (heap_alloc_new w1 _) _)))
                    | (refine step_append_list (by rfl) (.tmp 58) (.tmp 61) (by rfl) (fun j => j < wr.heap.size ∧ j ≠ d ∧ j ≠ g0 ∧ j ≠ lb ∧ ¬ S j) w1.heap.size _ want [o.data] (by rfl) (HO3.out.old ((Below.refl _ _).alloc (Nat.le_refl _) _)) _ 1 (by rfl) (fun h => by cases h) (srcs_at HL.out (by have := HF.out.2.1; have := HL.out; omega) (HRDP.out _ ((HSo.out.trans (HB3'.out.mono HSo.out.size)).alloc (Nat.le_trans HSo.out.size HB3'.out.size) _)) (heap_alloc_new w3 _)) HPC.out (by have := HB3'.out.size; simp; omega) (by have := HWl.out; simp; omega) ?_; intro v2 w2 HO2 HB2 HG2; have HB32 : Hid (Below w1.heap.size w3 w2) := Lib.hid (Below.trans ((Below.refl w3.heap.size w3).alloc (Nat.le_refl _) _ |>.mono HB3'.out.size) HB2.out); clear HG2)
                    | (refine step_append_list (by rfl) (.tmp 58) (.tmp 61) (by rfl) (fun j => j < wr.heap.size ∧ j ≠ d ∧ j ≠ g0 ∧ j ≠ lb ∧ ¬ S j) w1.heap.size _ want [o.data] (by rfl) HO3.out _ 1 (by rfl) (fun h => by cases h) (srcs_at HL.out (by have := HF.out.2.1; have := HL.out; omega) (HRDP.out _ (HSo.out.trans (HB3'.out.mono HSo.out.size))) HONE.out) HPC.out HB3'.out.size (by have := HWl.out; simp; omega) ?_; intro v2 w2 HO2 HB2 HG2; have HB32 : Hid (Below w1.heap.size w3 w2) := Lib.hid (HB2.out); clear HG2)
                    | fail)
                  all_goals (try go_wp2_with fail)
                  all_goals go_meet
                  all_goals exact ⟨rfl, rfl, rfl, rfl, HO2.out, HB3'.out.trans HB32.out⟩
                case rest =>
                  obtain ⟨rfl, rfl, rfl, rfl, hO2, hB2⟩ := hcut
                  have HO2 := Lib.hid hO2
                  have HB2 := Lib.hid hB2
                  obtain ⟨w2, hw2⟩ : ∃ w2, w2 = wc := ⟨_, rfl⟩
                  subst hw2
                  clear hO2 hB2
                  obtain ⟨A2, c2, hv2, hc2⟩ := HO2.out.form2
                  subst hv2
                  obtain ⟨NX, hNX⟩ : ∃ NX, NX = want ++ [o.data] := ⟨_, rfl⟩
                  rw [← hNX] at HO2
                  rw [← hNX]
                  obtain ⟨n2, hn2⟩ : ∃ n2, n2 = NX.length := ⟨_, rfl⟩
                  have HN2 := Lib.hid hn2
                  have HNX := Lib.hid hNX
                  have HC2 := Lib.hid hc2
                  rw [← hn2] at HO2
                  rw [← hn2]
                  have HB12 : Hid (Below wr.heap.size wr w2) := Lib.hid (HSo.out.trans (HB2.out.mono HSo.out.size))
                  have HLX : Hid (Lst w2 d g0 lb (fun j => S j ∧ j < wr.heap.size) (.slice A2 n2 c2) NX) := Lib.hid ⟨A2, c2, by rw [hn2], hc2, ((HO2.out.rdl rfl).tight2).more (fun j hj => by
                    have h1 := HLBp.out
                    have h2 := HZ1.out
                    rcases hj with ⟨hj | hj, hj2⟩
                    · exact ⟨hj2, hj.2.1, hj.2.2.1, hj.2.2.2.1, fun e => hj.2.2.2.2 e.1⟩
                    · exact ⟨hj2, by omega, by omega, by omega, fun e => by have := e.2; omega⟩)⟩
                  have HNXb : Hid (NX.length ≤ 9 + k) := Lib.hid (by rw [hNX]; have := HBS.out.wlen; simp; omega)
                  have HNXo : Hid (Okp o.data → ∀ x ∈ NX, Okp x) := Lib.hid (fun h x hx => by
                    rw [hNX] at hx
                    rcases List.mem_append.1 hx with hx | hx
                    · exact HBS.out.wok x hx
                    · rw [List.mem_singleton] at hx
                      subst hx
                      exact h)
                  have hy : Blk w2 wr.heap.size 35 [.int .i64 1, .int .i64 z1, .int .i64 z2, .slice oA l oc, .slice oC m ok] := by
                    have := HK0.out.below HB2.out (by have := HP.out; have := HZ1.out; omega)
                    rw [HP.out] at this
                    exact this
                  have HY := Lib.hid hy
                  clear hy hn2 hNX hc2 HO2 HB2 HSrcW HRDP y0 y1 y2 y3 y4 e3 e3d y3d
                  obtain ⟨sz2, hsz2⟩ : ∃ sz2, sz2 = size / 2 := ⟨_, rfl⟩
                  have HS2 := Lib.hid hsz2
                  have qd1 : IntKind.i64.wrap (sz2 : Int) = (sz2 : Int) := by rw [IntKind.wrap_i64]; have := HSZ.out; omega
                  have qd2 : (size : Int) / 2 = (sz2 : Int) := by omega
                  have HBT2 := Lib.hid (HBT.out.old HB12.out)
                  have hcl : ∀ W : World, W.heap[wr.heap.size]? = w2.heap[wr.heap.size]? → W.cell? ⟨wr.heap.size, 0, none⟩ = some (.int .i64 1) ∧ W.cell? ⟨wr.heap.size, 1, none⟩ = some (.int .i64 z1) ∧ W.cell? ⟨wr.heap.size, 2, none⟩ = some (.int .i64 z2) ∧ W.cell? ⟨wr.heap.size, 3, none⟩ = some (.slice oA l oc) ∧ W.cell? ⟨wr.heap.size, 4, none⟩ = some (.slice oC m ok) := fun W hW => by
                    have hk : Blk W wr.heap.size 35 [.int .i64 1, .int .i64 z1, .int .i64 z2, .slice oA l oc, .slice oC m ok] := hW.trans HY.out
                    exact ⟨hk.cell 0, hk.cell 1, hk.cell 2, hk.cell 3, hk.cell 4⟩
                  have HCL := Lib.hid hcl
                  obtain ⟨y0, y1, y2, y3, y4⟩ := hcl w2 rfl
                  have HPl : Hid (wr.heap.size < w2.heap.size ∧ lb ≠ wr.heap.size) := Lib.hid ⟨HY.out.lt, by have := HLBp.out; omega⟩
                  clear hcl hsz2
                  obtain ⟨E0, hE0⟩ : ∃ E0, appErr sz2 (16 + tot want) l = E0 := ⟨_, rfl⟩
                  have HE0 := Lib.hid hE0
                  clear hE0
                  have HGen := Lib.hid (gen_any w2.drew d g0 lb _ s c ((HSy.out.old HB12.out).old ((Below.refl _ _).drew)))
                  have HTold : Hid (∀ W, Kp (fun j => j = lb) w2 W → Calls Try.prog 16 #[.slice Aw nw cw, .agg #[.int .i64 1, .int .i64 z1, .int .i64 z2, .slice oA l oc, .slice oC m ok], .int .i64 (sz2 : Int), .int .i64 (c.g : Int)] W fun e w' => e = .returned (.int .i64 E0) ∧ Below W.heap.size W w') := Lib.hid (fun W hW => by
                    have := told_one W _ Aw cw want (HBT2.out.step (hW.mono (fun _ _ e => .inr (.inr (.inl e)))) (fun _ h => .inl h)).lst.1 (by have := HBS.out.wlen; have := HK.out; omega) HBS.out.wok z1 z2 oA oC l oc m ok sz2 (c.g : Int) (by have := HMl.out.d; have := HL.out; omega)
                    rw [← HNW.out, HE0.out] at this
                    exact this)
                  go_upto_region 33 with fail
                  go_cut [17, 48] from 48 to 188 (fun ev iv wx => iv = .int .i64 (k : Int) ∧ ev = .int .i64 E0 ∧ ∃ w3, Sys w3 d g0 lb (fun j => S j ∧ j < wr.heap.size) s (c.seen s) ∧ Kp (fun j => j = lb) w2 w3 ∧ Below w3.heap.size w3 wx)
                  case first =>
                    go_region_law (first
                      | (go_simp; go_at_call 17; (with_reducible refine HGen.out.mono ?_); rintro e w3 ⟨rfl, hw3, hk3⟩; have HW3 := Lib.hid hw3; have HK3 : Hid (Kp (fun j => j = lb) w2 w3) := Lib.hid (((Kp.refl (fun j => j = lb) w2).drew).trans hk3 (fun _ _ h => h)); obtain ⟨u0, u1, u2, u3, u4⟩ := HCL.out w3 (HK3.out.block _ HPl.out.1 (fun e => HPl.out.2 e.symm)); have HTo := Lib.hid (HTold.out w3 HK3.out); clear hw3 hk3)
                      | (go_simp; go_at_call 16; (with_reducible refine HTo.out.mono ?_); rintro e w4 ⟨rfl, hb4⟩; have HB4 := Lib.hid hb4; clear hb4)
                      | fail)
                    all_goals (try go_wp2_with fail)
                    all_goals go_meet
                    all_goals exact ⟨rfl, rfl, w3, HW3.out, HK3.out, HB4.out⟩
                  case rest =>
                    obtain ⟨rfl, rfl, w3, hw3, hk3, hb4⟩ := hcut
                    obtain ⟨w4, hw4⟩ : ∃ w4, w4 = wc := ⟨_, rfl⟩
                    subst hw4
                    have HW3 := Lib.hid hw3
                    have HK3 := Lib.hid hk3
                    have HB4 := Lib.hid hb4
                    clear hw3 hk3 hb4
                    have HB24 := Lib.hid ((HK3.out.trans (Kp.old (S := fun j => j = lb) HB4.out) (fun _ _ h => h)))
                    have HBT4 := Lib.hid (HBT2.out.step (HB24.out.mono (fun _ _ e => .inr (.inr (.inl e)))) (fun _ h => .inl h))
                    obtain ⟨v0, v1, v3, v4, v5⟩ := HCL.out w4 (HB24.out.block _ HPl.out.1 (fun e => HPl.out.2 e.symm))
                    have HLX4 := Lib.hid (HLX.out.keep (w' := w4) (lb' := lb) (S' := fun j => S j ∧ j < wr.heap.size) (fun j hj _ _ h9 _ => HB24.out.block j hj h9) HB24.out.size (fun _ h => .inl h) (.inl rfl))
                    have HBw4 : Hid (Below w.heap.size wr w4) := Lib.hid ((HB12.out.mono HBS.out.bel.size).trans (HB24.out.below (Nat.le_trans HBS.out.bel.size HB12.out.size) (fun j e => by have := HBS.out.lbw; omega)))
                    clear y0 y1 y2 y3 y4 HTold HGen
                    have HSy4 := Lib.hid (HW3.out.old HB4.out)
                    have HUp := Lib.hid (up_any w4 d g0 s HSy4.out.dsk)
                    rw [HWas.out.2] at HUp
                    go_wp2_with fail
                    with_reducible refine HUp.out.mono ?_
                    rintro e w9 ⟨rfl, rfl⟩
                    have HApp := Lib.hid (append_down w4 d g0 lb _ s (c.seen s) HSy4.out (by unfold Lc.seen; simp [HWas.out.1]) (.slice oA l oc))
                    clear HUp
                    go_wp2_with fail
                    with_reducible refine HApp.out.mono ?_
                    rintro e w5 ⟨rfl, ⟨⟨S5, hs5, hS5⟩, hk5⟩⟩
                    have hS5' : ∀ j, S5 j → (S j ∧ j < wr.heap.size) ∨ w4.heap.size ≤ j := fun j hj => by rcases hS5 j hj with e | e; exact .inl e; exact .inr e.1
                    have HB5 := Lib.hid ((HBT4.out.step hk5 hS5').up (Nat.le_succ k))
                    obtain ⟨c5, hc5⟩ : ∃ c5, c5 = (c.seen s).seen s := ⟨_, rfl⟩
                    obtain ⟨s5, hs5'⟩ : ∃ s5, s5 = s := ⟨_, rfl⟩
                    have HD5 : Hid (Sys w5 d g0 lb S5 s5 c5 ∧ c5.was = true ∧ s5.down = true) := Lib.hid ⟨by rw [hc5, hs5']; exact hs5, by rw [hc5]; unfold Lc.seen; simp [HWas.out.1], by rw [hs5']; exact HWas.out.2⟩
                    have HH7 : Hid (Has w5 d g0 s5 (10 + 6 * k) size c7) := Lib.hid (by rw [hs5']; exact ⟨hs5.dsk, HH.out.ok, HH.out.len, HH.out.sz, HH.out.wk⟩)
                    clear hk5 hS5 hS5' hs5 hc5 hs5' HApp v0 v1 v3 v4 v5 HLX4 HBT4 HB24
                    by_cases hcw : c7.rs = want
                    · have hst := stored_any w5 d g0 s5 _ size c7 HH7.out (by have := HSZ.out; omega)
                      rw [hcw] at hst
                      have HSto := Lib.hid hst
                      clear hst
                      go_wp2_with fail
                      with_reducible refine HSto.out.mono ?_
                      rintro e w6 ⟨A6, k6, rfl, hr6, hb6⟩
                      have hsm := same_any w6 _ _ A6 Aw k6 cw want want hr6.rdl (HB5.out.old hb6).lst.1 (by have := HB5.out.wlen; have := HB5.out.mlen; have := HK.out; omega)
                      rw [← HNW.out, decide_eq_true rfl] at hsm
                      rw [← HNW.out]
                      have HSm := Lib.hid hsm
                      have HB6 := Lib.hid hb6
                      have HR6 := Lib.hid hr6.rdl
                      clear hsm hr6 hb6 HSto
                      go_wp2_with fail
                      with_reducible refine HSm.out.mono ?_
                      rintro e w7 ⟨rfl, hb7⟩
                      have HB7 : Hid (Below w5.heap.size w5 w7) := Lib.hid (HB6.out.trans (hb7.mono HB6.out.size))
                      clear hb7 HB6 HSm HR6
                      have HPL : Hid (PlI w d g0 size (k + 1) lb (.slice Aw nw cw) (.slice Am nm cm) want may true w7) := Lib.hid ⟨S5, HB5.out.old HB7.out, s5, c5, .inr ⟨rfl, HD5.out.1.old HB7.out, HD5.out.2.1, HD5.out.2.2, c7, (HH7.out.old HB7.out).mono (by omega), HC7.out⟩⟩
                      go_wp2
                      go_roundw
                      case rel =>
                        have := HK.out
                        first
                          | exact ⟨k + 1, lb, want, may, true, by omega, by go_num, rfl, rfl, HPL.out⟩
                          | ((repeat apply Exists.intro); exact ⟨⟨k + 1, lb, want, may, true, by omega, by go_num, rfl, rfl, HPL.out⟩, rfl⟩)
                      case measure => have := HK.out; simp [intOf]; omega
                    · have hcm : c7.rs = may := HC7.out.resolve_left hcw
                      have HNE : Hid (¬ may = want) := Lib.hid (fun e => hcw (hcm.trans e))
                      have hst := stored_any w5 d g0 s5 _ size c7 HH7.out (by have := HSZ.out; omega)
                      rw [hcm] at hst
                      have HSto := Lib.hid hst
                      clear hst
                      go_wp2_with fail
                      with_reducible refine HSto.out.mono ?_
                      rintro e w6 ⟨A6, k6, rfl, hr6, hb6⟩
                      have hsm := same_any w6 _ _ A6 Aw k6 cw may want hr6.rdl (HB5.out.old hb6).lst.1 (by have := HB5.out.wlen; have := HB5.out.mlen; have := HK.out; omega)
                      rw [← HNW.out, ← HNM.out, decide_eq_false HNE.out] at hsm
                      rw [← HNM.out]
                      have HSm := Lib.hid hsm
                      have HB6 := Lib.hid hb6
                      have HR6 := Lib.hid hr6.rdl
                      clear hsm hr6 hb6 HSto
                      go_wp2_with fail
                      with_reducible refine HSm.out.mono ?_
                      rintro e w7 ⟨rfl, hb7⟩
                      have HB7 : Hid (Below w5.heap.size w5 w7) := Lib.hid (HB6.out.trans (hb7.mono HB6.out.size))
                      have hsm := same_any w7 _ _ A6 Am k6 cm may may (HR6.out.old hb7) (HB5.out.old HB7.out).lst.2 (by have := HB5.out.mlen; have := HK.out; omega)
                      rw [← HNM.out, decide_eq_true rfl] at hsm
                      have HSm2 := Lib.hid hsm
                      clear hb7 hsm HSm HB6 HR6
                      go_wp2_with fail
                      with_reducible refine HSm2.out.mono ?_
                      rintro e w8 ⟨rfl, hb8⟩
                      have HB8 := Lib.hid (HB7.out.trans (hb8.mono HB7.out.size))
                      clear hb8 HSm2
                      have HPL : Hid (PlI w d g0 size (k + 1) lb (.slice Aw nw cw) (.slice Am nm cm) want may true w8) := Lib.hid ⟨S5, HB5.out.old HB8.out, s5, c5, .inr ⟨rfl, HD5.out.1.old HB8.out, HD5.out.2.1, HD5.out.2.2, c7, (HH7.out.old HB8.out).mono (by omega), HC7.out⟩⟩
                      go_wp2
                      go_roundw
                      case rel =>
                        have := HK.out
                        first
                          | exact ⟨k + 1, lb, want, may, true, by omega, by go_num, rfl, rfl, HPL.out⟩
                          | ((repeat apply Exists.intro); exact ⟨⟨k + 1, lb, want, may, true, by omega, by go_num, rfl, rfl, HPL.out⟩, rfl⟩)
                      case measure => have := HK.out; simp [intOf]; omega
          · rcases HWY.out with ⟨rfl, hw, hr⟩ | ⟨rfl, hsys, hwas, hdn, c', hhas, hc'⟩
            · as_aux_lemma =>
                have HLBp : Hid (d < wr.heap.size ∧ g0 < wr.heap.size ∧ lb < wr.heap.size) := Lib.hid ⟨hw.sys.dsk.blk.lt, hw.sys.dsk.row.lt, hw.sys.log.lt⟩
                have HW := Lib.hid hw.tight
                have HR := Lib.hid hr
                clear hw hr
                have hS1 : ∀ j, (S j ∧ j < wr.heap.size) → S j ∨ wr.heap.size ≤ j := fun j h => .inl h.1
                have HBT := Lib.hid (HBS.out.step (S' := fun j => S j ∧ j < wr.heap.size) (Kp.refl _ _) hS1)
                have hcells : ∀ W : World, Below (wr.alloc (.cells #[.int .i64 2, .int .i64 z1, .int .i64 z2, .slice oA l oc, .slice oC m ok] 35)).heap.size (wr.alloc (.cells #[.int .i64 2, .int .i64 z1, .int .i64 z2, .slice oA l oc, .slice oC m ok] 35)) W → W.cell? ⟨wr.heap.size, 0, none⟩ = some (.int .i64 2) ∧ W.cell? ⟨wr.heap.size, 1, none⟩ = some (.int .i64 z1) ∧ W.cell? ⟨wr.heap.size, 2, none⟩ = some (.int .i64 z2) ∧ W.cell? ⟨wr.heap.size, 3, none⟩ = some (.slice oA l oc) ∧ W.cell? ⟨wr.heap.size, 4, none⟩ = some (.slice oC m ok) := fun W hW => by
                  have hk := HK0.out.below hW (by have := HP.out; simp; omega)
                  rw [← HP.out]
                  exact ⟨hk.cell 0, hk.cell 1, hk.cell 2, hk.cell 3, hk.cell 4⟩
                have HCE := Lib.hid hcells
                clear hS1 hcells
                obtain ⟨w2, hw2⟩ : ∃ w2, w2 = (wr.alloc (.cells #[.int .i64 2, .int .i64 z1, .int .i64 z2, .slice oA l oc, .slice oC m ok] 35)) := ⟨_, rfl⟩
                rw [← hw2] at HCE HSo HK0
                obtain ⟨y0, y1, y2, y3, y4⟩ := HCE.out w2 (Below.refl _ _)
                go_wp2_with fail
                rw [← hw2]
                obtain ⟨NX, hNX⟩ : ∃ NX, NX = o.all := ⟨_, rfl⟩
                have HN2 : Hid (m = NX.length) := Lib.hid (by rw [hNX]; exact HMm.out)
                have HNX := Lib.hid hNX
                have HB12 : Hid (Below wr.heap.size wr w2) := HSo
                have HLX : Hid (Lst w2 d g0 lb (fun j => S j ∧ j < wr.heap.size) (.slice oC m ok) NX) := Lib.hid (lst_in (HBT.out.old HSo.out) (by rw [hNX]; exact HRA.out.keep (fun j hj _ => (HSo.out.mono HBS.out.bel.size).block j hj) HSo.out.size) HN2.out HF.out.2.2.1)
                have HNXb : Hid (NX.length ≤ 9 + k) := Lib.hid (by rw [hNX]; have := HMl.out.a; omega)
                have HY : Hid (Blk w2 wr.heap.size 35 [.int .i64 2, .int .i64 z1, .int .i64 z2, .slice oA l oc, .slice oC m ok]) := Lib.hid (HP.out ▸ HK0.out)
                clear hNX hw2 y0 y1 y2 y3 y4
                obtain ⟨sz2, hsz2⟩ : ∃ sz2, sz2 = size / 2 := ⟨_, rfl⟩
                have HS2 := Lib.hid hsz2
                have qd1 : IntKind.i64.wrap (sz2 : Int) = (sz2 : Int) := by rw [IntKind.wrap_i64]; have := HSZ.out; omega
                have qd2 : (size : Int) / 2 = (sz2 : Int) := by omega
                have HBT2 := Lib.hid (HBT.out.old HB12.out)
                have hcl : ∀ W : World, W.heap[wr.heap.size]? = w2.heap[wr.heap.size]? → W.cell? ⟨wr.heap.size, 0, none⟩ = some (.int .i64 2) ∧ W.cell? ⟨wr.heap.size, 1, none⟩ = some (.int .i64 z1) ∧ W.cell? ⟨wr.heap.size, 2, none⟩ = some (.int .i64 z2) ∧ W.cell? ⟨wr.heap.size, 3, none⟩ = some (.slice oA l oc) ∧ W.cell? ⟨wr.heap.size, 4, none⟩ = some (.slice oC m ok) := fun W hW => by
                  have hk : Blk W wr.heap.size 35 [.int .i64 2, .int .i64 z1, .int .i64 z2, .slice oA l oc, .slice oC m ok] := hW.trans HY.out
                  exact ⟨hk.cell 0, hk.cell 1, hk.cell 2, hk.cell 3, hk.cell 4⟩
                have HCL := Lib.hid hcl
                obtain ⟨y0, y1, y2, y3, y4⟩ := hcl w2 rfl
                have HPl : Hid (wr.heap.size < w2.heap.size ∧ lb ≠ wr.heap.size) := Lib.hid ⟨HY.out.lt, by have := HLBp.out; omega⟩
                clear hcl hsz2
                obtain ⟨E0, hE0⟩ : ∃ E0, newErr sz2 (c.g : Int) NX = E0 := ⟨_, rfl⟩
                have HE0 := Lib.hid hE0
                clear hE0
                have HGen := Lib.hid (gen_log ((HW.out.old HB12.out).old ((Below.refl _ _).drew)))
                have HTold : Hid (∀ W, Kp (fun j => j = lb) w2 W → Calls Try.prog 16 #[.slice Aw nw cw, .agg #[.int .i64 2, .int .i64 z1, .int .i64 z2, .slice oA l oc, .slice oC m ok], .int .i64 (sz2 : Int), .int .i64 (c.g : Int)] W fun e w' => e = .returned (.int .i64 E0) ∧ Below W.heap.size W w') := Lib.hid (fun W hW => by
                  have hx := (HLX.out.keep (w' := W) (lb' := lb) (S' := fun j => S j ∧ j < wr.heap.size) (fun j hj _ _ h9 _ => hW.block j hj h9) hW.size (fun _ h => .inl h) (.inl rfl))
                  obtain ⟨A9, c9, e9, _, h9⟩ := hx
                  injection e9 with e9 _ e9'
                  subst e9 e9'
                  have := told_two W _ oC ok NX h9 (by have := HNXb.out; have := HK.out; omega) (.slice Aw nw cw) z1 z2 oA l oc sz2 (c.g : Int) ⟨_, _, _, rfl⟩
                  rw [← HN2.out, HE0.out] at this
                  exact this)
                go_upto_region 33 with fail
                go_cut [17, 48] from 48 to 188 (fun ev iv wx => iv = .int .i64 (k : Int) ∧ ev = .int .i64 E0 ∧ ∃ w3, Well w3 d g0 lb (fun j => S j ∧ j < wr.heap.size) s c (10 + 6 * k) size ∧ Kp (fun j => j = lb) w2 w3 ∧ Below w3.heap.size w3 wx)
                case first =>
                  go_region_law (first
                    | (go_simp; go_at_call 17; (with_reducible refine HGen.out.mono ?_); rintro e w3 ⟨rfl, hw3, hk3⟩; have HW3 := Lib.hid hw3; have HK3 : Hid (Kp (fun j => j = lb) w2 w3) := Lib.hid (((Kp.refl (fun j => j = lb) w2).drew).trans hk3 (fun _ _ h => h)); obtain ⟨u0, u1, u2, u3, u4⟩ := HCL.out w3 (HK3.out.block _ HPl.out.1 (fun e => HPl.out.2 e.symm)); have HTo := Lib.hid (HTold.out w3 HK3.out); clear hw3 hk3)
                    | (go_simp; go_at_call 16; (with_reducible refine HTo.out.mono ?_); rintro e w4 ⟨rfl, hb4⟩; have HB4 := Lib.hid hb4; clear hb4)
                    | fail)
                  all_goals (try go_wp2_with fail)
                  all_goals go_meet
                  all_goals exact ⟨rfl, rfl, w3, HW3.out, HK3.out, HB4.out⟩
                case rest =>
                  obtain ⟨rfl, rfl, w3, hw3, hk3, hb4⟩ := hcut
                  obtain ⟨w4, hw4⟩ : ∃ w4, w4 = wc := ⟨_, rfl⟩
                  subst hw4
                  have HW3 := Lib.hid hw3
                  have HK3 := Lib.hid hk3
                  have HB4 := Lib.hid hb4
                  clear hw3 hk3 hb4
                  have HB24 := Lib.hid ((HK3.out.trans (Kp.old (S := fun j => j = lb) HB4.out) (fun _ _ h => h)))
                  have HBT4 := Lib.hid (HBT2.out.step (HB24.out.mono (fun _ _ e => .inr (.inr (.inl e)))) (fun _ h => .inl h))
                  obtain ⟨v0, v1, v3, v4, v5⟩ := HCL.out w4 (HB24.out.block _ HPl.out.1 (fun e => HPl.out.2 e.symm))
                  have HLX4 := Lib.hid (HLX.out.keep (w' := w4) (lb' := lb) (S' := fun j => S j ∧ j < wr.heap.size) (fun j hj _ _ h9 _ => HB24.out.block j hj h9) HB24.out.size (fun _ h => .inl h) (.inl rfl))
                  have HBw4 : Hid (Below w.heap.size wr w4) := Lib.hid ((HB12.out.mono HBS.out.bel.size).trans (HB24.out.below (Nat.le_trans HBS.out.bel.size HB12.out.size) (fun j e => by have := HBS.out.lbw; omega)))
                  clear y0 y1 y2 y3 y4 HTold HGen
                  have HW4 := Lib.hid (HW3.out.old HB4.out)
                  have HUp := Lib.hid (up_any w4 d g0 s HW4.out.sys.dsk)
                  rw [HW4.out.up] at HUp
                  go_wp2_with fail
                  with_reducible refine HUp.out.mono ?_
                  rintro e w9 ⟨rfl, rfl⟩
                  have happ := anew_play w4 d g0 lb _ s c (10 + 6 * k) size HW4.out (by have := HK.out; omega) (by have := HSZ.out; omega) (· < w.heap.size) oC ok NX (by rw [HNX.out]; exact HRA.out.keep (fun j hj _ => HBw4.out.block j hj) HBw4.out.size) (by have := HBS.out.lbw; omega) (by have := HNXb.out; have := HK.out; omega)
                  rw [HW4.out.sz, ← HS2.out, HE0.out, ← HN2.out] at happ
                  have HApp := Lib.hid happ
                  clear happ
                  clear HUp
                  go_wp2_with fail
                  with_reducible refine HApp.out.mono ?_
                  rintro e w5 ⟨hk5, s5, S5, hS5, hways⟩
                  have HB5k := Lib.hid (HBT4.out.step hk5 hS5)
                  have HLX5 := Lib.hid (HLX4.out.keep (w' := w5) (S' := S5) (lb' := lb) (fun j hj h1 h2 h3 h4 => hk5.block j hj (fun e => by rcases e with e | e | e | e; exact h1 e; exact h2 e; exact h3 e; exact h4 e)) hk5.size hS5 (.inl rfl))
                  clear hk5 hS5 HApp v0 v1 v3 v4 v5 HLX4 HBT4 HB24
                  obtain ⟨f, rfl, hpw⟩ : ∃ f : Int, e = .returned (.int .i64 f) ∧ Dsk w5 d g0 s5 ∧ ((E0 ≠ 0 ∧ f = E0 ∧ PlI w d g0 size (k + 1) lb (.slice Aw nw cw) (.slice Am nm cm) want may false w5) ∨ (E0 = 0 ∧ f = 0 ∧ PlI w d g0 size (k + 1) lb (.slice oC m ok) (.slice Am nm cm) NX may false w5) ∨ (E0 = 0 ∧ f = 20 ∧ s5.down = true ∧ PlI w d g0 size (k + 1) lb (.slice Aw nw cw) (.slice oC m ok) want NX true w5)) := by
                    rcases hways with ⟨hE, rfl, hw5⟩ | ⟨hE, hok, ⟨rfl, hw5⟩ | ⟨rfl, hdn5, hs5, c7, hh7, hc7⟩⟩
                    · exact ⟨_, rfl, hw5.sys.dsk, .inl ⟨hE, rfl, S5, HB5k.out.up (Nat.le_succ k), s5, c, .inl ⟨rfl, hw5.mono (by omega), HR.out⟩⟩⟩
                    · exact ⟨_, rfl, hw5.sys.dsk, .inr (.inl ⟨hE, rfl, S5, HB5k.out.want (m := k + 1) HLX5.out (hok) (by have := HNXb.out; omega) (Nat.le_succ k), s5, _, .inl ⟨rfl, hw5.mono (by omega), by rfl⟩⟩)⟩
                    · refine ⟨_, rfl, hs5.dsk, .inr (.inr ⟨hE, rfl, hdn5, S5, HB5k.out.may (m := k + 1) HLX5.out (by have := HNXb.out; omega) (Nat.le_succ k), s5, c.seen s5, .inr ⟨rfl, hs5, by unfold Lc.seen; rw [hdn5]; simp, hdn5, c7, hh7.mono (by omega), ?_⟩⟩)⟩
                      rcases hc7 with e | e
                      · exact .inl (e.trans HR.out)
                      · exact .inr (e.trans (by rfl))
                  have HPW := Lib.hid hpw
                  clear hpw hways HB5k HLX5
                  go_upto_block 3 with fail
                  go_cut [9, 10, 11, 48] from 48 to 188 (fun wv mv cv iv wx => iv = .int .i64 (k : Int) ∧ ∃ want' may' cut', cv = .bool cut' ∧ PlI w d g0 size (k + 1) lb wv mv want' may' cut' wx)
                  case first =>
                    obtain ⟨hd5, hpw⟩ := HPW.out
                    rcases hpw with ⟨h1, h2, h3⟩ | ⟨h1, h2, h3⟩ | ⟨h1, h2, hdn5, h3⟩
                    · subst h2
                      have e0 : (f != 0) = true := by simpa using h1
                      have H3 := Lib.hid h3
                      clear h1 h3 hd5 HPW
                      go_wp2
                      go_meet
                      exact ⟨rfl, want, may, false, rfl, H3.out⟩
                    · subst h1 h2
                      have H3 := Lib.hid h3
                      clear h3 hd5 HPW
                      go_wp2
                      go_meet
                      exact ⟨rfl, NX, may, false, rfl, H3.out⟩
                    · subst h1 h2
                      have H3 := Lib.hid h3
                      have HUp5 := Lib.hid (up_any w5 d g0 s5 hd5)
                      rw [hdn5] at HUp5
                      clear h3 hd5 HPW hdn5
                      go_wp2_with fail
                      with_reducible refine HUp5.out.mono ?_
                      rintro e w9 ⟨rfl, rfl⟩
                      go_wp2
                      go_meet
                      exact ⟨rfl, want, NX, true, rfl, H3.out⟩
                  case rest =>
                    obtain ⟨rfl, want', may', cut', rfl, hpl⟩ := hcut
                    clear HPW
                    obtain ⟨w5, hw5⟩ : ∃ w5, w5 = wc := ⟨_, rfl⟩
                    subst hw5
                    obtain ⟨S5, hb5, s5, c5, hw⟩ := hpl
                    obtain ⟨A5w, c5w, hv1, _, _⟩ := hb5.wl
                    obtain ⟨A5m, c5m, hv2, _, _⟩ := hb5.ml
                    subst hv1 hv2
                    obtain ⟨n5w, hn5w⟩ : ∃ n5w, n5w = want'.length := ⟨_, rfl⟩
                    obtain ⟨n5m, hn5m⟩ : ∃ n5m, n5m = may'.length := ⟨_, rfl⟩
                    rw [← hn5w, ← hn5m] at hb5
                    rw [← hn5w, ← hn5m]
                    have HN5w := Lib.hid hn5w
                    have HN5m := Lib.hid hn5m
                    have HB5 := Lib.hid hb5
                    clear hb5 hn5w hn5m
                    rcases hw with ⟨rfl, hw5, hr5⟩ | ⟨rfl, hs5, hwas5, hdn5, c7, hh7, hc7⟩
                    · have HW5 := Lib.hid hw5
                      have HR5 := Lib.hid hr5
                      clear hw5 hr5
                      have hst := stored_any w5 d g0 s5 _ size c5 HW5.out.has (by have := HSZ.out; omega)
                      rw [HR5.out] at hst
                      have HSto := Lib.hid hst
                      clear hst
                      go_wp2_with fail
                      with_reducible refine HSto.out.mono ?_
                      rintro e w6 ⟨A6, k6, rfl, hr6, hb6⟩
                      have hsm := same_any w6 _ _ A6 A5w k6 c5w want' want' hr6.rdl (HB5.out.old hb6).lst.1 (by have := HB5.out.wlen; have := HK.out; omega)
                      rw [← HN5w.out, decide_eq_true rfl] at hsm
                      rw [← HN5w.out]
                      have HSm := Lib.hid hsm
                      have HB6 := Lib.hid hb6
                      clear hsm hr6 hb6 HSto
                      go_wp2_with fail
                      with_reducible refine HSm.out.mono ?_
                      rintro e w7 ⟨rfl, hb7⟩
                      have HB7 : Hid (Below w5.heap.size w5 w7) := Lib.hid (HB6.out.trans (hb7.mono HB6.out.size))
                      have HGen := Lib.hid (gen_log (HW5.out.old HB7.out))
                      clear hb7 HB6 HSm
                      go_wp2_with fail
                      with_reducible refine HGen.out.mono ?_
                      rintro e w8 ⟨rfl, hw8, hk8⟩
                      have HPL : Hid (PlI w d g0 size (k + 1) lb (.slice A5w n5w c5w) (.slice A5m n5m c5m) want' may' false w8) := Lib.hid ⟨S5, (HB5.out.old HB7.out).step (hk8.mono (fun _ _ e => .inr (.inr (.inl e)))) (fun _ h => .inl h), s5, c5, .inl ⟨rfl, hw8.mono (by omega), HR5.out⟩⟩
                      clear hw8 hk8 HGen HB7
                      go_wp2
                      go_roundw
                      case rel =>
                        have := HK.out
                        first
                          | exact ⟨k + 1, lb, want', may', false, by omega, by go_num, rfl, rfl, HPL.out⟩
                          | ((repeat apply Exists.intro); exact ⟨⟨k + 1, lb, want', may', false, by omega, by go_num, rfl, rfl, HPL.out⟩, rfl⟩)
                      case measure => have := HK.out; simp [intOf]; omega
                    · have HD5 : Hid (Sys w5 d g0 lb S5 s5 c5 ∧ c5.was = true ∧ s5.down = true) := Lib.hid ⟨hs5, hwas5, hdn5⟩
                      have HH7 := Lib.hid hh7
                      have HC7 := Lib.hid hc7
                      clear hs5 hwas5 hdn5 hh7 hc7
                      by_cases hcw : c7.rs = want'
                      · have hst := stored_any w5 d g0 s5 _ size c7 HH7.out (by have := HSZ.out; omega)
                        rw [hcw] at hst
                        have HSto := Lib.hid hst
                        clear hst
                        go_wp2_with fail
                        with_reducible refine HSto.out.mono ?_
                        rintro e w6 ⟨A6, k6, rfl, hr6, hb6⟩
                        have hsm := same_any w6 _ _ A6 A5w k6 c5w want' want' hr6.rdl (HB5.out.old hb6).lst.1 (by have := HB5.out.wlen; have := HB5.out.mlen; have := HK.out; omega)
                        rw [← HN5w.out, decide_eq_true rfl] at hsm
                        rw [← HN5w.out]
                        have HSm := Lib.hid hsm
                        have HB6 := Lib.hid hb6
                        have HR6 := Lib.hid hr6.rdl
                        clear hsm hr6 hb6 HSto
                        go_wp2_with fail
                        with_reducible refine HSm.out.mono ?_
                        rintro e w7 ⟨rfl, hb7⟩
                        have HB7 : Hid (Below w5.heap.size w5 w7) := Lib.hid (HB6.out.trans (hb7.mono HB6.out.size))
                        clear hb7 HB6 HSm HR6
                        have HPL : Hid (PlI w d g0 size (k + 1) lb (.slice A5w n5w c5w) (.slice A5m n5m c5m) want' may' true w7) := Lib.hid ⟨S5, HB5.out.old HB7.out, s5, c5, .inr ⟨rfl, HD5.out.1.old HB7.out, HD5.out.2.1, HD5.out.2.2, c7, (HH7.out.old HB7.out).mono (by omega), HC7.out⟩⟩
                        go_wp2
                        go_roundw
                        case rel =>
                          have := HK.out
                          first
                            | exact ⟨k + 1, lb, want', may', true, by omega, by go_num, rfl, rfl, HPL.out⟩
                            | ((repeat apply Exists.intro); exact ⟨⟨k + 1, lb, want', may', true, by omega, by go_num, rfl, rfl, HPL.out⟩, rfl⟩)
                        case measure => have := HK.out; simp [intOf]; omega
                      · have hcm : c7.rs = may' := HC7.out.resolve_left hcw
                        have HNE : Hid (¬ may' = want') := Lib.hid (fun e => hcw (hcm.trans e))
                        have hst := stored_any w5 d g0 s5 _ size c7 HH7.out (by have := HSZ.out; omega)
                        rw [hcm] at hst
                        have HSto := Lib.hid hst
                        clear hst
                        go_wp2_with fail
                        with_reducible refine HSto.out.mono ?_
                        rintro e w6 ⟨A6, k6, rfl, hr6, hb6⟩
                        have hsm := same_any w6 _ _ A6 A5w k6 c5w may' want' hr6.rdl (HB5.out.old hb6).lst.1 (by have := HB5.out.wlen; have := HB5.out.mlen; have := HK.out; omega)
                        rw [← HN5w.out, ← HN5m.out, decide_eq_false HNE.out] at hsm
                        rw [← HN5m.out]
                        have HSm := Lib.hid hsm
                        have HB6 := Lib.hid hb6
                        have HR6 := Lib.hid hr6.rdl
                        clear hsm hr6 hb6 HSto
                        go_wp2_with fail
                        with_reducible refine HSm.out.mono ?_
                        rintro e w7 ⟨rfl, hb7⟩
                        have HB7 : Hid (Below w5.heap.size w5 w7) := Lib.hid (HB6.out.trans (hb7.mono HB6.out.size))
                        have hsm := same_any w7 _ _ A6 A5m k6 c5m may' may' (HR6.out.old hb7) (HB5.out.old HB7.out).lst.2 (by have := HB5.out.mlen; have := HK.out; omega)
                        rw [← HN5m.out, decide_eq_true rfl] at hsm
                        have HSm2 := Lib.hid hsm
                        clear hb7 hsm HSm HB6 HR6
                        go_wp2_with fail
                        with_reducible refine HSm2.out.mono ?_
                        rintro e w8 ⟨rfl, hb8⟩
                        have HB8 := Lib.hid (HB7.out.trans (hb8.mono HB7.out.size))
                        clear hb8 HSm2
                        have HPL : Hid (PlI w d g0 size (k + 1) lb (.slice A5w n5w c5w) (.slice A5m n5m c5m) want' may' true w8) := Lib.hid ⟨S5, HB5.out.old HB8.out, s5, c5, .inr ⟨rfl, HD5.out.1.old HB8.out, HD5.out.2.1, HD5.out.2.2, c7, (HH7.out.old HB8.out).mono (by omega), HC7.out⟩⟩
                        go_wp2
                        go_roundw
                        case rel =>
                          have := HK.out
                          first
                            | exact ⟨k + 1, lb, want', may', true, by omega, by go_num, rfl, rfl, HPL.out⟩
                            | ((repeat apply Exists.intro); exact ⟨⟨k + 1, lb, want', may', true, by omega, by go_num, rfl, rfl, HPL.out⟩, rfl⟩)
                        case measure => have := HK.out; simp [intOf]; omega
            · as_aux_lemma =>
                have HLBp : Hid (d < wr.heap.size ∧ g0 < wr.heap.size ∧ lb < wr.heap.size) := Lib.hid ⟨hsys.dsk.blk.lt, hsys.dsk.row.lt, hsys.log.lt⟩
                have HSy := Lib.hid hsys.tight
                have HWas := Lib.hid (⟨hwas, hdn⟩ : c.was = true ∧ s.down = true)
                obtain ⟨c7, hc7⟩ : ∃ c7, c7 = c' := ⟨_, rfl⟩
                have HH := Lib.hid (show Has wr d g0 s (10 + 6 * k) size c7 from hc7 ▸ hhas)
                have HC7 : Hid (c7.rs = want ∨ c7.rs = may) := Lib.hid (hc7 ▸ hc')
                clear hsys hwas hdn hhas hc' hc7
                have hS1 : ∀ j, (S j ∧ j < wr.heap.size) → S j ∨ wr.heap.size ≤ j := fun j h => .inl h.1
                have HBT := Lib.hid (HBS.out.step (S' := fun j => S j ∧ j < wr.heap.size) (Kp.refl _ _) hS1)
                have hcells : ∀ W : World, Below (wr.alloc (.cells #[.int .i64 2, .int .i64 z1, .int .i64 z2, .slice oA l oc, .slice oC m ok] 35)).heap.size (wr.alloc (.cells #[.int .i64 2, .int .i64 z1, .int .i64 z2, .slice oA l oc, .slice oC m ok] 35)) W → W.cell? ⟨wr.heap.size, 0, none⟩ = some (.int .i64 2) ∧ W.cell? ⟨wr.heap.size, 1, none⟩ = some (.int .i64 z1) ∧ W.cell? ⟨wr.heap.size, 2, none⟩ = some (.int .i64 z2) ∧ W.cell? ⟨wr.heap.size, 3, none⟩ = some (.slice oA l oc) ∧ W.cell? ⟨wr.heap.size, 4, none⟩ = some (.slice oC m ok) := fun W hW => by
                  have hk := HK0.out.below hW (by have := HP.out; simp; omega)
                  rw [← HP.out]
                  exact ⟨hk.cell 0, hk.cell 1, hk.cell 2, hk.cell 3, hk.cell 4⟩
                have HCE := Lib.hid hcells
                clear hS1 hcells
                obtain ⟨w2, hw2⟩ : ∃ w2, w2 = (wr.alloc (.cells #[.int .i64 2, .int .i64 z1, .int .i64 z2, .slice oA l oc, .slice oC m ok] 35)) := ⟨_, rfl⟩
                rw [← hw2] at HCE HSo HK0
                obtain ⟨y0, y1, y2, y3, y4⟩ := HCE.out w2 (Below.refl _ _)
                go_wp2_with fail
                rw [← hw2]
                obtain ⟨NX, hNX⟩ : ∃ NX, NX = o.all := ⟨_, rfl⟩
                have HN2 : Hid (m = NX.length) := Lib.hid (by rw [hNX]; exact HMm.out)
                have HNX := Lib.hid hNX
                have HB12 : Hid (Below wr.heap.size wr w2) := HSo
                have HLX : Hid (Lst w2 d g0 lb (fun j => S j ∧ j < wr.heap.size) (.slice oC m ok) NX) := Lib.hid (lst_in (HBT.out.old HSo.out) (by rw [hNX]; exact HRA.out.keep (fun j hj _ => (HSo.out.mono HBS.out.bel.size).block j hj) HSo.out.size) HN2.out HF.out.2.2.1)
                have HNXb : Hid (NX.length ≤ 9 + k) := Lib.hid (by rw [hNX]; have := HMl.out.a; omega)
                have HY : Hid (Blk w2 wr.heap.size 35 [.int .i64 2, .int .i64 z1, .int .i64 z2, .slice oA l oc, .slice oC m ok]) := Lib.hid (HP.out ▸ HK0.out)
                clear hNX hw2 y0 y1 y2 y3 y4
                obtain ⟨sz2, hsz2⟩ : ∃ sz2, sz2 = size / 2 := ⟨_, rfl⟩
                have HS2 := Lib.hid hsz2
                have qd1 : IntKind.i64.wrap (sz2 : Int) = (sz2 : Int) := by rw [IntKind.wrap_i64]; have := HSZ.out; omega
                have qd2 : (size : Int) / 2 = (sz2 : Int) := by omega
                have HBT2 := Lib.hid (HBT.out.old HB12.out)
                have hcl : ∀ W : World, W.heap[wr.heap.size]? = w2.heap[wr.heap.size]? → W.cell? ⟨wr.heap.size, 0, none⟩ = some (.int .i64 2) ∧ W.cell? ⟨wr.heap.size, 1, none⟩ = some (.int .i64 z1) ∧ W.cell? ⟨wr.heap.size, 2, none⟩ = some (.int .i64 z2) ∧ W.cell? ⟨wr.heap.size, 3, none⟩ = some (.slice oA l oc) ∧ W.cell? ⟨wr.heap.size, 4, none⟩ = some (.slice oC m ok) := fun W hW => by
                  have hk : Blk W wr.heap.size 35 [.int .i64 2, .int .i64 z1, .int .i64 z2, .slice oA l oc, .slice oC m ok] := hW.trans HY.out
                  exact ⟨hk.cell 0, hk.cell 1, hk.cell 2, hk.cell 3, hk.cell 4⟩
                have HCL := Lib.hid hcl
                obtain ⟨y0, y1, y2, y3, y4⟩ := hcl w2 rfl
                have HPl : Hid (wr.heap.size < w2.heap.size ∧ lb ≠ wr.heap.size) := Lib.hid ⟨HY.out.lt, by have := HLBp.out; omega⟩
                clear hcl hsz2
                obtain ⟨E0, hE0⟩ : ∃ E0, newErr sz2 (c.g : Int) NX = E0 := ⟨_, rfl⟩
                have HE0 := Lib.hid hE0
                clear hE0
                have HGen := Lib.hid (gen_any w2.drew d g0 lb _ s c ((HSy.out.old HB12.out).old ((Below.refl _ _).drew)))
                have HTold : Hid (∀ W, Kp (fun j => j = lb) w2 W → Calls Try.prog 16 #[.slice Aw nw cw, .agg #[.int .i64 2, .int .i64 z1, .int .i64 z2, .slice oA l oc, .slice oC m ok], .int .i64 (sz2 : Int), .int .i64 (c.g : Int)] W fun e w' => e = .returned (.int .i64 E0) ∧ Below W.heap.size W w') := Lib.hid (fun W hW => by
                  have hx := (HLX.out.keep (w' := W) (lb' := lb) (S' := fun j => S j ∧ j < wr.heap.size) (fun j hj _ _ h9 _ => hW.block j hj h9) hW.size (fun _ h => .inl h) (.inl rfl))
                  obtain ⟨A9, c9, e9, _, h9⟩ := hx
                  injection e9 with e9 _ e9'
                  subst e9 e9'
                  have := told_two W _ oC ok NX h9 (by have := HNXb.out; have := HK.out; omega) (.slice Aw nw cw) z1 z2 oA l oc sz2 (c.g : Int) ⟨_, _, _, rfl⟩
                  rw [← HN2.out, HE0.out] at this
                  exact this)
                go_upto_region 33 with fail
                go_cut [17, 48] from 48 to 188 (fun ev iv wx => iv = .int .i64 (k : Int) ∧ ev = .int .i64 E0 ∧ ∃ w3, Sys w3 d g0 lb (fun j => S j ∧ j < wr.heap.size) s (c.seen s) ∧ Kp (fun j => j = lb) w2 w3 ∧ Below w3.heap.size w3 wx)
                case first =>
                  go_region_law (first
                    | (go_simp; go_at_call 17; (with_reducible refine HGen.out.mono ?_); rintro e w3 ⟨rfl, hw3, hk3⟩; have HW3 := Lib.hid hw3; have HK3 : Hid (Kp (fun j => j = lb) w2 w3) := Lib.hid (((Kp.refl (fun j => j = lb) w2).drew).trans hk3 (fun _ _ h => h)); obtain ⟨u0, u1, u2, u3, u4⟩ := HCL.out w3 (HK3.out.block _ HPl.out.1 (fun e => HPl.out.2 e.symm)); have HTo := Lib.hid (HTold.out w3 HK3.out); clear hw3 hk3)
                    | (go_simp; go_at_call 16; (with_reducible refine HTo.out.mono ?_); rintro e w4 ⟨rfl, hb4⟩; have HB4 := Lib.hid hb4; clear hb4)
                    | fail)
                  all_goals (try go_wp2_with fail)
                  all_goals go_meet
                  all_goals exact ⟨rfl, rfl, w3, HW3.out, HK3.out, HB4.out⟩
                case rest =>
                  obtain ⟨rfl, rfl, w3, hw3, hk3, hb4⟩ := hcut
                  obtain ⟨w4, hw4⟩ : ∃ w4, w4 = wc := ⟨_, rfl⟩
                  subst hw4
                  have HW3 := Lib.hid hw3
                  have HK3 := Lib.hid hk3
                  have HB4 := Lib.hid hb4
                  clear hw3 hk3 hb4
                  have HB24 := Lib.hid ((HK3.out.trans (Kp.old (S := fun j => j = lb) HB4.out) (fun _ _ h => h)))
                  have HBT4 := Lib.hid (HBT2.out.step (HB24.out.mono (fun _ _ e => .inr (.inr (.inl e)))) (fun _ h => .inl h))
                  obtain ⟨v0, v1, v3, v4, v5⟩ := HCL.out w4 (HB24.out.block _ HPl.out.1 (fun e => HPl.out.2 e.symm))
                  have HLX4 := Lib.hid (HLX.out.keep (w' := w4) (lb' := lb) (S' := fun j => S j ∧ j < wr.heap.size) (fun j hj _ _ h9 _ => HB24.out.block j hj h9) HB24.out.size (fun _ h => .inl h) (.inl rfl))
                  have HBw4 : Hid (Below w.heap.size wr w4) := Lib.hid ((HB12.out.mono HBS.out.bel.size).trans (HB24.out.below (Nat.le_trans HBS.out.bel.size HB12.out.size) (fun j e => by have := HBS.out.lbw; omega)))
                  clear y0 y1 y2 y3 y4 HTold HGen
                  have HSy4 := Lib.hid (HW3.out.old HB4.out)
                  have HUp := Lib.hid (up_any w4 d g0 s HSy4.out.dsk)
                  rw [HWas.out.2] at HUp
                  go_wp2_with fail
                  with_reducible refine HUp.out.mono ?_
                  rintro e w9 ⟨rfl, rfl⟩
                  have HApp := Lib.hid (anew_down w4 d g0 lb _ s (c.seen s) HSy4.out (by unfold Lc.seen; simp [HWas.out.1]) (.slice oC m ok))
                  clear HUp
                  go_wp2_with fail
                  with_reducible refine HApp.out.mono ?_
                  rintro e w5 ⟨rfl, ⟨⟨S5, hs5, hS5⟩, hk5⟩⟩
                  have hS5' : ∀ j, S5 j → (S j ∧ j < wr.heap.size) ∨ w4.heap.size ≤ j := fun j hj => by rcases hS5 j hj with e | e; exact .inl e; exact .inr e.1
                  have HB5 := Lib.hid ((HBT4.out.step hk5 hS5').up (Nat.le_succ k))
                  obtain ⟨c5, hc5⟩ : ∃ c5, c5 = (c.seen s).seen s := ⟨_, rfl⟩
                  obtain ⟨s5, hs5'⟩ : ∃ s5, s5 = s := ⟨_, rfl⟩
                  have HD5 : Hid (Sys w5 d g0 lb S5 s5 c5 ∧ c5.was = true ∧ s5.down = true) := Lib.hid ⟨by rw [hc5, hs5']; exact hs5, by rw [hc5]; unfold Lc.seen; simp [HWas.out.1], by rw [hs5']; exact HWas.out.2⟩
                  have HH7 : Hid (Has w5 d g0 s5 (10 + 6 * k) size c7) := Lib.hid (by rw [hs5']; exact ⟨hs5.dsk, HH.out.ok, HH.out.len, HH.out.sz, HH.out.wk⟩)
                  clear hk5 hS5 hS5' hs5 hc5 hs5' HApp v0 v1 v3 v4 v5 HLX4 HBT4 HB24
                  by_cases hcw : c7.rs = want
                  · have hst := stored_any w5 d g0 s5 _ size c7 HH7.out (by have := HSZ.out; omega)
                    rw [hcw] at hst
                    have HSto := Lib.hid hst
                    clear hst
                    go_wp2_with fail
                    with_reducible refine HSto.out.mono ?_
                    rintro e w6 ⟨A6, k6, rfl, hr6, hb6⟩
                    have hsm := same_any w6 _ _ A6 Aw k6 cw want want hr6.rdl (HB5.out.old hb6).lst.1 (by have := HB5.out.wlen; have := HB5.out.mlen; have := HK.out; omega)
                    rw [← HNW.out, decide_eq_true rfl] at hsm
                    rw [← HNW.out]
                    have HSm := Lib.hid hsm
                    have HB6 := Lib.hid hb6
                    have HR6 := Lib.hid hr6.rdl
                    clear hsm hr6 hb6 HSto
                    go_wp2_with fail
                    with_reducible refine HSm.out.mono ?_
                    rintro e w7 ⟨rfl, hb7⟩
                    have HB7 : Hid (Below w5.heap.size w5 w7) := Lib.hid (HB6.out.trans (hb7.mono HB6.out.size))
                    clear hb7 HB6 HSm HR6
                    have HPL : Hid (PlI w d g0 size (k + 1) lb (.slice Aw nw cw) (.slice Am nm cm) want may true w7) := Lib.hid ⟨S5, HB5.out.old HB7.out, s5, c5, .inr ⟨rfl, HD5.out.1.old HB7.out, HD5.out.2.1, HD5.out.2.2, c7, (HH7.out.old HB7.out).mono (by omega), HC7.out⟩⟩
                    go_wp2
                    go_roundw
                    case rel =>
                      have := HK.out
                      first
                        | exact ⟨k + 1, lb, want, may, true, by omega, by go_num, rfl, rfl, HPL.out⟩
                        | ((repeat apply Exists.intro); exact ⟨⟨k + 1, lb, want, may, true, by omega, by go_num, rfl, rfl, HPL.out⟩, rfl⟩)
                    case measure => have := HK.out; simp [intOf]; omega
                  · have hcm : c7.rs = may := HC7.out.resolve_left hcw
                    have HNE : Hid (¬ may = want) := Lib.hid (fun e => hcw (hcm.trans e))
                    have hst := stored_any w5 d g0 s5 _ size c7 HH7.out (by have := HSZ.out; omega)
                    rw [hcm] at hst
                    have HSto := Lib.hid hst
                    clear hst
                    go_wp2_with fail
                    with_reducible refine HSto.out.mono ?_
                    rintro e w6 ⟨A6, k6, rfl, hr6, hb6⟩
                    have hsm := same_any w6 _ _ A6 Aw k6 cw may want hr6.rdl (HB5.out.old hb6).lst.1 (by have := HB5.out.wlen; have := HB5.out.mlen; have := HK.out; omega)
                    rw [← HNW.out, ← HNM.out, decide_eq_false HNE.out] at hsm
                    rw [← HNM.out]
                    have HSm := Lib.hid hsm
                    have HB6 := Lib.hid hb6
                    have HR6 := Lib.hid hr6.rdl
                    clear hsm hr6 hb6 HSto
                    go_wp2_with fail
                    with_reducible refine HSm.out.mono ?_
                    rintro e w7 ⟨rfl, hb7⟩
                    have HB7 : Hid (Below w5.heap.size w5 w7) := Lib.hid (HB6.out.trans (hb7.mono HB6.out.size))
                    have hsm := same_any w7 _ _ A6 Am k6 cm may may (HR6.out.old hb7) (HB5.out.old HB7.out).lst.2 (by have := HB5.out.mlen; have := HK.out; omega)
                    rw [← HNM.out, decide_eq_true rfl] at hsm
                    have HSm2 := Lib.hid hsm
                    clear hb7 hsm HSm HB6 HR6
                    go_wp2_with fail
                    with_reducible refine HSm2.out.mono ?_
                    rintro e w8 ⟨rfl, hb8⟩
                    have HB8 := Lib.hid (HB7.out.trans (hb8.mono HB7.out.size))
                    clear hb8 HSm2
                    have HPL : Hid (PlI w d g0 size (k + 1) lb (.slice Aw nw cw) (.slice Am nm cm) want may true w8) := Lib.hid ⟨S5, HB5.out.old HB8.out, s5, c5, .inr ⟨rfl, HD5.out.1.old HB8.out, HD5.out.2.1, HD5.out.2.2, c7, (HH7.out.old HB8.out).mono (by omega), HC7.out⟩⟩
                    go_wp2
                    go_roundw
                    case rel =>
                      have := HK.out
                      first
                        | exact ⟨k + 1, lb, want, may, true, by omega, by go_num, rfl, rfl, HPL.out⟩
                        | ((repeat apply Exists.intro); exact ⟨⟨k + 1, lb, want, may, true, by omega, by go_num, rfl, rfl, HPL.out⟩, rfl⟩)
                    case measure => have := HK.out; simp [intOf]; omega
          · rcases HWY.out with ⟨rfl, hw, hr⟩ | ⟨rfl, hsys, hwas, hdn, c', hhas, hc'⟩
            · as_aux_lemma =>
                have HLt := Lib.hid (light_play (wr.alloc (.cells #[.int .i64 3, .int .i64 z1, .int .i64 z2, .slice oA l oc, .slice oC m ok] 35)) d g0 s (hw.sys.old HSo.out).dsk z1 z2)
                have HW := Lib.hid hw
                have HR := Lib.hid hr
                clear hw hr
                go_wp2_with fail
                with_reducible refine HLt.out.mono ?_
                rintro e w4 ⟨⟨z, rfl⟩, hb4, s4, hd4, hs4⟩
                have HPL : Hid (PlI w d g0 size (k + 1) lb (.slice Aw nw cw) (.slice Am nm cm) want may false w4) := Lib.hid (by
                  exact ⟨S, ((HBS.out.old HSo.out).but hb4).up (by omega), s4, c, .inl ⟨rfl, ((HW.out.old HSo.out).lit hd4 hb4 HF.out.2.2.2 hs4).mono (by omega), HR.out⟩⟩)
                clear hb4 hd4 hs4 HLt
                go_wp2
                go_roundw
                case rel =>
                  have := HK.out
                  first
                    | exact ⟨k + 1, lb, want, may, false, by omega, by go_num, rfl, rfl, HPL.out⟩
                    | ((repeat apply Exists.intro); exact ⟨⟨k + 1, lb, want, may, false, by omega, by go_num, rfl, rfl, HPL.out⟩, rfl⟩)
                case measure => have := HK.out; simp [intOf]; omega
            · as_aux_lemma =>
                have HLt := Lib.hid (light_play (wr.alloc (.cells #[.int .i64 3, .int .i64 z1, .int .i64 z2, .slice oA l oc, .slice oC m ok] 35)) d g0 s (hsys.old HSo.out).dsk z1 z2)
                have HD := Lib.hid (⟨hsys, hwas, hdn, c', hhas, hc'⟩ : Sys wr d g0 lb S s c ∧ c.was = true ∧ s.down = true ∧ ∃ c', Has wr d g0 s (10 + 6 * k) size c' ∧ (c'.rs = want ∨ c'.rs = may))
                clear hsys hwas hdn hhas hc'
                go_wp2_with fail
                with_reducible refine HLt.out.mono ?_
                rintro e w4 ⟨⟨z, rfl⟩, hb4, s4, hd4, hs4⟩
                have HPL : Hid (PlI w d g0 size (k + 1) lb (.slice Aw nw cw) (.slice Am nm cm) want may true w4) := Lib.hid (by
                  obtain ⟨h1, h2, h3, c', h4, h5⟩ := HD.out
                  obtain ⟨h6, h7⟩ := (h4.old HSo.out).lit hd4 HF.out.2.2.2 hs4
                  exact ⟨S, ((HBS.out.old HSo.out).but hb4).up (by omega), s4, c, .inr ⟨rfl, (h1.old HSo.out).disk hd4 hb4, h2, h7.trans h3, c', h6.mono (by omega), h5⟩⟩)
                clear hb4 hd4 hs4 HLt
                go_wp2
                go_roundw
                case rel =>
                  have := HK.out
                  first
                    | exact ⟨k + 1, lb, want, may, true, by omega, by go_num, rfl, rfl, HPL.out⟩
                    | ((repeat apply Exists.intro); exact ⟨⟨k + 1, lb, want, may, true, by omega, by go_num, rfl, rfl, HPL.out⟩, rfl⟩)
                case measure => have := HK.out; simp [intOf]; omega
          · rcases HWY.out with ⟨rfl, hw, hr⟩ | ⟨rfl, hsys, hwas, hdn, c', hhas, hc'⟩
            · as_aux_lemma =>
                obtain ⟨c0, hc0⟩ : ∃ c0, c0 = c := ⟨_, rfl⟩
                have HHas : Hid (Has wr d g0 s (10 + 6 * k) size c0) := Lib.hid (hc0 ▸ hw.has)
                have HC0 : Hid (c0.rs = want) := Lib.hid (hc0 ▸ hr)
                clear hw hr hc0
                have HSt := Lib.hid (start_log (HHas.out.old HSo.out))
                go_wp2_with fail
                with_reducible refine HSt.out.mono ?_
                rintro e w4 ⟨rfl, h4, hb4⟩
                have HB4 := Lib.hid ((HBS.out.old HSo.out).but hb4)
                have HOp := Lib.hid (open_calm w4 d g0 _ _ size c0 h4 rfl rfl (by have := HK.out; omega) (by have := HSZ.out; omega))
                clear h4 hb4 HSt
                go_wp2_with fail
                with_reducible refine HOp.out.mono ?_
                rintro e w5 ⟨lb5, s5, rfl, hlb5, hb5, hset5, hw5⟩
                obtain ⟨c5, hc5⟩ : ∃ c5 : Lc, c5 = { c0 with was := false } := ⟨_, rfl⟩
                rw [← hc5] at hw5
                have hr5 : c5.rs = c0.rs := by rw [hc5]
                have HB5 := Lib.hid (HB4.out.opened (S' := fun j => w4.heap.size ≤ j ∧ j < lb5) hb5 hlb5 (fun j e => e.1))
                have HW5 := Lib.hid hw5
                have HLB5 : Hid (d < w5.heap.size ∧ g0 < w5.heap.size ∧ lb5 < w5.heap.size) := Lib.hid ⟨hw5.sys.dsk.blk.lt, hw5.sys.dsk.row.lt, hw5.sys.log.lt⟩
                have hrec := records_log hw5 (by have := HSZ.out; omega)
                rw [hr5] at hrec
                have HR5 := Lib.hid hr5
                clear hb5 hset5 hw5 hc5 hr5 HOp HB4
                rw [HC0.out, ← HNW.out] at hrec
                have HRec := Lib.hid hrec
                clear hrec
                go_wp2_with fail
                with_reducible refine HRec.out.mono ?_
                rintro e w6 ⟨r, rfl, hrl, hw6, hk6⟩
                have HRL6 := Lib.hid hrl
                have HB6 := Lib.hid (HB5.out.step (S' := fun j => w4.heap.size ≤ j ∧ j < lb5) (hk6.mono (fun _ _ e => .inr (.inr (.inl e)))) (fun _ h => .inl h))
                have HW6 := Lib.hid hw6
                clear hrl hw6 hk6 HRec HB5 HW5
                have hsm := same_any w6 _ _ (some ⟨r, 0, none⟩) Aw nw cw want want HRL6.out.rdl HB6.out.lst.1 (by have := HBS.out.wlen; have := HBS.out.mlen; have := HK.out; omega)
                rw [← HNW.out, decide_eq_true rfl] at hsm
                have HSm := Lib.hid hsm
                clear hsm
                go_wp2_with fail
                with_reducible refine HSm.out.mono ?_
                rintro e w7 ⟨rfl, hb7⟩
                have HB7 := Lib.hid hb7
                clear hb7
                have HPL : Hid (PlI w d g0 size (k + 1) lb5 (.slice (some ⟨r, 0, none⟩) nw nw) (.slice Am nm cm) want may false w7) := Lib.hid (by
                  refine ⟨_, (HB6.out.got r nw want HNW.out HRL6.out (fun j hj => by have := HLB5.out; omega) HLB5.out.1 HLB5.out.2.1 HLB5.out.2.2 (by rw [← HC0.out]; exact HHas.out.wk.ch.sizes) (by have := HBS.out.wlen; have := HBS.out.mlen; omega)).old HB7.out, s5, c5, .inl ⟨rfl, (HW6.out.old HB7.out).mono (by omega), HR5.out.trans HC0.out⟩⟩)
                go_wp2
                go_roundw
                case rel =>
                  have := HK.out
                  first
                    | exact ⟨k + 1, lb5, want, may, false, by omega, by go_num, rfl, rfl, HPL.out⟩
                    | ((repeat apply Exists.intro); exact ⟨⟨k + 1, lb5, want, may, false, by omega, by go_num, rfl, rfl, HPL.out⟩, rfl⟩)
                case measure => have := HK.out; simp [intOf]; omega
            · as_aux_lemma =>
                obtain ⟨c0, hc0⟩ : ∃ c0, c0 = c' := ⟨_, rfl⟩
                have HHas : Hid (Has wr d g0 s (10 + 6 * k) size c0) := Lib.hid (hc0 ▸ hhas)
                have HC : Hid (c0.rs = want ∨ c0.rs = may) := Lib.hid (hc0 ▸ hc')
                clear hsys hwas hdn hhas hc' hc0
                have HSt := Lib.hid (start_log (HHas.out.old HSo.out))
                go_wp2_with fail
                with_reducible refine HSt.out.mono ?_
                rintro e w4 ⟨rfl, h4, hb4⟩
                have HB4 := Lib.hid ((HBS.out.old HSo.out).but hb4)
                have HOp := Lib.hid (open_calm w4 d g0 _ _ size c0 h4 rfl rfl (by have := HK.out; omega) (by have := HSZ.out; omega))
                clear h4 hb4 HSt
                go_wp2_with fail
                with_reducible refine HOp.out.mono ?_
                rintro e w5 ⟨lb5, s5, rfl, hlb5, hb5, hset5, hw5⟩
                obtain ⟨c5, hc5⟩ : ∃ c5 : Lc, c5 = { c0 with was := false } := ⟨_, rfl⟩
                rw [← hc5] at hw5
                have hr5 : c5.rs = c0.rs := by rw [hc5]
                have HB5 := Lib.hid (HB4.out.opened (S' := fun j => w4.heap.size ≤ j ∧ j < lb5) hb5 hlb5 (fun j e => e.1))
                have HW5 := Lib.hid hw5
                have HLB5 : Hid (d < w5.heap.size ∧ g0 < w5.heap.size ∧ lb5 < w5.heap.size) := Lib.hid ⟨hw5.sys.dsk.blk.lt, hw5.sys.dsk.row.lt, hw5.sys.log.lt⟩
                have hrec := records_log hw5 (by have := HSZ.out; omega)
                rw [hr5] at hrec
                have HR5 := Lib.hid hr5
                clear hb5 hset5 hw5 hc5 hr5 HOp HB4
                by_cases hcw : c0.rs = want
                · have HC0 := Lib.hid hcw
                  clear hcw
                  rw [HC0.out, ← HNW.out] at hrec
                  have HRec := Lib.hid hrec
                  clear hrec
                  go_wp2_with fail
                  with_reducible refine HRec.out.mono ?_
                  rintro e w6 ⟨r, rfl, hrl, hw6, hk6⟩
                  have HRL6 := Lib.hid hrl
                  have HB6 := Lib.hid (HB5.out.step (S' := fun j => w4.heap.size ≤ j ∧ j < lb5) (hk6.mono (fun _ _ e => .inr (.inr (.inl e)))) (fun _ h => .inl h))
                  have HW6 := Lib.hid hw6
                  clear hrl hw6 hk6 HRec HB5 HW5
                  have hsm := same_any w6 _ _ (some ⟨r, 0, none⟩) Aw nw cw want want HRL6.out.rdl HB6.out.lst.1 (by have := HBS.out.wlen; have := HBS.out.mlen; have := HK.out; omega)
                  rw [← HNW.out, decide_eq_true rfl] at hsm
                  have HSm := Lib.hid hsm
                  clear hsm
                  go_wp2_with fail
                  with_reducible refine HSm.out.mono ?_
                  rintro e w7 ⟨rfl, hb7⟩
                  have HB7 := Lib.hid hb7
                  clear hb7
                  have HPL : Hid (PlI w d g0 size (k + 1) lb5 (.slice (some ⟨r, 0, none⟩) nw nw) (.slice Am nm cm) want may false w7) := Lib.hid (by
                    refine ⟨_, (HB6.out.got r nw want HNW.out HRL6.out (fun j hj => by have := HLB5.out; omega) HLB5.out.1 HLB5.out.2.1 HLB5.out.2.2 (by rw [← HC0.out]; exact HHas.out.wk.ch.sizes) (by have := HBS.out.wlen; have := HBS.out.mlen; omega)).old HB7.out, s5, c5, .inl ⟨rfl, (HW6.out.old HB7.out).mono (by omega), HR5.out.trans HC0.out⟩⟩)
                  go_wp2
                  go_roundw
                  case rel =>
                    have := HK.out
                    first
                      | exact ⟨k + 1, lb5, want, may, false, by omega, by go_num, rfl, rfl, HPL.out⟩
                      | ((repeat apply Exists.intro); exact ⟨⟨k + 1, lb5, want, may, false, by omega, by go_num, rfl, rfl, HPL.out⟩, rfl⟩)
                  case measure => have := HK.out; simp [intOf]; omega

                · have hcm : c0.rs = may := HC.out.resolve_left hcw
                  have HC0 := Lib.hid hcm
                  have HNE : Hid (¬ may = want) := Lib.hid (fun e => hcw (hcm.trans e))
                  clear hcw hcm
                  rw [HC0.out, ← HNM.out] at hrec
                  have HRec := Lib.hid hrec
                  clear hrec
                  go_wp2_with fail
                  with_reducible refine HRec.out.mono ?_
                  rintro e w6 ⟨r, rfl, hrl, hw6, hk6⟩
                  have HRL6 := Lib.hid hrl
                  have HB6 := Lib.hid (HB5.out.step (S' := fun j => w4.heap.size ≤ j ∧ j < lb5) (hk6.mono (fun _ _ e => .inr (.inr (.inl e)))) (fun _ h => .inl h))
                  have HW6 := Lib.hid hw6
                  clear hrl hw6 hk6 HRec HB5 HW5
                  have hsm := same_any w6 _ _ (some ⟨r, 0, none⟩) Aw nm cw may want HRL6.out.rdl HB6.out.lst.1 (by have := HBS.out.wlen; have := HBS.out.mlen; have := HK.out; omega)
                  rw [← HNW.out, ← HNM.out, decide_eq_false HNE.out] at hsm
                  have HSm := Lib.hid hsm
                  clear hsm
                  go_wp2_with fail
                  with_reducible refine HSm.out.mono ?_
                  rintro e w7 ⟨rfl, hb7⟩
                  have HB7 := Lib.hid hb7
                  have hsm := same_any w7 _ _ (some ⟨r, 0, none⟩) Am nm cm may may (HRL6.out.rdl.old hb7) (HB6.out.old hb7).lst.2 (by have := HBS.out.mlen; have := HK.out; omega)
                  rw [← HNM.out, decide_eq_true rfl] at hsm
                  have HSm2 := Lib.hid hsm
                  clear hb7 hsm HSm
                  go_wp2_with fail
                  with_reducible refine HSm2.out.mono ?_
                  rintro e w8 ⟨rfl, hb8⟩
                  have HB8 := Lib.hid (HB7.out.trans (hb8.mono HB7.out.size))
                  clear hb8 HB7 HSm2
                  have HPL : Hid (PlI w d g0 size (k + 1) lb5 (.slice (some ⟨r, 0, none⟩) nm nm) (.slice Am nm cm) may may false w8) := Lib.hid (by
                    refine ⟨_, (HB6.out.got r nm may HNM.out HRL6.out (fun j hj => by have := HLB5.out; omega) HLB5.out.1 HLB5.out.2.1 HLB5.out.2.2 (by rw [← HC0.out]; exact HHas.out.wk.ch.sizes) (by have := HBS.out.wlen; have := HBS.out.mlen; omega)).old HB8.out, s5, c5, .inl ⟨rfl, (HW6.out.old HB8.out).mono (by omega), HR5.out.trans HC0.out⟩⟩)
                  go_wp2
                  go_roundw
                  case rel =>
                    have := HK.out
                    first
                      | exact ⟨k + 1, lb5, may, may, false, by omega, by go_num, rfl, rfl, HPL.out⟩
                      | ((repeat apply Exists.intro); exact ⟨⟨k + 1, lb5, may, may, false, by omega, by go_num, rfl, rfl, HPL.out⟩, rfl⟩)
                  case measure => have := HK.out; simp [intOf]; omega
        · have k1 : (kd == 1) = false := by simp; omega
          have k2 : (kd == 2) = false := by simp; omega
          have k3 : (kd == 3) = false := by simp; omega
          have k4 : (kd == 4) = false := by simp; omega
          have HPL : Hid (PlI w d g0 size (k + 1) lb (.slice Aw nw cw) (.slice Am nm cm) want may cut (wr.alloc (.cells #[.int .i64 kd, .int .i64 z1, .int .i64 z2, .slice oA l oc, .slice oC m ok] 35))) := Lib.hid (by
            refine ⟨S, (HBS.out.old HSo.out).up (by omega), s, c, ?_⟩
            rcases HWY.out with ⟨e1, e2, e3⟩ | ⟨e1, e2, e3, e4, c', e5, e6⟩
            · exact .inl ⟨e1, (e2.old HSo.out).mono (by omega), e3⟩
            · exact .inr ⟨e1, e2.old HSo.out, e3, e4, c', (e5.old HSo.out).mono (by omega), e6⟩)
          clear hkd
          go_wp2
          go_roundw
          case rel =>
            have := HK.out
            first
              | exact ⟨k + 1, lb, want, may, cut, by omega, by go_num, rfl, rfl, HPL.out⟩
              | ((repeat apply Exists.intro); exact ⟨⟨k + 1, lb, want, may, cut, by omega, by go_num, rfl, rfl, HPL.out⟩, rfl⟩)
          case measure => have := HK.out; simp [intOf]; omega
      · obtain rfl : k = N := by omega
        clear hlt hk
        go_wp2
        go_ret
        exact ⟨rfl, HBS.out.bel⟩
theorem plays_any (w : World) (size : Int) (A : Option Addr) (k : Nat) (os : List OpW) (hO : RdOps w w.heap.size A os) (hn : os.length ≤ maxLen) :
    Calls Try.prog 3 #[.int .i64 size, .slice A os.length k] w fun e w' => e = .returned (.bool true) ∧ Below w.heap.size w w' := by
  by_cases h : size < 1024 ∨ 3000 < size
  · exact plays_none w size A k os h
  · obtain ⟨n, rfl⟩ : ∃ n : Nat, size = (n : Int) := ⟨size.toNat, by omega⟩
    exact plays_ok w n A k os hO hn (by omega) (by omega)
end Go.Proofs.Ytaoaegkfejlgkaa.Dsk
