/-
  Steps that came in, and the statements' mild of layer 8.
-/
import Derived.Test.YtaoaegkfejlgkaaP1
namespace Go.Proofs.Ytaoaegkfejlgkaa.Dsk
open Go.RowKit
structure OpW where
  kind : Int
  at' : Int
  n : Int
  data : List UInt8
  A : Option Addr
  c : Nat
  all : List (List UInt8)
  C : Option Addr
  k : Nat
/-- One step in memory. -/
def StepW (W : World) (S : Nat → Prop) (ad : Addr) (j : Nat) (o : OpW) : Prop := W.cell? (ad.add (j * 5)) = some (.int .i64 o.kind) ∧ W.cell? ⟨(ad.add (j * 5)).block, (ad.add (j * 5)).off + 1, none⟩ = some (.int .i64 o.at') ∧ W.cell? ⟨(ad.add (j * 5)).block, (ad.add (j * 5)).off + 2, none⟩ = some (.int .i64 o.n) ∧
  W.cell? ⟨(ad.add (j * 5)).block, (ad.add (j * 5)).off + 3, none⟩ = some (.slice o.A o.data.length o.c) ∧ W.cell? ⟨(ad.add (j * 5)).block, (ad.add (j * 5)).off + 4, none⟩ = some (.slice o.C o.all.length o.k) ∧ Rd W S o.A o.data ∧ RdL W S o.C o.all
/-- What holds of each step's parts. -/
structure OpW.fine (o : OpW) : Prop where
  a1 : -9223372036854775808 ≤ o.at' ∧ o.at' ≤ 9223372036854775807
  n1 : -9223372036854775808 ≤ o.n ∧ o.n ≤ 9223372036854775807
  dc : o.data.length ≤ o.c
  dn : o.A = none → o.c = 0
  cc : o.all.length ≤ o.k
  cn : o.C = none → o.k = 0
  cm : o.k ≤ maxLen
  dm : o.c ≤ maxLen
def RdOps (W : World) (B : Nat) (A : Option Addr) (os : List OpW) : Prop := ∀ (j : Nat) o, os[j]? = some o → ∃ ad, A = some ad ∧ ad.block < B ∧ StepW W (· < B) ad j o ∧ o.fine
theorem RdOps.below {W W' : World} {B : Nat} {A : Option Addr} {os : List OpW} (h : RdOps W B A os) (hb : Below B W W') : RdOps W' B A os := fun j o hj => by
  obtain ⟨ad, e, hlt, ⟨s0, s1, s2, s3, s4, s5, s6⟩, hf⟩ := h j o hj
  have hbl : (ad.add (j * 5)).block < B := by rw [block_add]; exact hlt
  refine ⟨ad, e, hlt, ⟨?_, ?_, ?_, ?_, ?_, s5.below hb (fun k h => h), s6.keep (fun k hk _ => hb.block k hk) hb.size⟩, hf⟩
  · rw [hb.cell hbl]; exact s0
  · rw [hb.cell (p := ⟨(ad.add (j * 5)).block, (ad.add (j * 5)).off + 1, none⟩) hbl]; exact s1
  · rw [hb.cell (p := ⟨(ad.add (j * 5)).block, (ad.add (j * 5)).off + 2, none⟩) hbl]; exact s2
  · rw [hb.cell (p := ⟨(ad.add (j * 5)).block, (ad.add (j * 5)).off + 3, none⟩) hbl]; exact s3
  · rw [hb.cell (p := ⟨(ad.add (j * 5)).block, (ad.add (j * 5)).off + 4, none⟩) hbl]; exact s4
structure OpW.mild (o : OpW) : Prop where
  d : o.data.length ≤ 300
  a : o.all.length ≤ 8
  e : ∀ b ∈ o.all, b.length ≤ 300
/-- What mild hands back. -/
def MildR (w : World) (os : List OpW) (e : Ending) (w' : World) : Prop := ∃ b : Bool, e = .returned (.bool b) ∧ (b = true → os.length ≤ 40 ∧ ∀ o ∈ os, o.mild) ∧ Below w.heap.size w w'
set_option maxRecDepth 100000
set_option maxHeartbeats 4000000 in
theorem wmild_any (w : World) (A : Option Addr) (k : Nat) (os : List OpW) (h : RdOps w w.heap.size A os) (hn : os.length ≤ maxLen) :
    Calls Try.prog 9 #[.slice A os.length k] w (MildR w os) := by
  obtain ⟨N, hN⟩ : ∃ N, N = os.length := ⟨_, rfl⟩
  have HN := Lib.hid hN
  have H := Lib.hid h
  rw [← hN] at hn ⊢
  have hn' : N ≤ 9223372036854775807 := by unfold maxLen at hn; omega
  have HNB := Lib.hid hn'
  clear h hN hn hn'
  go_enter Try.func9, Try.ntmps9
  go_wp2
  go_loopw [9] (fun i wr => ∃ k : Nat, k ≤ N ∧ i = .int .i64 (k : Int) ∧ (∀ o ∈ os.take k, o.mild) ∧ Below w.heap.size w wr) (fun i _ => N - (intOf i).toNat)
  case atStart => exact ⟨0, Nat.zero_le _, rfl, fun o ho => by simp at ho, Below.refl _ _⟩
  case round =>
    obtain ⟨j, hj, rfl, hm, hb⟩ := hrel
    have HM := Lib.hid hm
    have HB := Lib.hid hb
    clear hm hb
    by_cases hlt : j < N
    · obtain ⟨o, ho⟩ : ∃ o, os[j]? = some o := ⟨_, List.getElem?_eq_getElem (by have := HN.out; omega)⟩
      obtain ⟨ad, rfl, had, ⟨s0, s1, s2, s3, s4, s5, s6⟩, hf⟩ := (H.out.below HB.out) j o ho
      have HS6 := Lib.hid s6
      have HO := Lib.hid ho
      have HLT := Lib.hid hlt
      have hjN : (j : Int) < N := by omega
      have q3 : IntKind.i64.wrap ((j : Int) + 1) = (j : Int) + 1 := by rw [IntKind.wrap_i64]; have := HNB.out; omega
      have hlens := (⟨hf.dc, hf.cc, hf.cm, hf.dm⟩ : _ ∧ _ ∧ _ ∧ _)
      unfold maxLen at hlens
      obtain ⟨oA, hoA⟩ : ∃ oA, oA = o.A := ⟨_, rfl⟩
      obtain ⟨oC, hoC⟩ : ∃ oC, oC = o.C := ⟨_, rfl⟩
      obtain ⟨oc, hoc⟩ : ∃ oc, oc = o.c := ⟨_, rfl⟩
      obtain ⟨ok, hok⟩ : ∃ ok, ok = o.k := ⟨_, rfl⟩
      obtain ⟨l, hl⟩ : ∃ l, l = o.data.length := ⟨_, rfl⟩
      obtain ⟨m, hm⟩ : ∃ m, m = o.all.length := ⟨_, rfl⟩
      obtain ⟨kd, hkd⟩ : ∃ kd, kd = o.kind := ⟨_, rfl⟩
      obtain ⟨z1, hz1⟩ : ∃ z1, z1 = o.at' := ⟨_, rfl⟩
      obtain ⟨z2, hz2⟩ : ∃ z2, z2 = o.n := ⟨_, rfl⟩
      rw [← hkd] at s0
      rw [← hz1] at s1
      rw [← hz2] at s2
      rw [← hoA, ← hl, ← hoc] at s3
      rw [← hoC, ← hm, ← hok] at s4
      rw [← hoC] at HS6
      have HL := Lib.hid hl
      have HMm := Lib.hid hm
      have hk0 := Blk.new wr 35 #[.int .i64 kd, .int .i64 z1, .int .i64 z2, .slice oA l oc, .slice oC m ok] _ rfl
      have hb0 : Below wr.heap.size wr (wr.alloc (.cells #[.int .i64 kd, .int .i64 z1, .int .i64 z2, .slice oA l oc, .slice oC m ok] 35)) := (Below.refl _ _).alloc (Nat.le_refl _) _
      have HB0 : Hid (Below w.heap.size w (wr.alloc (.cells #[.int .i64 kd, .int .i64 z1, .int .i64 z2, .slice oA l oc, .slice oC m ok] 35))) := Lib.hid (HB.out.trans (hb0.mono HB.out.size))
      have HS6' := Lib.hid (HS6.out.old hb0)
      clear s5 s6 hf ho hlt hoA hoC hoc hok hl hm hkd hz1 hz2 hk0 hb0
      by_cases hbig : 300 < l ∨ 8 < m
      · have hbd : (300 : Int) < l ∨ (¬ (300 : Int) < l ∧ (8 : Int) < m) := by omega
        clear hbig
        rcases hbd with y1 | ⟨y1, y2⟩
        all_goals
          go_wp2
          go_ret
          exact ⟨false, rfl, (fun h => by cases h), HB0.out⟩
      · have y1 : ¬ (300 : Int) < l := by omega
        have y2 : ¬ (8 : Int) < m := by omega
        have HM8 : Hid (m ≤ 8 ∧ l ≤ 300) := Lib.hid (by omega)
        clear hbig
        go_wp2
        obtain ⟨wo, hwo⟩ : ∃ wo, wo = wr := ⟨_, rfl⟩
        subst hwo
        generalize (wo.alloc (.cells #[.int .i64 kd, .int .i64 z1, .int .i64 z2, .slice oA l oc, .slice oC m ok] 35)) = w3 at *
        go_loopw [26] (fun i wr => ∃ k : Nat, k ≤ m ∧ i = .int .i64 (k : Int) ∧ (∀ b ∈ o.all.take k, b.length ≤ 300) ∧ wr = w3) (fun i _ => m - (intOf i).toNat)
        case atStart => exact ⟨0, Nat.zero_le _, rfl, fun b hb => by simp at hb, rfl⟩
        case round =>
          obtain ⟨i, hi, rfl, hbs, rfl⟩ := hrel
          have HBs := Lib.hid hbs
          clear hbs
          by_cases hlt : i < m
          · obtain ⟨x, hx⟩ : ∃ x, o.all[i]? = some x := ⟨_, List.getElem?_eq_getElem (by have := HMm.out; omega)⟩
            obtain ⟨a2, B, cx, e2, _, hb1, hcell, hxc, hrx⟩ := HS6'.out i x hx
            subst e2
            have hin : (i : Int) < m := by omega
            have q4 : IntKind.i64.wrap ((i : Int) + 1) = (i : Int) + 1 := by rw [IntKind.wrap_i64]; have := HM8.out; omega
            obtain ⟨lx, hlx⟩ : ∃ lx, lx = x.length := ⟨_, rfl⟩
            rw [← hlx] at hcell
            have HLX := Lib.hid hlx
            have HX := Lib.hid hx
            have HLT2 := Lib.hid hlt
            clear hx hrx hxc hb1 hlx hlt
            by_cases hg : 300 < lx
            · have y3 : (300 : Int) < lx := by omega
              go_wp2
              go_ret
              exact ⟨false, rfl, (fun h => by cases h), HB0.out⟩
            · have y3 : ¬ (300 : Int) < lx := by omega
              have HG := Lib.hid hg
              clear hg
              go_wp2
              go_roundw
              case rel =>
                refine ⟨i + 1, by have := HLT2.out; omega, by go_num, ?_, by first | rfl | trivial⟩
                rw [List.take_add_one, HX.out]
                intro b hb
                rcases List.mem_append.1 hb with hb | hb
                · exact HBs.out b hb
                · simp at hb
                  subst hb
                  have := HG.out
                  have := HLX.out
                  omega
              case measure => have := HLT2.out; simp [intOf]; omega
          · obtain rfl : i = m := by omega
            have htk : o.all.take i = o.all := List.take_of_length_le (by have := HMm.out; omega)
            rw [htk] at HBs
            clear htk hlt hi
            go_wp2
            go_roundw
            case rel =>
              refine ⟨j + 1, by have := HLT.out; omega, by go_num, ?_, HB0.out⟩
              rw [List.take_add_one, HO.out]
              intro p hp
              rcases List.mem_append.1 hp with hp | hp
              · exact HM.out p hp
              · simp at hp
                subst hp
                exact ⟨by have := HL.out; have := HM8.out; omega, by have := HMm.out; have := HM8.out; omega, HBs.out⟩
            case measure => have := HLT.out; simp [intOf]; omega
    · obtain rfl : j = N := by omega
      have htk : os.take j = os := List.take_of_length_le (by have := HN.out; omega)
      rw [htk] at HM
      clear htk hlt hj
      go_wp2
      go_ret
      refine ⟨decide ((j : Int) ≤ 40), rfl, fun h => ⟨?_, HM.out⟩, HB.out⟩
      have := of_decide_eq_true h
      have := HN.out
      omega
end Go.Proofs.Ytaoaegkfejlgkaa.Dsk
