/-
  What the document's Sum computes: the hash of the plain mathematics, in a row of its own.
-/
import Derived.Test.YtfkkpbfoipfekaaDoorRA
import Derived.Deep.RegionHeld3
import Derived.Deep.Onto
namespace Go.Proofs.YtfkkpbfoipfekaaDoor
open Go.RowKit
/-- Bytes in a new block, as a slice that reads as them. -/
theorem new_rdb (w : World) (l : List Nat) : RdB (w.alloc (.cells (Vs .u8 l) 5)) (w.alloc (.cells (Vs .u8 l) 5)).heap.size (some ⟨w.heap.size, 0, none⟩) l := fun _ => by
  refine ⟨_, rfl, by simp, fun j u hu => ?_⟩
  rw [Addr.add_mid, Nat.zero_add, (Blk.new w 5 (Vs .u8 l)).cell]
  simpa [Vs] using hu
theorem pad_more (n j : Nat) (h : j < Sha.zerosFor n) : (n + 1 + j) % 64 ≠ 56 := by unfold Sha.zerosFor at h; omega
theorem pad_done (n : Nat) : (n + 1 + Sha.zerosFor n) % 64 = 56 := by unfold Sha.zerosFor; omega
def padded (m : List Nat) (j : Nat) : List Nat := m ++ 128 :: List.replicate j 0
theorem padded_length (m : List Nat) (j : Nat) : (padded m j).length = m.length + 1 + j := by simp [padded]; omega
theorem padded_succ (m : List Nat) (j : Nat) : padded m j ++ [0] = padded m (j + 1) := by
  simp [padded, List.replicate_succ']
theorem pad_whole2 {q0 q1 q2 q3 : Nat} (m : List Nat) (h : m.length ≤ 400) (h0 : q0 = 0) (h1 : q1 = 8 * m.length / 65536 % 256) (h2 : q2 = 8 * m.length / 256 % 256) (h3 : q3 = 8 * m.length % 256) :
    padded m (Sha.zerosFor m.length) ++ [0, 0, 0, 0] ++ [q0, q1, q2, q3] = m ++ Sha.pad m.length := by
  subst h0 h1 h2 h3
  have e : Sha.be64 (8 * m.length) = [0, 0, 0, 0, 0, 8 * m.length / 65536 % 256, 8 * m.length / 256 % 256, 8 * m.length % 256] := by
    unfold Sha.be64
    have a1 : 8 * m.length / 2 ^ 56 % 256 = 0 := by omega
    have a2 : 8 * m.length / 2 ^ 48 % 256 = 0 := by omega
    have a3 : 8 * m.length / 2 ^ 40 % 256 = 0 := by omega
    have a4 : 8 * m.length / 2 ^ 32 % 256 = 0 := by omega
    have a5 : 8 * m.length / 2 ^ 24 % 256 = 0 := by omega
    rw [a1, a2, a3, a4, a5]
  unfold padded Sha.pad
  rw [e]
  simp
theorem lit_row (b : Nat) : ∀ j, (Value.slice (some ⟨b, 0, none⟩) 0 0).ownBlock = some j → b ≤ j := by
  intro j hj
  simp only [Value.ownBlock, Option.some.injEq] at hj
  omega
theorem Blk.rowCells {w : World} {g : Nat} {t : TypeId} {k : IntKind} {l : List Nat} {o : Obj} (h : Blk w g t (Vs k l)) (j : Nat) (u : Value) (hu : (vals k l)[j]? = some u) : (w.alloc o).cell? ((⟨g, 0, none⟩ : Addr).add j) = some u := by
  rw [Addr.add_mid, Nat.zero_add, (h.alloc o).cell]
  simpa [Vs] using hu
theorem empty_ints (w : World) : (w.alloc (.cells #[] 3)).ownsRow w.heap.size 3 1 (.slice (some ⟨w.heap.size, 0, none⟩) 0 0) 0 [] :=
  ⟨rfl, .inr ⟨w.heap.size, 0, #[], rfl, Nat.le_refl _, heap_alloc_new w _, Nat.le_refl _, Nat.zero_le _, rfl, rfl⟩⟩
/-- A row of bytes of one's own, not empty: its block and its cells. -/
theorem own_bytes {w : World} {base : Nat} {v : Value} {l : List Nat} (h : w.ownsRow base 5 1 v l.length (vals .u8 l)) (hl : 0 < l.length) :
    ∃ q cap, v = .slice (some ⟨q, 0, none⟩) l.length cap ∧ q < w.heap.size ∧ l.length ≤ cap ∧ cap ≤ maxLen ∧ ∀ j, j < l.length → w.cell? ⟨q, j, none⟩ = some (.int .u8 (l.getD j 0 : Nat)) := by
  have hk := h
  rcases h.2 with ⟨_, h0⟩ | ⟨p, cap, cur, rfl, hb, hg, hc, hm, hs, ht⟩
  · omega
  · exact ⟨p, cap, rfl, (show Blk w p 5 cur from hg).lt, hc, hm, fun j hj => (hk.cellAt j (by omega)).trans (vals_get _ _ _ hj)⟩
set_option maxRecDepth 100000
set_option maxHeartbeats 2000000 in
theorem rsum_any (w : World) (A : Option Addr) (c : Nat) (m : List Nat) (hR : RdB w w.heap.size A m) (hn : A = none → c = 0) (hb : Sha.Bs m) (hlen : m.length ≤ 400) :
    Calls Tryd.prog 16 #[.slice A m.length c] w fun e w' => ∃ v, e = .returned v ∧ w'.ownsRow w.heap.size 5 1 v 32 (vals .u8 (Sha.sum m)) ∧ Below w.heap.size w w' := by
  obtain ⟨i0, hi0, hz0, hz1, hz2⟩ := info_parts Tryd.info3
  obtain ⟨i5, hi5, hz50, hz51, hz52⟩ := info_parts Tryd.info5
  have HR := Lib.hid hR
  have HNl := Lib.hid hn
  have HBs := Lib.hid hb
  clear hR hn hb
  go_enter Tryd.func16, Tryd.ntmps16
  go_wp2_with (first
    | (at_builtin; refine wpList_append_bytes rfl (.tmp 18) (.tmp 19) (by rfl) w.heap.size (.slice (some ⟨w.heap.size, 0, none⟩) 0 0) [] (by rfl) (empty_own w) A c m (by rfl) HNl.out ((HR.out.below ((Below.refl _ _).alloc (Nat.le_refl _) _)).more (by simp)) (by simp; omega) (by simp) ?_; intro v1 w1 hown1 hgrow1 _)
    | (at_builtin; refine wpList_append_bytes rfl (.tmp 20) (.tmp 21) (by rfl) w.heap.size v1 m (by rfl) ((show w1.ownsRow w.heap.size 5 1 v1 m.length (vals .u8 m) from hown1).alloc _) (some ⟨w1.heap.size, 0, none⟩) 1 [128] (by rfl) (fun e => by cases e) (new_rdb w1 [128]) (by simp; omega) (by have := hgrow1.size; simp at this ⊢; omega) ?_; intro v2 w2 hown2 hgrow2 _))
  have HO2 : Hid (w2.ownsRow w.heap.size 5 1 v2 (padded m 0).length (vals .u8 (padded m 0))) := Lib.hid hown2
  have hr1 := own_row hown1
  have hz1 : w.heap.size + 1 ≤ w1.heap.size := by have := hgrow1.size; simpa using this
  have HB1 : Hid (Below w.heap.size w w1) := Lib.hid (((Below.refl _ _).alloc (Nat.le_refl _) _).grown hgrow1 (by simp) (lit_row w.heap.size))
  have HB2 : Hid (Below w.heap.size w w2) := Lib.hid ((HB1.out.alloc (by omega) _).grown hgrow2 (by simp; omega) (fun j hj => hr1 j hj))
  clear hown1 hown2 hgrow1 hgrow2 hr1 HB1 hz1
  go_loopw [3] (fun v wr => ∃ j : Nat, j ≤ Sha.zerosFor m.length ∧ wr.ownsRow w.heap.size 5 1 v (padded m j).length (vals .u8 (padded m j)) ∧ Below w.heap.size w wr) (fun v _ => m.length + 1 + Sha.zerosFor m.length - lenV v)
  case atStart => exact ⟨0, Nat.zero_le _, HO2.out, HB2.out⟩
  case round =>
    obtain ⟨j, hj, hown, hbel⟩ := hrel
    clear HO2 HB2
    have hzl := zeros_le m.length
    have hpl := padded_length m j
    obtain ⟨X, cx, hv, hcx, hcm, hXn, hXr, hXp⟩ := own_form hown
    subst hv
    have hsz := hbel.size
    have HO := Lib.hid hown
    have HB := Lib.hid hbel
    clear hown hbel hXn hXr hXp
    by_cases hlt : j < Sha.zerosFor m.length
    · have hm0 := pad_more m.length j hlt
      have ht : (((padded m j).length : Int) % 64 != 56) = true := by simp; omega
      have HPL := Lib.hid hpl
      have HM0 := Lib.hid hm0
      clear hpl hm0
      go_wp2_with (at_builtin; refine wpList_append_bytes rfl (.tmp 27) (.tmp 28) (by rfl) w.heap.size _ (padded m j) (by rfl) (HO.out.alloc _) (some ⟨wr.heap.size, 0, none⟩) 1 [0] (by rfl) (fun e => by cases e) (new_rdb wr [0]) (by have := HPL.out; simp; omega) (by simp; omega) ?_; intro v3 w3 hown3 hgrow3 _)
      rw [padded_succ] at hown3
      have hr := own_row HO.out
      have HR3 := Lib.hid hown3
      have HB3 : Hid (Below w.heap.size w w3) := Lib.hid ((HB.out.alloc hsz _).grown hgrow3 (by simp; omega) (fun j hj => hr j hj))
      obtain ⟨X3, cx3, hv3, _⟩ := own_form hown3
      have HV3 := Lib.hid hv3
      clear hown3 hgrow3 hr hv3
      go_wp2
      go_roundw
      case rel => exact ⟨j + 1, by omega, HR3.out, HB3.out⟩
      case measure => rw [HV3.out]; simp only [lenV]; rw [padded_length, HPL.out]; omega
    · obtain rfl : j = Sha.zerosFor m.length := by omega
      have hd0 := pad_done m.length
      have ht : (((padded m (Sha.zerosFor m.length)).length : Int) % 64 != 56) = false := by simp; omega
      have HPL := Lib.hid hpl
      clear hpl hd0
      obtain ⟨q0, e0⟩ : ∃ q : Nat, 8 * (m.length : Int) / 16777216 = (q : Int) := ⟨8 * m.length / 16777216, by omega⟩
      obtain ⟨q1, e1⟩ : ∃ q : Nat, 8 * (m.length : Int) / 65536 % 256 = (q : Int) := ⟨8 * m.length / 65536 % 256, by omega⟩
      obtain ⟨q2, e2⟩ : ∃ q : Nat, 8 * (m.length : Int) / 256 % 256 = (q : Int) := ⟨8 * m.length / 256 % 256, by omega⟩
      obtain ⟨q3, e3⟩ : ∃ q : Nat, 8 * (m.length : Int) % 256 = (q : Int) := ⟨8 * m.length % 256, by omega⟩
      have l0 : q0 < 256 := by omega
      have l1 : q1 < 256 := by omega
      have l2 : q2 < 256 := by omega
      have l3 : q3 < 256 := by omega
      have HPd : Hid (padded m (Sha.zerosFor m.length) ++ [0, 0, 0, 0] ++ [q0, q1, q2, q3] = m ++ Sha.pad m.length) := Lib.hid (pad_whole2 m hlen (by omega) (by omega) (by omega) (by omega))
      go_wp2_with (first
        | (at_builtin; refine wpList_append_bytes rfl (.tmp 30) (.tmp 31) (by rfl) w.heap.size _ (padded m (Sha.zerosFor m.length)) (by rfl) (HO.out.alloc _) (some ⟨wr.heap.size, 0, none⟩) 4 [0, 0, 0, 0] (by rfl) (fun e => by cases e) (new_rdb wr [0, 0, 0, 0]) (by have := HPL.out; simp; omega) (by simp; omega) ?_; intro v3 w3 hown3 hgrow3 _)
        | (at_builtin; refine wpList_append_bytes rfl (.tmp 36) (.tmp 51) (by rfl) w.heap.size v3 (padded m (Sha.zerosFor m.length) ++ [0, 0, 0, 0]) (by rfl) (hown3.alloc _) (some ⟨w3.heap.size, 0, none⟩) 4 [q0, q1, q2, q3] (by rfl) (fun e => by cases e) (new_rdb w3 [q0, q1, q2, q3]) (by have := HPL.out; simp; omega) (by have := hgrow3.size; simp at this ⊢; omega) ?_; intro v4 w4 hown4 hgrow4 _)
        | fail)
      rw [HPd.out] at hown4
      have hML : (m ++ Sha.pad m.length).length = m.length + 9 + Sha.zerosFor m.length := by rw [List.length_append, Sha.pad_length]; omega
      have hM64 : (m ++ Sha.pad m.length).length % 64 = 0 := by rw [List.length_append]; exact Sha.pad_whole _
      have hMB : Sha.Bs (m ++ Sha.pad m.length) := HBs.out.append (Sha.pad_Bs _)
      have HE : Hid (Sha.sum m = Sha.bytes (Sha.proc (m ++ Sha.pad m.length))) := Lib.hid rfl
      have hr3 := own_row hown3
      have hr0 := own_row HO.out
      have hz3 : w.heap.size + 1 ≤ w3.heap.size := by have := hgrow3.size; simp at this; omega
      have HB3 : Hid (Below w.heap.size w w3) := Lib.hid ((HB.out.alloc hsz _).grown hgrow3 (by simp; omega) (fun j hj => hr0 j hj))
      have HB4 : Hid (Below w.heap.size w w4) := Lib.hid ((HB3.out.alloc (by omega) _).grown hgrow4 (by simp; omega) (fun j hj => hr3 j hj))
      clear hown3 hgrow3 hgrow4 hr3 hr0 hz3 HB3 HB HO HPL HPd ht e0 e1 e2 e3 l0 l1 l2 l3 hsz hlt hj hcx hcm HR HNl HBs
      generalize hM : m ++ Sha.pad m.length = M at *
      clear hM
      obtain ⟨q, cap, hv4, hq, hc1, hc2, hcell⟩ := own_bytes hown4 (by omega)
      subst hv4
      clear hown4
      have HC := Lib.hid hcell
      clear hcell
      have hLm : M.length ≤ 600 := by omega
      have HM64 := Lib.hid hM64
      have HMB := Lib.hid hMB
      have hLc : M.length ≤ cap := hc1
      clear hML hM64 hMB hc1
      refine (keys_any w4).mono ?_
      rintro e w5 ⟨rfl, hw5⟩
      have HB5 : Hid (Below w.heap.size w w5) := Lib.hid (hw5 ▸ HB4.out.alloc HB4.out.size _)
      have HC5 : Hid (∀ j, j < M.length → w5.cell? ⟨q, j, none⟩ = some (.int .u8 (M.getD j 0 : Nat))) := Lib.hid (fun j hj => by
        rw [← hw5]; exact (((Below.refl w4.heap.size w4).alloc (Nat.le_refl _) _).cell hq).trans (HC.out j hj))
      have HK5 : Hid (Blk w5 w4.heap.size 3 (Vs .i64 Sha.K)) := Lib.hid (hw5 ▸ Blk.new _ _ _)
      generalize w4.heap.size = gk at *
      have hgk := HK5.out.lt
      clear hw5 HC HB4
      go_wp2_with fail
      refine (first_any w5).mono ?_
      rintro e w6 ⟨rfl, hw6⟩
      have HB6 : Hid (Below w5.heap.size w5 w6) := Lib.hid (hw6 ▸ (Below.refl _ _).alloc (Nat.le_refl _) _)
      have HH6 : Hid (Blk w6 w5.heap.size 3 (Vs .i64 (Sha.procN M 0).toList)) := Lib.hid (hw6 ▸ Blk.new _ _ _)
      clear hw6
      go_wp2
      go_loopw [7] (fun i wr => ∃ t : Nat, 64 * t ≤ M.length ∧ i = .int .i64 ((64 * t : Nat) : Int) ∧ Blk wr w5.heap.size 3 (Vs .i64 (Sha.procN M t).toList) ∧ Below w5.heap.size w5 wr) (fun i _ => M.length - (intOf i).toNat)
      case atStart => exact ⟨0, by omega, rfl, HH6.out, HB6.out⟩
      case round =>
        obtain ⟨t, ht, rfl, hblk, hbel⟩ := hrel
        clear HH6 HB6
        have HH := Lib.hid hblk
        have HB := Lib.hid hbel
        have hsz := hbel.size
        have hhl := hblk.lt
        clear hblk hbel
        by_cases hlt : 64 * t < M.length
        · have h64 : 64 * t + 64 ≤ M.length := by have := HM64.out; omega
          have HA : Hid (At64 wr q (64 * t) ((M.drop (64 * t)).take 64)) := Lib.hid (fun j hj => by
            rw [HB.out.cell (show q < w5.heap.size by omega), HC5.out _ (by omega)]
            simp [List.getD_eq_getElem?_getD, hj])
          have i1 : ((64 * t : Nat) : Int) < (M.length : Int) := by omega
          have i2 : ((64 * t : Nat) : Int) + 64 ≤ (M.length : Int) := by omega
          have i3 : ((64 * t : Nat) : Int) + 64 ≤ (cap : Int) := by omega
          have hMt := (HMB.out.drop (64 * t)).take 64
          obtain ⟨l, HLe⟩ : ∃ l, Hid ((M.drop (64 * t)).take 64 = l) := ⟨_, Lib.hid rfl⟩
          rw [HLe.out] at HA hMt
          have HPN : Hid (Sha.procN M (t + 1) = Sha.add (Sha.procN M t) (Sha.rounds Sha.K (Sha.sched l 64) (Sha.procN M t) 64)) := Lib.hid (by rw [Sha.procN, HLe.out]; rfl)
          have hSok := Sha.procN_ok M t
          clear HLe
          generalize Sha.procN M t = S at *
          go_wp2_with fail
          refine (rsched_any wr q (64 * t) _ l (by omega) HA.out hMt).mono ?_
          rintro e w7 ⟨vw, rfl, hown7, hbel7⟩
          have HW7 := Lib.hid hown7
          have HB7 := Lib.hid hbel7
          have hsz7 := hbel7.size
          have HH7 : Hid (Blk w7 w5.heap.size 3 (Vs .i64 S.toList)) := Lib.hid (HH.out.below hbel7 hhl)
          clear hown7 hbel7
          go_wp2_with (at_builtin; refine wpList_append_own _ rfl _ _ 46 rfl w7.heap.size 3 i0 (.int .i64 0) 1 8 Tryd.underlying46 hi0 hz0 hz1 hz2 rfl (by decide) _ 0 [] rfl (empty_ints w7) ⟨w5.heap.size, 0, none⟩ 8 8 (vals .i64 S.toList) rfl rfl (fun j u hu => ?c1) ?c2 ?c3 (by omega) ?c5 ?_)
          case c1 => exact HH7.out.rowCells j u hu
          case c2 => exact vals_one _ _
          case c3 => decide
          case c5 => simp
          intro v8 w8 hown8 hgrow8 _
          obtain ⟨g8, cap8, hv8, hg8⟩ := own_ints hown8 (by omega)
          subst hv8
          have hg8' : g8 < w8.heap.size := (hown8.lt g8 rfl).2
          have hb78 : Below w7.heap.size w7 w8 := ((Below.refl _ _).alloc (Nat.le_refl _) _).grown hgrow8 (by simp) (lit_row w7.heap.size)
          have HR8 : Hid (Row8 w8 g8 S) := Lib.hid (Row8.of_own hown8 rfl)
          obtain ⟨gw, capw, hvw, hgw⟩ := own_ints HW7.out (by omega)
          subst hvw
          have hgw' : gw < w7.heap.size := (HW7.out.lt gw rfl).2
          have HWC : Hid (∀ j, j < 64 → w8.cell? ⟨gw, j, none⟩ = some (.int .i64 ((Sha.sched l 64).getD j 0 : Nat))) := Lib.hid (fun j hj => by
            rw [hb78.cell hgw', HW7.out.cellAt j (by omega), vals_get _ _ _ (by rw [Sha.sched_length]; exact hj)])
          have HWB : Hid (∀ j, (Sha.sched l 64).getD j 0 < Sha.M) := Lib.hid (fun j => Sha.sched_getD hMt 64 j)
          have HH8 : Hid (Blk w8 w5.heap.size 3 (Vs .i64 S.toList)) := Lib.hid (HH7.out.below hb78 (by omega))
          have HB8 : Hid (Below w5.heap.size w5 w8) := Lib.hid ((HB.out.trans (HB7.out.mono (by omega))).trans (hb78.mono (by omega)))
          have HK8 : Hid (Blk w8 gk 3 (Vs .i64 Sha.K)) := Lib.hid (HK5.out.below HB8.out hgk)
          have hsz8 := hb78.size
          have hgw8 : gw < w8.heap.size := by omega
          have hg5 : w5.heap.size < g8 := by omega
          have hz58 : w5.heap.size < w8.heap.size := by omega
          clear hown8 hgrow8 hb78 HW7 HB7 HH7 HH HB hsz7 hgw hg8 hMt HA
          generalize Sha.sched l 64 = ws at *
          go_wp2
          clear hsz hhl
          clear hsz8
          go_loopw [9, 10] (fun s i wx => ∃ k g cp : Nat, k ≤ 64 ∧ i = .int .i64 k ∧ s = .slice (some ⟨g, 0, none⟩) 8 cp ∧ w5.heap.size < g ∧ g < wx.heap.size ∧ Row8 wx g (Sha.rounds Sha.K ws S k) ∧ Below w8.heap.size w8 wx) (fun _ i _ => 64 - (intOf i).toNat)
          case atStart => exact ⟨0, g8, cap8, by omega, rfl, rfl, hg5, hg8', HR8.out, Below.refl _ _⟩
          case round =>
            obtain ⟨k, g, cp, hk, rfl, rfl, hg, hgx, hrow, hbel⟩ := hrel
            have hsz := hbel.size
            have HB := Lib.hid hbel
            clear hbel HR8
            have hok : (Sha.rounds Sha.K ws S k).ok := Sha.rounds_ok hSok k
            by_cases hk64 : k < 64
            · have HN : Hid (Sha.rounds Sha.K ws S (k + 1) = Sha.round (Sha.K.getD k 0) (ws.getD k 0) (Sha.rounds Sha.K ws S k)) := Lib.hid rfl
              have p0 : wr.cell? ⟨gk, k, none⟩ = some (.int .i64 (Sha.K.getD k 0 : Nat)) := by
                rw [HB.out.cell (show gk < w8.heap.size by omega), HK8.out.cell, Vs_get _ _ _ (by simpa [Sha.K] using hk64)]
              have p1 : wr.cell? ⟨gw, k, none⟩ = some (.int .i64 (ws.getD k 0 : Nat)) := by
                rw [HB.out.cell hgw8, HWC.out k hk64]
              have bx1 := Sha.K_getD k
              have bx2 := HWB.out k
              generalize Sha.rounds Sha.K ws S k = r at *
              generalize Sha.K.getD k 0 = x1 at *
              generalize ws.getD k 0 = x2 at *
              obtain ⟨ra, rb, rc, rd, re, rf, rg, rh⟩ := r
              have c0 : wr.cell? ⟨g, 0, none⟩ = some (.int .i64 (ra : Int)) := hrow 0 (by omega)
              have c1 : wr.cell? ⟨g, 1, none⟩ = some (.int .i64 (rb : Int)) := hrow 1 (by omega)
              have c2 : wr.cell? ⟨g, 2, none⟩ = some (.int .i64 (rc : Int)) := hrow 2 (by omega)
              have c3 : wr.cell? ⟨g, 3, none⟩ = some (.int .i64 (rd : Int)) := hrow 3 (by omega)
              have c4 : wr.cell? ⟨g, 4, none⟩ = some (.int .i64 (re : Int)) := hrow 4 (by omega)
              have c5 : wr.cell? ⟨g, 5, none⟩ = some (.int .i64 (rf : Int)) := hrow 5 (by omega)
              have c6 : wr.cell? ⟨g, 6, none⟩ = some (.int .i64 (rg : Int)) := hrow 6 (by omega)
              have c7 : wr.cell? ⟨g, 7, none⟩ = some (.int .i64 (rh : Int)) := hrow 7 (by omega)
              obtain ⟨b0, b1, b2, b3, b4, b5, b6, b7⟩ := hok
              simp only at b0 b1 b2 b3 b4 b5 b6 b7
              obtain ⟨y1, y2, f1, f2, f3, f4⟩ := mix64 6 11 25 (by decide) (by decide) (by decide) b4
              obtain ⟨y3, y4, y5, f5, f6, f7, f8, f9⟩ := ch64 b4 b5 b6
              obtain ⟨z1, z2, g1, g2, g3, g4⟩ := mix64 2 13 22 (by decide) (by decide) (by decide) b0
              obtain ⟨z3, z4, z5, z6, z7, g5, g6, g7, g8', g9, g10, g11⟩ := maj64 b0 b1 b2
              have HRd : Hid (Sha.round x1 x2 ⟨ra, rb, rc, rd, re, rf, rg, rh⟩ = ⟨((rh + y2 + y5 + x1 + x2) % Sha.M + (z2 + z7) % Sha.M) % Sha.M, ra, rb, rc, (rd + (rh + y2 + y5 + x1 + x2) % Sha.M) % Sha.M, re, rf, rg⟩) := Lib.hid (by rw [f3, f8, g3, g10]; rfl)
              clear hrow f3 f8 g3 g10
              have HT1 := Lib.hid (fun W : World => top5 rh y2 y5 x1 x2 W b7 f4 f9 bx1 bx2)
              have HT2 := Lib.hid (fun W : World => top2 z2 z7 W g4 g11)
              have m1 := Sha.modM (rh + y2 + y5 + x1 + x2)
              have m2 := Sha.modM (z2 + z7)
              unfold Sha.M at b0 b1 b2 b3 b4 b5 b6 b7 f4 f9 g4 g11 bx1 bx2
              go_wp2
              have j6 : (k : Int) < 64 := by omega
              obtain ⟨j1, j3, j4, j5, j2⟩ := sums5 rh y2 y5 x1 x2 re b7 f4 f9 bx1 bx2 b4
              go_quiet (first
                | (go_at_call 28; with_reducible exact Calls.quiet_of (turn_6 re _ b4))
                | (go_at_call 28; with_reducible exact Calls.quiet_of (turn_11 re _ b4))
                | (go_at_call 28; with_reducible exact Calls.quiet_of (turn_25 re _ b4))
                | (go_at_call 27; exact quiet_left (HT1.out _)))
              clear j1 j2 j3 j4 j5 f1 f2 f5 f6 f7 p0 p1
              go_wp2
              replace c0 : (wr.drewN nq).cell? ⟨g, 0, none⟩ = some (.int .i64 (ra : Int)) := c0
              replace c1 : (wr.drewN nq).cell? ⟨g, 1, none⟩ = some (.int .i64 (rb : Int)) := c1
              replace c2 : (wr.drewN nq).cell? ⟨g, 2, none⟩ = some (.int .i64 (rc : Int)) := c2
              replace c3 : (wr.drewN nq).cell? ⟨g, 3, none⟩ = some (.int .i64 (rd : Int)) := c3
              replace c4 : (wr.drewN nq).cell? ⟨g, 4, none⟩ = some (.int .i64 (re : Int)) := c4
              replace c5 : (wr.drewN nq).cell? ⟨g, 5, none⟩ = some (.int .i64 (rf : Int)) := c5
              replace c6 : (wr.drewN nq).cell? ⟨g, 6, none⟩ = some (.int .i64 (rg : Int)) := c6
              replace HB : Hid (Below w8.heap.size w8 (wr.drewN nq)) := Lib.hid (below_drewN HB.out _)
              clear c7
              generalize wr.drewN nq = wx at *
              generalize (rh + y2 + y5 + x1 + x2) % Sha.M = T1 at *
              have j1 := sums2 z2 z7 g4 g11
              go_quiet (first
                | (go_at_call 28; with_reducible exact Calls.quiet_of (turn_2 ra _ b0))
                | (go_at_call 28; with_reducible exact Calls.quiet_of (turn_13 ra _ b0))
                | (go_at_call 28; with_reducible exact Calls.quiet_of (turn_22 ra _ b0))
                | (go_at_call 27; exact quiet_left (HT2.out _)))
              clear j1 g1 g2 g5 g6 g7 g8' g9
              go_wp2
              replace c0 : (wx.drewN nq).cell? ⟨g, 0, none⟩ = some (.int .i64 (ra : Int)) := c0
              replace c1 : (wx.drewN nq).cell? ⟨g, 1, none⟩ = some (.int .i64 (rb : Int)) := c1
              replace c2 : (wx.drewN nq).cell? ⟨g, 2, none⟩ = some (.int .i64 (rc : Int)) := c2
              replace c3 : (wx.drewN nq).cell? ⟨g, 3, none⟩ = some (.int .i64 (rd : Int)) := c3
              replace c4 : (wx.drewN nq).cell? ⟨g, 4, none⟩ = some (.int .i64 (re : Int)) := c4
              replace c5 : (wx.drewN nq).cell? ⟨g, 5, none⟩ = some (.int .i64 (rf : Int)) := c5
              replace c6 : (wx.drewN nq).cell? ⟨g, 6, none⟩ = some (.int .i64 (rg : Int)) := c6
              replace HB : Hid (Below w8.heap.size w8 (wx.drewN nq)) := Lib.hid (below_drewN HB.out _)
              generalize wx.drewN nq = wy at *
              generalize (z2 + z7) % Sha.M = T2 at *
              unfold Sha.M at m1 m2
              have HT3 := fun W : World => top2 T1 T2 W m1 m2
              have HT4 := fun W : World => top2 rd T1 W b3 m1
              have j1 := sums2 T1 T2 m1 m2
              have j2 := sums2 rd T1 b3 m1
              refine wp_region_still_tail 28 (by kernel_rfl) (by kernel_rfl) ?_
              simp only [List.take_succ_cons, List.take_zero, List.drop_succ_cons, List.drop_zero]
              change wpStill _ _ wy.drew _ _ _
              repeat still_step
              still_call ((HT3 _).mono fun _ _ h => ⟨h.1, h.2.symm⟩)
              repeat still_step
              still_call ((HT4 _).mono fun _ _ h => ⟨h.1, h.2.symm⟩)
              repeat still_step
              refine wpStill_nil ?_
              change wpList _ _ _ _ _ wy.drew
              clear j1 j2 HT3 HT4
              go_wp2
              go_roundw
              case rel =>
                refine ⟨k + 1, wy.heap.size, 8, by omega, by go_num, rfl, by have := HB.out.size; omega, by simp, ?_, (HB.out.drew.alloc (by simpa using HB.out.size) _)⟩
                rw [HN.out, HRd.out]
                exact Row8.of_blk (Blk.new wy.drew 3 _)
              case measure => simp [intOf]; omega
            · obtain rfl : k = 64 := by omega
              rw [show ((64 : Nat) : Int) = (64 : Int) from rfl]
              have HB9 : Hid (Below w5.heap.size w5 wr) := Lib.hid (HB8.out.trans (HB.out.mono (by omega)))
              have HH9 : Hid (Blk wr w5.heap.size 3 (Vs .i64 (addN S (Sha.rounds Sha.K ws S 64) 0))) := Lib.hid (by rw [addN_zero]; exact HH8.out.below HB.out hz58)
              have HR9 := Lib.hid hrow
              clear HB8 HH8 HB hrow HWC HWB HK8
              generalize Sha.rounds Sha.K ws S 64 = T at *
              have hgne : g ≠ w5.heap.size := by omega
              go_wp2
              clear hgx hsz hk64 hk
              go_loopw [15] (fun j wx => ∃ n : Nat, n ≤ 8 ∧ j = .int .i64 n ∧ Blk wx w5.heap.size 3 (Vs .i64 (addN S T n)) ∧ Row8 wx g T ∧ Below w5.heap.size w5 wx) (fun j _ => 8 - (intOf j).toNat)
              case atStart => exact ⟨0, by omega, rfl, HH9.out, HR9.out, HB9.out⟩
              case round =>
                obtain ⟨n, hn, rfl, hblk, hrow, hbel⟩ := hrel
                clear HH9 HR9 HB9
                have HH := Lib.hid hblk
                have HR := Lib.hid hrow
                have HB := Lib.hid hbel
                clear hblk hrow hbel
                by_cases hn8 : n < 8
                · have c0 : wr.cell? ⟨w5.heap.size, n, none⟩ = some (.int .i64 (S.toList.getD n 0 : Nat)) := by
                    rw [HH.out.cell, Vs_get _ _ _ (by rw [addN_length]; exact hn8), addN_get _ _ _ hn8]
                  have c1 : wr.cell? ⟨g, n, none⟩ = some (.int .i64 (T.toList.getD n 0 : Nat)) := HR.out n hn8
                  have cf : wr.frozen? ⟨w5.heap.size, n, none⟩ = false := HH.out.frozen _
                  have b0 := st_getD_lt hSok n
                  have b1 := st_getD_lt hok n
                  have HS := Lib.hid (addN_set S T n)
                  generalize S.toList.getD n 0 = x0 at *
                  generalize T.toList.getD n 0 = x1 at *
                  have HT := fun W : World => top2 x0 x1 W b0 b1
                  generalize (x0 + x1) % Sha.M = z at *
                  unfold Sha.M at b0 b1
                  have j6 : (n : Int) < 8 := by omega
                  go_wp2
                  have j1 := sums2 x0 x1 b0 b1
                  refine wp_region_still_tail 13 (by kernel_rfl) (by kernel_rfl) ?_
                  simp only [List.take_succ_cons, List.take_zero, List.drop_succ_cons, List.drop_zero]
                  change wpStill _ _ wr.drew _ _ _
                  repeat still_step
                  still_call ((HT _).mono fun _ _ h => ⟨h.1, h.2.symm⟩)
                  repeat still_step
                  refine wpStill_nil ?_
                  change wpList _ _ _ _ _ wr.drew
                  clear j1 HT
                  go_wp2
                  go_roundw
                  case rel =>
                    refine ⟨n + 1, by omega, by go_num, (HH.out.put n _).drew.cast (by rw [Vs_set, HS.out]), ?_, (HB.out.setCell (p := ⟨w5.heap.size, n, none⟩) (Nat.le_refl _) _).drew⟩
                    exact (HR.out.far hgne).drewN 1
                  case measure => simp [intOf]; omega
                · obtain rfl : n = 8 := by omega
                  have HH' : Hid (Blk wr w5.heap.size 3 (Vs .i64 (Sha.procN M (t + 1)).toList)) := Lib.hid (by rw [HPN.out, ← addN_eight]; exact HH.out)
                  clear HH
                  go_wp2
                  go_roundw
                  case rel => exact ⟨t + 1, by omega, by go_num, HH'.out, HB.out⟩
                  case measure => simp [intOf]; omega
        · have ht64 : t = M.length / 64 := by have := HM64.out; omega
          have HF : Hid (Sha.proc M = Sha.procN M t) := Lib.hid (by rw [ht64]; rfl)
          have hSok := Sha.procN_ok M t
          have HBw : Hid (Below w.heap.size w wr) := Lib.hid (HB5.out.trans (HB.out.mono HB5.out.size))
          have hz59 := HBw.out.size
          clear ht64
          generalize Sha.procN M t = S at *
          have i1 : ¬ ((64 * t : Nat) : Int) < (M.length : Int) := by omega
          obtain ⟨w9, hw9⟩ : ∃ w9 : World, w9 = wr := ⟨_, rfl⟩
          subst hw9
          have hml : m.length ≤ 400 := hlen
          go_wp2
          go_loopw [16, 17] (fun o j wx => ∃ n : Nat, n ≤ 8 ∧ j = .int .i64 n ∧ wx.ownsRow w9.heap.size 5 1 o (outN S n).length (vals .u8 (outN S n)) ∧ Below w9.heap.size w9 wx) (fun _ j _ => 8 - (intOf j).toNat)
          case atStart => exact ⟨0, by omega, rfl, ⟨rfl, .inl ⟨rfl, rfl⟩⟩, Below.refl _ _⟩
          case round =>
            obtain ⟨n, hn, rfl, hown, hbel⟩ := hrel
            have hsz9 := hbel.size
            have HO := Lib.hid hown
            have HB9 := Lib.hid hbel
            clear hown hbel
            by_cases hn8 : n < 8
            · have c0 : wr.cell? ⟨w5.heap.size, n, none⟩ = some (.int .i64 (S.toList.getD n 0 : Nat)) := by
                rw [HB9.out.cell (show w5.heap.size < w9.heap.size from hhl), HH.out.cell, Vs_get _ _ _ (show n < 8 from hn8)]
              have b0 := st_getD_lt hSok n
              have HS := Lib.hid (outN_succ S n hn8)
              have hol := outN_length S n hn
              generalize S.toList.getD n 0 = x0 at *
              unfold Sha.M at b0
              obtain ⟨q0, q1, q2, q3, hq, e0⟩ := be32_num x0 b0
              have HQ := Lib.hid e0
              clear e0
              rw [hq] at HS
              clear hq
              have hrow9 := own_row HO.out
              have hne : some w5.heap.size ≠ u16.ownBlock := fun e => by have := hrow9 _ e.symm; omega
              have lg : w5.heap.size < wr.heap.size := by omega
              have j6 : (n : Int) < 8 := by omega
              go_wp2_with fail
              obtain ⟨⟨k1, k2, k3⟩, ⟨k4, k5, k6⟩, ⟨k7, k8, k9⟩, ⟨k10, k11⟩⟩ := HQ.out
              go_region_held3 (fun w' => w'.cell? ⟨w5.heap.size, n, none⟩ = some (.int .i64 (x0 : Int)))
                (first
                  | go_keep
                  | (rw [hgrow.cell_far _ (by simp; omega) hne]; assumption))
                ((refine step_append_lies _ (by rfl) _ _ 22 (by rfl) w9.heap.size 5 i5 _ 1 1 Tryd.underlying22 hi5 hz50 hz51 hz52 rfl (by decide) u16 (outN S n).length (vals .u8 (outN S n)) (by rfl) ((HO.out.alloc _).drew)
                    ⟨wr.heap.size, 0, none⟩ 4 4 (vals .u8 [q0, q1, q2, q3]) (by rfl) (by rfl) (World.news_of_block (cs := Vs .u8 [q0, q1, q2, q3]) (t := 5) (fr := (0, 0)) (heap_alloc_new wr _)) (vals_one _ _)
                    (by omega) (by unfold maxLen; omega) (by omega) (by simp; omega) (wr.heap.size + 1) (by simp) ?_; intro gg cap9 wz hownz hgrow hat hlt9))
              clear k1 k2 k3 k4 k5 k6 k7 k8 k9 k10 k11
              have HOz : Hid (wz.ownsRow w9.heap.size 5 1 (.slice (some ⟨gg, 0, none⟩) ((outN S n).length + 4) cap9) (outN S (n + 1)).length (vals .u8 (outN S (n + 1)))) := Lib.hid (by rw [HS.out, vals_append, List.length_append]; exact hownz)
              have HBz : Hid (Below w9.heap.size w9 wz) := Lib.hid (((HB9.out.alloc hsz9 _).drew).grown hgrow (by simp; omega) (fun j hj => hrow9 j hj))
              clear hownz hgrow
              go_wp2
              go_roundw
              case rel => exact ⟨n + 1, by omega, by go_num, hol ▸ HOz.out, HBz.out⟩
              case measure => simp [intOf]; omega
            · obtain rfl : n = 8 := by omega
              have HO' : Hid (wr.ownsRow w9.heap.size 5 1 _ 32 (vals .u8 (Sha.sum m))) := Lib.hid (by rw [HE.out, HF.out, ← outN_eight]; exact HO.out)
              go_wp2
              go_ret
              exact ⟨_, rfl, World.ownsRow.mono HO'.out hz59, HBw.out.trans (HB9.out.mono hz59)⟩
end Go.Proofs.YtfkkpbfoipfekaaDoor
