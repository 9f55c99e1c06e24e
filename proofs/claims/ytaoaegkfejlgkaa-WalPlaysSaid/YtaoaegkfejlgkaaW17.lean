/-
  The contract of Anew of package wal.
-/
import Derived.Test.YtaoaegkfejlgkaaW16
namespace Go.Proofs.Ytaoaegkfejlgkaa.Dsk
open Go.RowKit
/-- So many bytes records take. -/
def tot : List (List UInt8) → Nat
  | [] => 0
  | x :: r => 9 + x.length + tot r
theorem tot_snoc : ∀ (l : List (List UInt8)) (x : List UInt8), tot (l ++ [x]) = tot l + (9 + x.length)
  | [], x => by simp [tot]
  | y :: r, x => by simp only [List.cons_append, tot, tot_snoc r x]; omega
theorem recsB_tot (g : Nat) : ∀ (rs : List (List UInt8)) (p : Nat), (recsB g p rs).length = tot rs
  | [], p => rfl
  | x :: r, p => by simp only [recsB, List.length_append, recB_length, recsB_tot g r, tot]
theorem tot_le : ∀ (l : List (List UInt8)), (∀ x ∈ l, 1 ≤ x.length ∧ x.length ≤ 65536) → tot l ≤ l.length * 65545
  | [], _ => Nat.le_refl _
  | x :: r, h => by
    have h1 := tot_le r (fun y hy => h y (List.mem_cons_of_mem _ hy))
    have h2 := h x (List.mem_cons_self ..)
    simp only [tot, List.length_cons]
    omega
def Okp (x : List UInt8) : Prop := 1 ≤ x.length ∧ x.length ≤ 65536
/-- The first error of beginning anew, but for the disk's. -/
noncomputable def anewErr (c : Lc) (ns : List (List UInt8)) : Int :=
  open Classical in if ∃ x ∈ ns, ¬ Okp x then 11 else if c.sz - 16 < tot ns then 21 else if c.g = 2147483647 then 14 else 0
theorem Aft.seen {w w1 w' : World} {d g0 lb : Nat} {S : Nat → Prop} {s' : Dk} {c' : Lc} (h : Aft w1 d g0 lb S s' c' w') (hk : Kp (fun k => k = lb) w w1) : Aft w d g0 lb S s' c' w' := by
  obtain ⟨⟨S', h1, h2⟩, h3⟩ := h
  refine ⟨⟨S', h1, fun k hk' => ?_⟩, (hk.mono (S' := fun k => k = d ∨ k = g0 ∨ k = lb ∨ S k) (fun k _ e => .inr (.inr (.inl e)))).trans h3 (fun _ _ h => h)⟩
  have := hk.size
  rcases h2 k hk' with h4 | h4
  · exact .inl h4
  · exact .inr ⟨by omega, h4.2⟩
theorem anew_down (w : World) (d g0 lb : Nat) (S : Nat → Prop) (s : Dk) (c : Lc) (h : Sys w d g0 lb S s c) (hd : (c.was || s.down) = true) (v : Value) :
    Calls Try.prog 20 #[.pointer (some ⟨lb, 0, none⟩), v] w fun e w' => e = .returned (.int .i64 20) ∧ Aft w d g0 lb S s (c.seen s) w' := by
  have HW := Lib.hid (watch_any w d g0 lb S s c h)
  rw [hd] at HW
  clear h hd
  go_enter Try.func20, Try.ntmps20
  go_wp2_with fail
  with_reducible refine HW.out.mono ?_
  rintro e w1 ⟨rfl, h1, hk1, hz1⟩
  have H1 := Lib.hid h1
  have HK := Lib.hid hk1
  clear h1 hk1 hz1
  go_wp2
  go_ret
  exact ⟨rfl, ⟨S, H1.out, fun k hk => .inl hk⟩, HK.out.mono (fun k _ e => .inr (.inr (.inl e)))⟩
/-- What Anew hands back. -/
def AnewR (w : World) (d g0 lb : Nat) (S : Nat → Prop) (s : Dk) (c : Lc) (ns : List (List UInt8)) (e : Ending) (w' : World) : Prop :=
  (anewErr c ns ≠ 0 ∧ e = .returned (.int .i64 (anewErr c ns)) ∧ Aft w d g0 lb S s c w') ∨
  (anewErr c ns = 0 ∧ (∀ x ∈ ns, Okp x) ∧ 16 + tot ns ≤ c.sz ∧ ChR w d g0 lb S c (perf s (anewWs s.l c.sz (c.sz - c.st) (c.g + 1) ns)) (c.sz - c.st) (c.g + 1) ns (16 + tot ns) e w')
set_option maxRecDepth 100000
set_option maxHeartbeats 4000000 in
theorem anew_any (w : World) (d g0 lb : Nat) (S : Nat → Prop) (s : Dk) (c : Lc) (h : Sys w d g0 lb S s c) (n : Nat) (ho : s.okn n) (hn : n ≤ 1000000) (hup : s.down = false) (hwas : c.was = false) (S0 : Nat → Prop) (A : Option Addr) (k : Nat) (ns : List (List UInt8)) (hR : RdL w S0 A ns) (hS0 : ¬ S0 lb) (hns : ns.length ≤ 100000) (hst : c.st ≤ c.sz) (hs1 : 500 ≤ c.sz) (hs2 : c.sz ≤ 500000) (hL : (c.sz - c.st) + c.sz ≤ s.l.length) (hlen : s.l.length ≤ 1000000) (hg : c.g ≤ 2147483647) :
    Calls Try.prog 20 #[.pointer (some ⟨lb, 0, none⟩), .slice A ns.length k] w (AnewR w d g0 lb S s c ns) := by
  have HW := Lib.hid (watch_any w d g0 lb S s c h)
  rw [hwas, hup, seen_id hwas hup] at HW
  have HCh := Lib.hid (fun W (hW : Sys W d g0 lb S s c) (hR' : RdL W S0 A ns) (h1 : ∀ x ∈ ns, Okp x) (h2 : 16 + tot ns ≤ c.sz) (h3 : c.g + 1 ≤ 2147483647) => change_any W d g0 lb S s c hW n ho hn hup S0 A k ns hR' h1 (c.sz - c.st) rfl hst hs1 hs2 hL hlen (by rw [recsB_tot]; exact h2) h3)
  simp only [recsB_tot] at HCh
  obtain ⟨N, hN⟩ : ∃ N, N = ns.length := ⟨_, rfl⟩
  have HN := Lib.hid hN
  rw [← hN] at HCh ⊢
  have hNb : N ≤ 100000 := by omega
  have HNB := Lib.hid hNb
  have HRL := Lib.hid hR
  have HS0 := Lib.hid hS0
  have HS1 := Lib.hid hs1
  have HS2 := Lib.hid hs2
  have HG := Lib.hid hg
  have HCo := Lib.hid (fun W n h1 h2 => cost_ok W n h1 h2)
  have HCb := Lib.hid (fun W n h => cost_bad W n h)
  have H := Lib.hid h
  clear h ho hn hup hwas hR hS0 hst hs1 hs2 hL hlen hg hN hNb hns
  go_enter Try.func20, Try.ntmps20
  go_wp2_with fail
  with_reducible refine HW.out.mono ?_
  rintro e w1 ⟨rfl, h1, hk1, hz1⟩
  have H1 := Lib.hid h1
  have HK := Lib.hid hk1
  have HR1 : Hid (RdL w1 S0 A ns) := Lib.hid (HRL.out.keep (fun i hi hl => hk1.block i hl (fun e => HS0.out (e ▸ hi))) hk1.size)
  have aft : Aft w d g0 lb S s c w1 := ⟨⟨S, h1, fun k hk => .inl hk⟩, hk1.mono (fun k _ e => .inr (.inr (.inl e)))⟩
  have HAft := Lib.hid aft
  clear h1 hk1 hz1 aft
  go_wp2
  go_loopw [5, 13] (fun t i wr => ∃ k : Nat, k ≤ N ∧ i = .int .i64 (k : Int) ∧ t = .int .i64 ((tot (ns.take k) : Nat) : Int) ∧ (∀ x ∈ ns.take k, Okp x) ∧ wr = w1) (fun _ i _ => N - (intOf i).toNat)
  case atStart => exact ⟨0, Nat.zero_le _, rfl, rfl, fun x hx => by simp at hx, rfl⟩
  case round =>
    obtain ⟨j, hj, rfl, rfl, hok, rfl⟩ := hrel
    have HOKp := Lib.hid hok
    clear hok
    by_cases hlt : j < N
    · obtain ⟨x, hx⟩ : ∃ x, ns[j]? = some x := ⟨_, List.getElem?_eq_getElem (by have := HN.out; omega)⟩
      obtain ⟨ad, B, cx, rfl, _, hb1, hcell, hxc, hrx⟩ := HR1.out j x hx
      have ht : ns.take (j + 1) = ns.take j ++ [x] := by rw [List.take_add_one, hx]; rfl
      have q3 : IntKind.i64.wrap ((j : Int) + 1) = (j : Int) + 1 := by rw [IntKind.wrap_i64]; have := HNB.out; omega
      have htl := tot_le (ns.take j) HOKp.out
      rw [List.length_take] at htl
      obtain ⟨T, hT⟩ : ∃ T, T = tot (ns.take j) := ⟨_, rfl⟩
      rw [← hT] at htl ⊢
      have HTT := Lib.hid hT
      have HX := Lib.hid hx
      have HTK := Lib.hid ht
      have HLT := Lib.hid hlt
      obtain ⟨m, hm⟩ : ∃ m, m = x.length := ⟨_, rfl⟩
      have HM := Lib.hid hm
      rw [← hm] at hcell
      have hTb : T ≤ 6554500000 := by have := HNB.out; omega
      by_cases hg' : 1 ≤ m ∧ m ≤ 65536
      · have HC := Lib.hid (HCo.out wr m hg'.1 hg'.2)
        have HGm := Lib.hid hg'
        have q4 : IntKind.i64.wrap ((T : Int) + ((9 + m : Nat) : Int)) = ((T + (9 + m) : Nat) : Int) := by rw [IntKind.wrap_i64]; omega
        have q5 : ((((9 + m : Nat) : Int)) == 0) = false := by simp; omega
        obtain ⟨m9, hm9⟩ : ∃ m9, m9 = 9 + m := ⟨_, rfl⟩
        rw [← hm9] at HC q4 q5
        have HM9 := Lib.hid hm9
        clear hrx hb1 hxc hx ht hT hm hg' htl hTb hlt hm9
        go_wp2_with fail
        with_reducible refine HC.out.mono ?_
        rintro e w2 ⟨rfl, rfl⟩
        go_wp2
        go_roundw
        case rel =>
          refine ⟨j + 1, by have := HLT.out; omega, by go_num, ?_, ?_, by first | rfl | trivial⟩
          · rw [HTK.out, tot_snoc, ← HTT.out, HM9.out, ← HM.out]
            exact congrArg (Value.int .i64) (by omega)
          · rw [HTK.out]
            intro y hy
            rcases List.mem_append.1 hy with hy | hy
            · exact HOKp.out y hy
            · rw [List.mem_singleton] at hy
              subst hy
              have := HGm.out
              rw [HM.out] at this
              exact this
        case measure => have := HLT.out; simp [intOf]; omega
      · have HC := Lib.hid (HCb.out wr m (by omega))
        have he : anewErr c ns = 11 := by
          unfold anewErr
          rw [if_pos ⟨x, List.mem_of_getElem? hx, fun h9 => hg' (by rw [hm]; exact h9)⟩]
        have HE := Lib.hid he
        clear hrx hb1 hxc hx ht hT hm hg' htl hTb hlt he
        go_wp2_with fail
        with_reducible refine HC.out.mono ?_
        rintro e w2 ⟨rfl, rfl⟩
        go_wp2
        go_ret
        exact .inl ⟨by rw [HE.out]; decide, by rw [HE.out]; rfl, HAft.out⟩
    · obtain rfl : j = N := by omega
      have htk : ns.take j = ns := List.take_of_length_le (by have := HN.out; omega)
      rw [htk] at HOKp ⊢
      have htl := tot_le ns HOKp.out
      rw [← HN.out] at htl
      have hnb : ¬ ∃ x ∈ ns, ¬ Okp x := fun ⟨x, hx, hb⟩ => hb (HOKp.out x hx)
      obtain ⟨T, hT⟩ : ∃ T, T = tot ns := ⟨_, rfl⟩
      rw [← hT] at htl ⊢
      obtain ⟨A', k', hb, hr⟩ := H1.out.log.ex
      obtain ⟨sz, hsz⟩ : ∃ sz, sz = c.sz := ⟨_, rfl⟩
      obtain ⟨g, hgg⟩ : ∃ g, g = c.g := ⟨_, rfl⟩
      have c1 : wr.cell? ⟨lb, 1, none⟩ = some (.int .i64 (sz : Int)) := by rw [hsz]; exact hb.cell 1
      have c4 : wr.cell? ⟨lb, 4, none⟩ = some (.int .i64 (g : Int)) := by rw [hgg]; exact hb.cell 4
      have hlb := hb.lt
      have qs : IntKind.i64.wrap ((sz : Int) - 16) = ((sz - 16 : Nat) : Int) := by rw [IntKind.wrap_i64]; have := HS1.out; have := HS2.out; omega
      by_cases hfit : sz - 16 < T
      · have he : anewErr c ns = 21 := by
          unfold anewErr
          rw [if_neg hnb, if_pos (by omega)]
        have hfi : ((sz - 16 : Nat) : Int) < (T : Int) := by omega
        have HE := Lib.hid he
        clear he htl hnb hT hb hr hsz hgg htk hfit hlt hj
        go_wp2
        go_ret
        exact .inl ⟨by rw [HE.out]; decide, by rw [HE.out]; rfl, HAft.out⟩
      · have hfi : ¬ ((sz - 16 : Nat) : Int) < (T : Int) := by omega
        by_cases hgm : g = 2147483647
        · have he : anewErr c ns = 14 := by
            unfold anewErr
            rw [if_neg hnb, if_neg (by omega), if_pos (by omega)]
          have HE := Lib.hid he
          subst hgm
          clear he htl hnb hT hb hr hsz hgg htk hfit hlt hj
          go_wp2
          go_ret
          exact .inl ⟨by rw [HE.out]; decide, by rw [HE.out]; rfl, HAft.out⟩
        · have he : anewErr c ns = 0 := by
            unfold anewErr
            rw [if_neg hnb, if_neg (by omega), if_neg (by omega)]
          have HE := Lib.hid he
          have hf2 : 16 + tot ns ≤ c.sz := by have := HS1.out; omega
          have HF2 := Lib.hid hf2
          have HC := Lib.hid (HCh.out wr H1.out HR1.out HOKp.out hf2 (by have := HG.out; omega))
          have hgb : ((g : Int) == 2147483647) = false := by simp; omega
          clear he htl hnb hT hb hr hsz hgg htk hfit hlt hj hf2 hgm
          go_wp2_with fail
          with_reducible refine HC.out.mono ?_
          rintro e w2 ⟨rfl, hch⟩
          have HCH := Lib.hid hch
          clear hch
          go_wp2
          go_ret
          refine .inr ⟨HE.out, HOKp.out, HF2.out, rfl, ?_⟩
          rcases HCH.out with ⟨h9, h8⟩ | ⟨h9, h8⟩
          · exact .inl ⟨h9, h8.seen HK.out⟩
          · exact .inr ⟨h9, h8.seen HK.out⟩
end Go.Proofs.Ytaoaegkfejlgkaa.Dsk
