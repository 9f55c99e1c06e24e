/-
  members: an object's members are read. (Written by gen_pa10.py out of list's text.)
-/
import Derived.Test.YtkenananejgcpaaGreatDoorJPa9
namespace Go.Proofs.YtkenananejgcpaaGreatDoor.Jsn
open Go.RowKit Txt Go.Maps
attribute [local go_sem] Oper.semAt_some
/-- Names that are unlike each other and those that were seen. -/
def namesNew : List (List UInt8) → List M → Bool
  | _, [] => true
  | seen, m :: l => !(seen.contains m.name) && namesNew (seen ++ [m.name]) l
theorem names_new_aux : ∀ (ms : List M) (seen : List (List UInt8)), namesNew seen ms = true → ∀ (k : Nat) (m : M), ms[k]? = some m → (seen ++ (ms.take k).map M.name).contains m.name = false
  | [], _, _, k, m, h => by simp at h
  | x :: l, seen, hn, 0, m, h => by
    simp only [List.getElem?_cons_zero, Option.some.injEq] at h
    subst h
    simp only [namesNew, Bool.and_eq_true, Bool.not_eq_true'] at hn
    simpa using hn.1
  | x :: l, seen, hn, k + 1, m, h => by
    simp only [namesNew, Bool.and_eq_true, Bool.not_eq_true'] at hn
    have := names_new_aux l (seen ++ [x.name]) hn.2 k m (by simpa using h)
    simpa using this
theorem names_new (ms : List M) (hn : namesNew [] ms = true) {k : Nat} {m : M} (h : ms[k]? = some m) : ((ms.take k).map M.name).contains m.name = false := by
  simpa using names_new_aux ms [] hn k m h
set_option maxRecDepth 100000
set_option maxHeartbeats 2000000 in
/-- An object's members are read. -/
theorem members_any (t : List UInt8) (pp d a r n b : Nat) (p q s : Nat → Nat) (p1 p2 : Nat → Nat) (ms : List M) (w : World) (hp : Ps w pp t a (r + 1)) (hr : d ≤ r) (hr1 : r ≤ 99999) (hn : ms.length = n) (hn1 : n ≤ 100000) (hl : t.length ≤ 100000) (he : Elems t 125 a n p q s b) (hval : ∀ k m, ms[k]? = some m → MemC t d (p k) m (q k) (p1 k) (p2 k)) (hun : namesNew [] ms = true) (hnl : ∀ m ∈ ms, m.name.length ≤ 1000000) :
    Calls Tryz.prog 76 #[.pointer (some ⟨pp, 0, none⟩)] w fun e w' => ∃ A c, e = .returned (.slice A (n : Nat) c) ∧ (0 < n → A.isSome = true) ∧ (∀ i m, ms[i]? = some m → w'.cell? ((A.getD default).add (i * 6)) = some (.string (mk m.name))) ∧ (∀ i m, ms[i]? = some m → RdP (fun k => w.heap.size ≤ k) w' ((A.getD default).add (i * 6 + 1)) m.val) ∧ Ps w' pp t b (r + 1) ∧ G pp w w' := by
  have hpl := hp.lt
  obtain ⟨w1, hw1⟩ : ∃ w1, w1 = (((w.alloc (.cells #[.pointer (some ⟨pp, 0, none⟩)] 92)).alloc (.cells #[.slice none 0 0] 25)).alloc (.map #[] 0)).alloc (.cells #[.map (some (w.heap.size + 1 + 1))] 115) := ⟨_, rfl⟩
  have hb1 : Below w.heap.size w w1 := by rw [hw1]; exact ((((Below.refl _ w).alloc (Nat.le_refl _) _).alloc (by simp) _).alloc (by simp; omega) _).alloc (by simp; omega) _
  have hls : MS w pp w.heap.size ms [] 0 w1 := by
    refine ⟨?_, ?_, ?_, ⟨.slice none 0 0, [], ?_, World.ownsRow_nil _ _ _ _, rfl, (fun row h => by cases h), (fun i row v h => by simp at h)⟩, G.of_below hb1, hpl, Nat.le_refl _⟩
    · rw [hw1]
      exact (Below.heap_alloc _ _ _ (by simp; omega)).trans ((Below.heap_alloc _ _ _ (by simp; omega)).trans ((Below.heap_alloc _ _ _ (by simp)).trans (heap_alloc_new w _)))
    · rw [hw1]
      have := heap_alloc_new (((w.alloc (.cells #[.pointer (some ⟨pp, 0, none⟩)] 92)).alloc (.cells #[.slice none 0 0] 25)).alloc (.map #[] 0)) (.cells #[.map (some (w.heap.size + 1 + 1))] 115)
      simp only [World.size_alloc] at this
      exact this
    · refine SetAt.keptB (w := ((w.alloc (.cells #[.pointer (some ⟨pp, 0, none⟩)] 92)).alloc (.cells #[.slice none 0 0] 25)).alloc (.map #[] 0)) ?_ ?_
      · have := World.ownsMap_made ((w.alloc (.cells #[.pointer (some ⟨pp, 0, none⟩)] 92)).alloc (.cells #[.slice none 0 0] 25)) Tryz.prog 9 (unitElem (H := Unit))
        simp only [World.size_alloc] at this
        exact this
      · rw [hw1]
        exact Below.heap_alloc _ _ _ (by simp)
    · rw [hw1]
      have := heap_alloc_new (w.alloc (.cells #[.pointer (some ⟨pp, 0, none⟩)] 92)) (.cells #[.slice none 0 0] 25)
      rw [World.size_alloc] at this
      exact (Below.heap_alloc _ _ _ (by simp)).trans ((Below.heap_alloc _ _ _ (by simp)).trans this)
  have HE := Lib.hid (elements_any pp t a r n b p q s 125 99 #[.pointer (some ⟨w.heap.size, 0, none⟩), .pointer (some ⟨w.heap.size + 3, 0, none⟩), .pointer (some ⟨w.heap.size + 1, 0, none⟩)] (fun k w2 => MS w pp w.heap.size ms ((ms.take k).map M.name) k w2) w1 (hp.below hb1) (by omega) (by decide) hl he (enters_of Tryz.func99 (by kernel_rfl) rfl)
    (fun k w w' x rm h _ hg => h.keep hg) hls (fun k w2 hk h1 h2 => by
      obtain ⟨m, hm⟩ : ∃ m, ms[k]? = some m := ⟨_, List.getElem?_eq_getElem (by omega)⟩
      have htake : (ms.take (k + 1)).map M.name = (ms.take k).map M.name ++ [m.name] := by rw [List.take_add_one, hm]; simp
      rw [htake]
      exact mem1_any t pp w.heap.size d (p k) r (q k) (p1 k) (p2 k) k ms ((ms.take k).map M.name) m w w2 h1 h2 hr (by omega) (by omega) hl (by simp; omega) hm (names_new ms hun hm) (hnl m (List.mem_of_getElem? hm)) (hval k m hm)))
  have hmm := @run_makeMap Tryz.prog
  have hmf : ∀ (fn : Fn) (first cap : Array Value) (w : World), (Instr.makeFunc fn first cap).run Tryz.prog w = .ok (.func fn first cap) w := fun _ _ _ _ => rfl
  have HN := Lib.hid hn
  clear hp hr hr1 hn hn1 hl he hval hb1 hls hpl hun hnl
  go_enter Tryz.func76, Tryz.ntmps76
  go_wp2_with fail
  rw [← hw1]
  clear hw1
  refine HE.out.mono ?_
  rintro e w2 ⟨rfl, hs, hp2⟩
  obtain ⟨lv, rows, b1, ow, hlen, hrows, hh⟩ := hs.lbox
  have HG := Lib.hid hs.g
  have HP := Lib.hid hp2
  obtain ⟨A, cap, rfl⟩ : ∃ A c, lv = .slice A (n : Nat) c := by
    rcases ow.2 with ⟨rfl, h0⟩ | ⟨g, cap, cur, rfl, _⟩
    · exact ⟨none, 0, by rw [h0]⟩
    · exact ⟨_, _, rfl⟩
  have c0 := b1.cell 0
  have HA : Hid ((0 < n → A.isSome = true) ∧ (∀ i m, ms[i]? = some m → w2.cell? ((A.getD default).add (i * 6)) = some (.string (mk m.name))) ∧ ∀ i m, ms[i]? = some m → RdP (fun k => w.heap.size ≤ k) w2 ((A.getD default).add (i * 6 + 1)) m.val) := Lib.hid (by
    have hat : ∀ i m, ms[i]? = some m → ∃ g, A = some ⟨g, 0, none⟩ ∧ w2.cell? ((⟨g, 0, none⟩ : Addr).add (i * 6)) = some (.string (mk m.name)) ∧ RdP (fun k => w.heap.size ≤ k) w2 ((⟨g, 0, none⟩ : Addr).add (i * 6 + 1)) m.val := by
      intro i m hv
      have hin : i < rows.length := by have := (List.getElem?_eq_some_iff.1 hv).1; have := HN.out; omega
      obtain ⟨row, hrow⟩ : ∃ row, rows[i]? = some row := ⟨_, List.getElem?_eq_getElem hin⟩
      obtain ⟨g, hg, hgb, _, hcell⟩ := row_at6 ow hlen hrows hrow
      obtain ⟨r5, hr5, A', ca', B', cb', hval, h1, h2, h3, h4, h5⟩ := hh i row m hrow hv
      injection hval with hval
      have hrw : row = [.string (mk m.name), .int .i64 m.val.kind, .bool m.val.yes, .string (mk m.val.text), .slice A' (m.val.list.length : Nat) ca', .slice B' (m.val.mem.length : Nat) cb'] := by
        have := congrArg Array.toList hval
        rw [hr5]
        simpa using this
      rw [hrw] at hcell
      refine ⟨g, hg, ?_, ?_⟩
      · rw [Addr.add_mid, Nat.zero_add]
        exact hcell 0 _ rfl
      rw [Addr.add_mid, Nat.zero_add]
      have hadd : ∀ n, n ≠ 0 → (⟨g, i * 6 + 1, none⟩ : Addr).add n = ⟨g, i * 6 + 1 + n, none⟩ := fun n _ => Addr.add_mid ..
      obtain ⟨nm, v⟩ := m
      simp only [M.val] at *
      cases v with
      | mk k y tx l m =>
        refine .mk _ k y tx l m A' ca' B' cb' (by show w.heap.size ≤ g; omega) (hcell 1 _ rfl) ?_ ?_ ?_ ?_ h1 h2 (fun i x hx => (h3 i x hx).mono (fun q hq _ => hq.2.2.2)) h4 (fun i x hx => (h5 i x hx).mono (fun q hq _ => hq.2.2.2))
        · rw [hadd 1 (by decide)]; exact hcell 2 _ rfl
        · rw [hadd 2 (by decide)]; exact hcell 3 _ rfl
        · rw [hadd 3 (by decide)]; exact hcell 4 _ rfl
        · rw [hadd 4 (by decide)]; exact hcell 5 _ rfl
    refine ⟨fun h => ?_, fun i v hv => ?_, fun i v hv => ?_⟩
    · obtain ⟨v, hv⟩ : ∃ v, ms[0]? = some v := ⟨_, List.getElem?_eq_getElem (by have := HN.out; omega)⟩
      obtain ⟨g, hg, _⟩ := hat 0 v hv
      rw [hg]; rfl
    · obtain ⟨g, hg, h, _⟩ := hat i v hv
      rw [hg]
      exact h
    · obtain ⟨g, hg, _, h⟩ := hat i v hv
      rw [hg]
      exact h)
  clear hs hp2 ow hlen hrows hh b1 HE
  go_wp2
  go_ret
  exact ⟨A, cap, rfl, HA.out.1, HA.out.2.1, HA.out.2.2, HP.out, HG.out⟩
end Go.Proofs.YtkenananejgcpaaGreatDoor.Jsn
