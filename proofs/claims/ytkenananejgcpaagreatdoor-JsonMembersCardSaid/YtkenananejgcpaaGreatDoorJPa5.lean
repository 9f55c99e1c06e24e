/-
  quoted: a string is read.
-/
import Derived.Test.YtkenananejgcpaaGreatDoorJPa4
namespace Go.Proofs.YtkenananejgcpaaGreatDoor.Jsn
open Go.RowKit Txt
/-- What is escaped at a place: the rune, and where it ends. -/
def EscC (t : List UInt8) (a : Nat) (r : Int) (b : Nat) : Prop := ∀ pp rm w, Ps w pp t a rm →
  Calls Tryz.prog 96 #[.pointer (some ⟨pp, 0, none⟩)] w fun e w' => e = .returned (.int .i32 r) ∧ Ps w' pp t b rm ∧ G pp w w'
/-- What a string means from a place on, and where it ends. -/
inductive Qd (t : List UInt8) : Nat → List UInt8 → Nat → Prop
  | done (a : Nat) (h : a < t.length) (hb : (nb t a).toNat = 34) : Qd t a [] (a + 1)
  | plain (a : Nat) (out : List UInt8) (b : Nat) (h : a < t.length) (h1 : 32 ≤ (nb t a).toNat) (h2 : (nb t a).toNat ≠ 34) (h3 : (nb t a).toNat ≠ 92) (hq : Qd t (a + 1) out b) : Qd t a (nb t a :: out) b
  | esc (a : Nat) (r : Int) (cs : List UInt8) (a' : Nat) (out : List UInt8) (b : Nat) (h : a < t.length) (hb : (nb t a).toNat = 92) (he : EscC t a r a') (hr0 : -2147483648 ≤ r) (hr1 : r ≤ 2147483647) (hc : Lib.runeCells r = Lib.byteCells cs) (hlt : a < a') (hq : Qd t a' out b) : Qd t a (cs ++ out) b
theorem Qd.lt {t : List UInt8} {a b : Nat} {out : List UInt8} (h : Qd t a out b) : a < b ∧ b ≤ t.length := by
  induction h with
  | done a h hb => omega
  | plain a out b h h1 h2 h3 hq ih => omega
  | esc a r cs a' out b h hb he hr0 hr1 hc hlt hq ih => omega
abbrev BldF (w : World) (B b : Nat) (l : List UInt8) : Prop := Lib.IsBuilderF 99 5 B b (Lib.byteCells l) w
theorem bldF_keep {w w' : World} {pp B b : Nat} {l : List UInt8} (h : BldF w B b l) (hg : G pp w w') (hp : pp < B) : BldF w' B b l := by
  have key : ∀ p, Lib.BuilderAtF 99 5 B b p (Lib.byteCells l) w → Lib.BuilderAtF 99 5 B b p (Lib.byteCells l) w' := by
    rintro p ⟨hB, v, hh, hown, hne⟩
    refine ⟨hB, v, ?_, ?_, hne⟩
    · rw [hg.block b (Array.getElem?_eq_some_iff.1 hh).1 (fun e => by injection e; omega)]
      exact hh
    · exact hown.kept hg (.inr (fun e => by have := (hown.lt pp e).1; omega))
  exact h.elim (fun x => .inl (key _ x)) (fun x => .inr (key _ x))
theorem G.below {pp B : Nat} {a b c : World} (h : G pp a b) (hb : Below B b c) (hB : a.heap.size ≤ B) : G pp a c :=
  ⟨hb.os.trans h.os, hb.tape.trans h.tape, hb.output.trans h.output, Nat.le_trans h.size hb.size, fun k hk hn => (hb.block k (by omega)).trans (h.block k hk hn)⟩
set_option maxRecDepth 100000
set_option maxHeartbeats 4000000 in
theorem quoted_any (pp : Nat) (t : List UInt8) (a r : Nat) (out : List UInt8) (b : Nat) (w : World) (h : Ps w pp t a r) (ha : (nb t a).toNat = 34) (hal : a < t.length) (hq : Qd t (a + 1) out b) (hl : t.length ≤ 100000) (ho : out.length ≤ 1000000) :
    Calls Tryz.prog 74 #[.pointer (some ⟨pp, 0, none⟩)] w fun e w' => e = .returned (.string (mk out)) ∧ Ps w' pp t b r ∧ G pp w w' := by
  have hpl := h.lt
  have HT := Lib.hid (take_any pp t a r 34 w h hal (by apply UInt8.toNat.inj; rw [ha]; rfl) hl)
  have HQ := Lib.hid hq
  have HL := Lib.hid (show t.length ≤ 100000 ∧ out.length ≤ 1000000 from ⟨hl, ho⟩)
  clear h ha hal hq hl ho
  go_enter Tryz.func74, Tryz.ntmps74
  go_wp2_with fail
  refine HT.out.mono ?_
  rintro e w1 ⟨rfl, hp1, hg1⟩
  obtain ⟨bb, hbb⟩ : ∃ bb, bb = w1.heap.size := ⟨_, rfl⟩
  have hs1 := hg1.size
  have hpp : pp < bb := by omega
  have hwb : w.heap.size ≤ bb := by omega
  have HP1 := Lib.hid (hp1.below ((Below.refl _ w1).alloc (Nat.le_refl _) (.cells #[.pointer none, .slice none 0 0] 99)))
  have HG1 := Lib.hid (hg1.below ((Below.refl _ w1).alloc (Nat.le_refl _) (.cells #[.pointer none, .slice none 0 0] 99)) (Nat.le_trans hs1 (Nat.le_refl _)))
  have HB1 : Hid (BldF (w1.alloc (.cells #[.pointer none, .slice none 0 0] 99)) bb bb []) := Lib.hid (.inl ⟨Nat.le_refl _, .slice none 0 0, by rw [hbb]; exact heap_alloc_new w1 _, World.ownsRowF_nil _ _ _ _, by simp [Value.ownBlock]⟩)
  have hsz : bb ≤ (w1.alloc (.cells #[.pointer none, .slice none 0 0] 99)).heap.size := by rw [hbb]; simp
  clear hp1 hg1 hs1 HT
  go_wp2
  rw [← hbb]
  generalize w1.alloc (.cells #[.pointer none, .slice none 0 0] 99) = wA at *
  clear hbb hpl
  go_loopg [8] (b - (a + 1)) (fun k _ wr => ∃ (c : Nat) (o rest : List UInt8), k = b - c ∧ Qd t c rest b ∧ out = o ++ rest ∧ Ps wr pp t c r ∧ BldF wr bb bb o ∧ G pp w wr ∧ bb ≤ wr.heap.size)
  case atStart => exact ⟨a + 1, [], out, rfl, HQ.out, rfl, HP1.out, HB1.out, HG1.out, hsz⟩
  case round =>
    obtain ⟨c, o, rest, hk, hqd, hout, hps, hbl, hg, hbs⟩ := hrel
    have hql := hqd.lt
    have hlim := HL.out
    have HN := Lib.hid (next_any pp t c r wr hps (by omega))
    have HPS := Lib.hid hps
    have HBL := Lib.hid hbl
    have HG := Lib.hid hg
    have HO := Lib.hid hout
    have hol : o.length ≤ 1000000 := by have := congrArg List.length hout; rw [List.length_append] at this; omega
    have HOL := Lib.hid hol
    have HBS := Lib.hid hbs
    clear hps hbl hg hol HP1 HB1 HG1 hsz hbs
    cases hqd with
    | done _ h1 h2 =>
      have HO2 : Hid (o = out) := Lib.hid (by rw [HO.out]; simp)
      have hc2 : (0 : Int) ≤ (c : Int) + 1 ∧ (c : Int) + 1 ≤ 10000000 := by omega
      rw [h2] at HN
      clear hql hlim h1 h2 hout hk
      have w6 := wrap64i hc2.1 hc2.2
      clear hc2
      go_wp2_with fail
      refine HN.out.mono ?_
      rintro e w2 ⟨rfl, hp2, hg2⟩
      obtain ⟨d0, d1, -, f2, -⟩ := hp2.cells
      obtain ⟨w3, hw3⟩ : ∃ w3, w3 = w2.setCell ⟨pp, 1, none⟩ (.int .i64 ((c : Int) + 1)) := ⟨_, rfl⟩
      have HP3 : Hid (Ps w3 pp t (c + 1) r) := Lib.hid (by rw [hw3]; exact hp2.set1 (c + 1))
      have hgA : G pp wr w3 := by rw [hw3]; exact hg2.trans (put1 pp _)
      have HG3 : Hid (G pp w w3) := Lib.hid (HG.out.trans hgA)
      have HBL3 := Lib.hid (bldF_keep HBL.out hgA hpp)
      have HS3 : Hid (bb ≤ w3.heap.size) := Lib.hid (Nat.le_trans HBS.out hgA.size)
      clear hp2 hg2 HN hgA
      go_wp2_with fail
      rw [← hw3]
      clear hw3
      refine (stringF_any bb bb o w3 HBL3.out HS3.out).mono ?_
      rintro e w4 ⟨rfl, -, hb4⟩
      have HP4 : Hid (Ps w4 pp t (c + 1) r) := Lib.hid ((hb4.block pp hpp).trans HP3.out)
      have HG4 := Lib.hid (HG3.out.below hb4 hwb)
      clear hb4
      go_wp2
      go_ret
      exact ⟨by rw [← HO2.out]; rfl, HP4.out, HG4.out⟩
    | plain _ rst _ h1 h2 h3 h4 hq2 =>
      have hc2 : (0 : Int) ≤ (c : Int) + 1 ∧ (c : Int) + 1 ≤ 10000000 := by omega
      have n1 : (((nb t c).toNat : Int) != 34) = true := by rw [bne_iff_ne]; omega
      have n2 : (((nb t c).toNat : Int) == 92) = false := by rw [beq_eq_false_iff_ne]; omega
      have n3 : ¬ (((nb t c).toNat : Int) < 32) := by omega
      have HK : Hid (b - (c + 1) < gk) := Lib.hid (by omega)
      have HO2 : Hid (out = (o ++ [nb t c]) ++ rst) := Lib.hid (by rw [HO.out]; simp)
      have HQ2 := Lib.hid hq2
      obtain ⟨y, hy⟩ : ∃ y, nb t c = y := ⟨_, rfl⟩
      rw [hy] at n1 n2 n3 HO2 HN
      have HY := Lib.hid hy
      clear hql hlim h1 h2 h3 h4 hout hk hq2 hy
      have w6 := wrap64i hc2.1 hc2.2
      clear hc2
      go_wp2_with fail
      refine HN.out.mono ?_
      rintro e w2 ⟨rfl, hp2, hg2⟩
      have HN2 := Lib.hid (next_any pp t c r w2 hp2 (by have := HQ2.out.lt; omega))
      rw [HY.out] at HN2
      have HG2 := Lib.hid hg2
      clear hp2 hg2 HN
      go_wp2_with fail
      refine HN2.out.mono ?_
      rintro e w3 ⟨rfl, hp3, hg3⟩
      have hgA := HG2.out.trans hg3
      have HBL3 := Lib.hid (bldF_keep HBL.out hgA hpp)
      have HG3 := Lib.hid (HG.out.trans hgA)
      have HP3 := Lib.hid hp3
      have HS3 : Hid (bb ≤ w3.heap.size) := Lib.hid (Nat.le_trans HBS.out hgA.size)
      clear hp3 hg3 hgA HN2 HG2 HBL HG
      go_wp2_with fail
      refine (writeByteK_any bb bb (Lib.byteCells o) _ w3 HBL3.out (by rw [Lib.byteCells_length]; have := HOL.out; omega) HS3.out).mono ?_
      rintro e w4 ⟨rfl, hb4, hbe4, -⟩
      have hp4 : Ps w4 pp t c r := (hbe4.block pp hpp).trans HP3.out
      obtain ⟨d0, d1, -, f2, -⟩ := hp4.cells
      obtain ⟨w5, hw5⟩ : ∃ w5, w5 = w4.setCell ⟨pp, 1, none⟩ (.int .i64 ((c : Int) + 1)) := ⟨_, rfl⟩
      have HP5 : Hid (Ps w5 pp t (c + 1) r) := Lib.hid (by rw [hw5]; exact hp4.set1 (c + 1))
      have hgB : G pp w4 w5 := by rw [hw5]; exact put1 pp _
      have HBL5 : Hid (BldF w5 bb bb (o ++ [y])) := Lib.hid (bldF_keep (by unfold BldF; rw [byteCells_append]; exact hb4) hgB hpp)
      have HG5 : Hid (G pp w w5) := Lib.hid ((HG3.out.below hbe4 hwb).trans hgB)
      have HS5 : Hid (bb ≤ w5.heap.size) := Lib.hid (Nat.le_trans HS3.out (Nat.le_trans hbe4.size hgB.size))
      clear hb4 hbe4 hp4 hgB HP3 HBL3 HG3 HS3
      go_wp2
      rw [← hw5]
      clear hw5
      go_roundg (b - (c + 1))
      case measure => exact HK.out
      case rel => exact ⟨c + 1, o ++ [y], rst, rfl, HQ2.out, HO2.out, HP5.out, HBL5.out, HG5.out, HS5.out⟩
    | esc _ q cs a' rst _ h1 h2 he hr0 hr1 hc hlt hq2 =>
      have hql2 := hq2.lt
      have HK : Hid (b - a' < gk) := Lib.hid (by omega)
      have HO2 : Hid (out = (o ++ cs) ++ rst) := Lib.hid (by rw [HO.out]; simp)
      have HQ2 := Lib.hid hq2
      have HY := Lib.hid h2
      have HE := Lib.hid (show EscC t c q a' ∧ -2147483648 ≤ q ∧ q ≤ 2147483647 ∧ Lib.runeCells q = Lib.byteCells cs ∧ c ≤ t.length from ⟨he, hr0, hr1, hc, by omega⟩)
      rw [h2] at HN
      clear hql hlim h1 h2 hout hk hq2 he hr0 hr1 hc hlt hql2
      go_wp2_with fail
      refine HN.out.mono ?_
      rintro e w2 ⟨rfl, hp2, hg2⟩
      have HN2 := Lib.hid (next_any pp t c r w2 hp2 HE.out.2.2.2.2)
      rw [HY.out] at HN2
      have HG2 := Lib.hid hg2
      clear hp2 hg2 HN
      go_wp2_with fail
      refine HN2.out.mono ?_
      rintro e w3 ⟨rfl, hp3, hg3⟩
      have hgA := HG2.out.trans hg3
      have HC := Lib.hid (HE.out.1 pp r w3 hp3)
      have HGA := Lib.hid hgA
      clear hp3 hg3 hgA HN2 HG2
      go_wp2_with fail
      refine HC.out.mono ?_
      rintro e w4 ⟨rfl, hp4, hg4⟩
      have hgB := HGA.out.trans hg4
      have HBL4 := Lib.hid (bldF_keep HBL.out hgB hpp)
      have HG4 := Lib.hid (HG.out.trans hgB)
      have HP4 := Lib.hid hp4
      have HS4 : Hid (bb ≤ w4.heap.size) := Lib.hid (Nat.le_trans HBS.out hgB.size)
      clear hp4 hg4 hgB HC HGA HBL HG
      go_wp2_with fail
      refine (writeRune_any bb bb (Lib.byteCells o) q HE.out.2.1 HE.out.2.2.1 w4 HBL4.out (by rw [Lib.byteCells_length]; have := HOL.out; omega) HS4.out).mono ?_
      rintro e w5 ⟨rfl, hb5, hbe5⟩
      have HP5 : Hid (Ps w5 pp t a' r) := Lib.hid ((hbe5.block pp hpp).trans HP4.out)
      have HBL5 : Hid (BldF w5 bb bb (o ++ cs)) := Lib.hid (by unfold BldF; rw [byteCells_append, ← HE.out.2.2.2.1]; exact hb5)
      have HG5 : Hid (G pp w w5) := Lib.hid (HG4.out.below hbe5 hwb)
      have HS5 : Hid (bb ≤ w5.heap.size) := Lib.hid (Nat.le_trans HS4.out hbe5.size)
      clear hb5 hbe5 HP4 HBL4 HG4 HS4
      go_wp2
      go_roundg (b - a')
      case measure => exact HK.out
      case rel => exact ⟨a', o ++ cs, rst, rfl, HQ2.out, HO2.out, HP5.out, HBL5.out, HG5.out, HS5.out⟩
end Go.Proofs.YtkenananejgcpaaGreatDoor.Jsn
