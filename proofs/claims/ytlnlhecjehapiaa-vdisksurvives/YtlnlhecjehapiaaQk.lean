/- Layer 8: Names. -/
import Derived.Test.YtlnlhecjehapiaaQj
import Derived.Test.YtlnlhecjehapiaaQs
import Derived.Sort.OwnSorted
namespace Go.Proofs.Ytlnlhecjehapiaa
open Go.RowKit Go.Maps Go.Sort
set_option linter.unusedVariables false
set_option maxRecDepth 20000

theorem infoS : (Try.prog.info? 9).map (fun i => (i.zero, i.size, i.bytes)) = some (some (.string ⟨#[]⟩), 1, 16) := by kernel_rfl
/-- All names, sorted. -/
def NamesEnd (w : World) (M : List FR) (e : Ending) (w' : World) : Prop :=
  ∃ (g cap : Nat) (ss : List (List UInt8)), e = .returned (.slice (some ⟨g, 0, none⟩) ss.length cap) ∧ ss.Perm (M.map FR.name) ∧ w'.ownsRow w.heap.size 9 1 (.slice (some ⟨g, 0, none⟩) ss.length cap) ss.length ((ss.mergeSort (fun x y => decide (x ≤ y))).map encStr) ∧ Below w.heap.size w w'
theorem strKeys_M {es : List (Lit × DataW Unit)} {M : List FR} (hp : es.Perm (M.map FR.ent)) : (strKeys (.map es)).Perm (M.map FR.name) := by
  have h := hp.map (fun p : Lit × DataW Unit => strOf p.1)
  rw [List.map_map] at h
  exact h
theorem Below.grows {w w' : World} (h : Below w.heap.size w w') : w.grownBy w' none := ⟨h.os, h.tape, h.output, h.size, fun i hi _ => h.block i hi⟩
theorem NamesEnd.sorted {w wr : World} {M : List FR} {R g cap nn : Nat} {ss : List (List UInt8)} {os : Array Obj} {cur : Array Value} (hR : w.heap.size = R) (hp : ss.Perm (M.map FR.name)) (hbase : R ≤ g) (hb : wr.heap[g]? = some (.cells cur 9 (0, 0))) (h1 : ss.length ≤ cap) (h2 : cap ≤ maxLen) (h3 : cur.size = cap * 1) (hnx : Below R w wr) (hs : R ≤ wr.heap.size) :
    NamesEnd w M (.returned (.slice (some ⟨g, 0, none⟩) ss.length cap)) (grow (putRow encStr (Sort.ahead wr nn) g 0 (ss.mergeSort fun x y => decide (x ≤ y)).toArray) os) := by
  subst hR
  exact ⟨g, cap, ss, rfl, hp, ownsRow_sorted (by simp) hbase hb h1 h2 h3, hnx.grown (grownBy_sorted _) hs (fun j hj => by cases hj; exact hbase)⟩
set_option maxHeartbeats 4000000 in
theorem names_ok (w : World) (B d room bm : Nat) (M : List FR) (h : VM w B d room bm M) (hne : M ≠ []) (hsm : ∀ m ∈ M, m.name.length ≤ 32) :
    Calls Try.prog 18 #[.pointer (some ⟨d, 0, none⟩)] w (NamesEnd w M) := by
  obtain ⟨c0, c1, c2⟩ := h.cells
  obtain ⟨es, hD, hp⟩ := h.own
  obtain ⟨i0, hi, hz0, hz1, hz2⟩ := info_parts infoS
  have HV : Hid (VM w B d room bm M ∧ M ≠ [] ∧ ∀ m ∈ M, m.name.length ≤ 32) := ⟨h, hne, hsm⟩
  have HP : Hid (es.Perm (M.map FR.ent)) := hp
  have HA : Hid (M.Pairwise Apart) := h.apart
  have HG : Hid (∀ _ : Unit, Calls Try.prog 24 #[.pointer (some ⟨d, 0, none⟩)] w fun e w' => e = .returned (.bool true) ∧ w' = w) := fun _ => given_ok w d c0
  have hn := h.hcnt
  have hbl : bm < w.heap.size := h.lt.2
  clear h hp hne hsm
  go_enter Try.func18, Try.ntmps18
  go_wp2_with fail
  refine (HG.out ()).mono ?_
  rintro e W ⟨rfl, hW⟩
  obtain rfl := hW.symm
  clear hW
  go_wp2_with (first
    | (at_range; refine wpList_range_own _ rfl _ 37 rfl 9 52 law9 Try.underlying37 _ bm _ _ rfl hD ?_; intro w0 hrg0 hg0 hs0))
  go_frame
  obtain ⟨R, hR⟩ : ∃ R, w.heap.size = R := ⟨_, rfl⟩
  rw [hR] at hrg0 hs0 hbl
  try rw [hR]
  have HR : Hid (w.heap.size = R) := hR
  have HB0 : Hid (Below R w w0 ∧ R + 1 ≤ w0.heap.size) := ⟨⟨hg0.os, hg0.tape, hg0.output, hg0.size, fun k hk => hg0.block k (by omega) (by simp)⟩, by omega⟩
  clear hg0 hs0 hR
  go_loopw [3] (fun v wr => Hid (∃ left cnt ss, wr.ranges Try.prog 9 pE bm R M.length (.map es) left cnt ∧ ss.length + cnt ≤ M.length ∧ wr.ownsRow R 9 1 v ss.length (ss.map encStr) ∧ Collected (.map es) left ss ∧ Below R w wr ∧ R ≤ wr.heap.size)) (fun _ wr => wr.rangeLeft bm R)
  case atStart =>
    refine ⟨_, _, [], hrg0, ?_, ⟨rfl, .inl ⟨rfl, rfl⟩⟩, Collected.start _, HB0.out.1, by have := HB0.out.2; omega⟩
    have := HP.out.length_eq
    simp [Maps.size] at this ⊢
    omega
  case round =>
    obtain ⟨left, cnt, ss, hrg, hcs, hrow, hC, hnx, hsz⟩ := hrel.out
    go_wp2_with (first
      | (at_next; refine wpList_next_files _ rfl _ rfl bm R M.length es M HP.out HA.out left cnt rfl hrg ?_ ?_))
    · intro hc0 hl0
      have hperm := (hC.perm hD law9 Try.underlying9 hl0).trans (strKeys_M HP.out)
      rcases hrow.2 with ⟨hnil, h0⟩ | ⟨g, cap, cur, hv, hbase, hb, h1, h2, h3, h4⟩
      · exfalso
        have := hperm.length_eq
        rw [h0, List.length_map] at this
        exact HV.out.2.1 (List.eq_nil_of_length_eq_zero this.symm)
      subst hv
      have hH : Holds encStr wr g 0 ss.toArray := holds_of_block hb (by simpa using h4)
      have hgl : g < wr.heap.size := (Array.getElem?_eq_some_iff.1 hb).1
      have HSo : Hid (∀ _ : Unit, Calls Try.prog 29 #[.slice (some ⟨g, 0, none⟩) ss.length cap] wr fun e w' => e = .returned (.tuple #[]) ∧ ∃ n os, w' = grow (putRow encStr (Sort.ahead wr n) g 0 (ss.mergeSort fun x y => decide (x ≤ y)).toArray) os) := fun _ => Any.slices_Sort_string Try.lays190 g 0 cap ss wr hH hgl (by omega)
      have HN : Hid (∀ (nn : Nat) (os : Array Obj), NamesEnd w M (.returned (.slice (some ⟨g, 0, none⟩) ss.length cap)) (grow (putRow encStr (Sort.ahead wr nn) g 0 (ss.mergeSort fun x y => decide (x ≤ y)).toArray) os)) := fun nn os => NamesEnd.sorted HR.out hperm hbase hb h1 h2 h3 hnx hsz
      clear hrg hcs hrow hC hnx hsz hperm hbase hb h1 h2 h3 h4 hH hgl hrel
      go_wp2_with fail
      refine (HSo.out ()).mono ?_
      rintro e W ⟨rfl, nn, os, hW⟩
      have HE : Hid (NamesEnd w M (.returned (.slice (some ⟨g, 0, none⟩) ss.length cap)) W) := by rw [hW]; exact HN.out nn os
      clear hW
      go_wp2
      go_ret
      exact HE.out
    · intro m w1 cnt1 hm hlk hrg1 hlt hg1 hs1 hen
      have hrow1 := hrow.kept hg1 (Or.inr (row_ne_iter hrow hrg).symm)
      have hb1 : Below R w w1 := belowRow hnx (Nat.le_refl _) hg1 hsz
      have hC1 := hC.step (y := .lit (.int .i64 (m.blk : Nat))) hlk (fun zd => by rw [atKey_M HP.out HA.out, findF_of HA.out hm])
      have hnl := HV.out.2.2 m hm
      have hsz1 : R ≤ w1.heap.size := Nat.le_trans hsz hg1.size
      obtain ⟨q, hq⟩ : ∃ q, m.blk = q := ⟨_, rfl⟩
      obtain ⟨nm, hnm⟩ : ∃ q, m.name = q := ⟨_, rfl⟩
      rw [hq, hnm] at hen ⊢
      rw [hnm] at hC1 hrg1 hnl
      have HX : Hid (w1.ranges Try.prog 9 pE bm R M.length (.map es) (fun z => left z && !z.sameKey (.string nm)) cnt1 ∧ wr.ranges Try.prog 9 pE bm R M.length (.map es) left cnt ∧ cnt1 < cnt ∧ ss.length + cnt ≤ M.length ∧ Collected (.map es) (fun z => left z && !z.sameKey (.string nm)) (ss ++ [nm]) ∧ Below R w w1 ∧ R ≤ w1.heap.size) := ⟨hrg1, hrg, hlt, hcs, hC1, hb1, hsz1⟩
      have HRow : Hid (w1.ownsRow R 9 1 _ ss.length (ss.map encStr)) := hrow1
      have HCl : Hid (∀ _ : Unit, Calls Try.prog 28 #[.string ⟨nm.toArray⟩] w1 fun e w' => e = .returned (.string ⟨nm.toArray⟩) ∧ Below w1.heap.size w1 w') := fun _ => clone _ w1 (by show nm.toArray.size ≤ _; simp; omega)
      clear hrow1 hb1 hC1 hsz1 hq hnm hrg1 hrg hlt hcs hg1 hs1 hlk hm hrow hC hnx hsz hrel
      go_wp2_with fail
      refine (HCl.out ()).mono ?_
      rintro e w2 ⟨rfl, hb2⟩
      have hrow2 := ownsRow_block HRow.out (fun g hg => hb2.block g (HRow.out.lt g hg).2)
      have H2 : Hid (Below w1.heap.size w1 w2 ∧ w2.ownsRow R 9 1 u3 ss.length (ss.map encStr) ∧ R ≤ w2.heap.size ∧ ss.length + 1 ≤ 256) := ⟨hb2, hrow2, Nat.le_trans HX.out.2.2.2.2.2.2 hb2.size, by have := HX.out; omega⟩
      clear hb2 hrow2
      go_wp2_with (first
        | (at_builtin; refine wpList_append_own _ rfl _ _ 22 rfl R 9 i0 (.string ⟨#[]⟩) 1 16 Try.underlying22 hi hz0 hz1 hz2 rfl (by decide) _ _ _ rfl (H2.out.2.1.alloc _) ⟨w2.heap.size, 0, none⟩ 1 1 [encStr nm] rfl rfl (cell_one_new _ _ _) (by simp [Value.oneCell', encStr]) (by have := H2.out.2.2.2; unfold maxLen; omega) (by have := H2.out.2.2.2; omega) (by have := H2.out.2.2.1; simp; omega) ?_; intro v' w3 hown' hg3 hnil3; go_frame))
      obtain ⟨x1, x2, x3, x4, x5, x6, x7⟩ := HX.out
      obtain ⟨y1, y2, y3, y4⟩ := H2.out
      have hrg2 := x1.kept (Below.grows y1) (by simp) (by simp)
      have n1 : some bm ≠ u3.ownBlock := row_ne_low y2 hbl
      have n2 : some R ≠ u3.ownBlock := row_ne_iter y2 hrg2
      have hrg3 := (hrg2.alloc _).kept hg3 n1 n2
      have hbx : Below R w w2 := x6.trans ⟨y1.os, y1.tape, y1.output, y1.size, fun k hk => y1.block k (by omega)⟩
      have hall : Below R w w3 := (hbx.alloc y3 _).grown hg3 (by simp; omega) (fun j hj => (y2.lt j hj).1)
      go_roundw
      case rel =>
        refine ⟨_, cnt1, ss ++ [nm], hrg3, by simp; omega, by simpa using hown', x5, hall, ?_⟩
        have := hg3.size
        simp at this
        omega
      case measure => rw [hrg3.left_eq, x2.left_eq]; exact x3
end Go.Proofs.Ytlnlhecjehapiaa
