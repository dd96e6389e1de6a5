/- Layer 11: the document's End and Having of batches in a row of the law's own; the law's told. -/
import Derived.Test.YtmokjopffgmfjaaGreatDoorEKti
import Derived.Test.YtmokjopffgmfjaaGreatDoorEKtj
namespace Go.Proofs.YtmokjopffgmfjaaGreatDoor
open Go.RowKit
set_option linter.unusedVariables false
set_option maxRecDepth 20000
set_option maxRecDepth 20000

def strs (l : List BT) : List Value := l.map fun b => .string b.s
/-- A row of batches' bytes of the law's own. -/
def OwnS (w : World) (B : Nat) (v : Value) (l : List BT) : Prop := w.ownsRow B 9 1 v l.length (strs l)
theorem OwnS.below {w w' : World} {B : Nat} {v : Value} {l : List BT} (h : OwnS w B v l) (hb : Below w.heap.size w w') : OwnS w' B v l := owns_below h hb
theorem OwnS.form {w : World} {B : Nat} {v : Value} {l : List BT} (h : OwnS w B v l) : ∃ a c, v = .slice a l.length c := rowForm h
theorem OwnS.blk {w : World} {B : Nat} {a : Option Addr} {n c : Nat} {l : List BT} (h : OwnS w B (.slice a n c) l) (h0 : 0 < l.length) : ∃ g, a = some ⟨g, 0, none⟩ ∧ n = l.length ∧ ∀ i b, l[i]? = some b → w.cell? ⟨g, i, none⟩ = some (.string b.s) := by
  have h' := h
  unfold OwnS at h'
  rcases h'.2 with ⟨e, e0⟩ | ⟨g, cap, cur, e, _⟩
  · omega
  · cases e
    refine ⟨g, rfl, rfl, fun i b hi => ?_⟩
    have := h'.cells (g := g) rfl i (.string b.s) (by simp [strs, hi])
    rw [add_zero_addr] at this
    exact this
set_option maxHeartbeats 2000000 in
theorem rend_ok (w : World) (Bh base : Nat) (v : Value) (l : List BT) (hv : OwnS w Bh v l) (hc : chain base l) (ho : allOK l) (hlen : l.length ≤ 16777216) (hb : base ≤ 1099511627520) :
    Calls Tryz.prog 18 #[v, .int .i64 (base : Nat)] w fun e w' => e = .returned (.int .i64 (endB base l : Nat)) ∧ Below w.heap.size w w' := by
  obtain ⟨a, c, rfl⟩ := hv.form
  by_cases h0 : l = []
  · subst h0
    have e : endB base [] = base := rfl
    rw [e]
    go_enter Tryz.func18, Tryz.ntmps18
    go_wp2
    go_ret
    exact ⟨rfl, Below.refl _ _⟩
  · have hpos : 0 < l.length := List.length_pos_iff.2 h0
    obtain ⟨g, rfl, _, hcell⟩ := hv.blk hpos
    obtain ⟨n, hn⟩ : ∃ n, l.length = n := ⟨_, rfl⟩
    obtain ⟨m, hm⟩ : ∃ m, n - 1 = m := ⟨_, rfl⟩
    obtain ⟨b, hbm⟩ : ∃ b, l[m]? = some b := ⟨_, List.getElem?_eq_getElem (by omega)⟩
    have hbok := ho b (List.mem_of_getElem? hbm)
    have hbase := plAt_base hc hbm
    have hsucc := plAt_succ (base := base) hbm
    have hE : endB base l = b.h.base + b.h.cnt := by
      have h1 := plAt_full base l
      rw [hn, show n = m + 1 by omega, hsucc] at h1
      have h2 := congrArg Pl.off h1
      simp only at h2
      rw [← h2, hbase]
    rw [hE]
    have hc0 : w.cell? ⟨g, m, none⟩ = some (.string b.s) := hcell m b hbm
    have HHd := hide (fun W => rhead11_ok b hbok W)
    obtain ⟨o1, o2, o3, o4, o5, o6, o7⟩ := hbok.ok
    obtain ⟨bs, hbs⟩ : ∃ bs, b.s = bs := ⟨_, rfl⟩
    rw [hbs] at hc0 HHd
    rw [hn]
    have e1 : (n : Int) - 1 = (m : Int) := by omega
    have e2 : (m : Int) < (n : Int) := by omega
    have e3 : m < n := by omega
    have e4 : ((n : Int) == 0) = false := by simp; omega
    have e5 : n ≤ 16777216 := by omega
    clear hv hc ho hlen hb h0 hpos hcell hn hm hbm hbok hbase hsucc hE hbs o4 o5 o6 o7
    obtain ⟨⟨xb, xc, xv, xp, xs, xn⟩, L⟩ := b
    unfold HN.bv at HHd
    simp only at HHd o1 o2 o3 ⊢
    obtain ⟨q, hq⟩ : ∃ q, xb + xc = q := ⟨_, rfl⟩
    rw [hq]
    have e6 : (xb : Int) + (xc : Int) = (q : Int) := by omega
    have e7 : q ≤ 1099511627776 := by omega
    have e8 : (q : Int) ≤ 1099511627776 := by omega
    clear hq
    go_enter Tryz.func18, Tryz.ntmps18
    go_wp2_with fail
    refine (HHd.out w).mono ?_
    rintro e w1 ⟨rfl, hb1⟩
    obtain ⟨U, hU⟩ : ∃ U, w1.heap.size = U := ⟨_, rfl⟩
    have hba := below_a w1 (.cells #[.int .i64 (xb : Nat), .int .i64 (xc : Nat), .int .i64 (xv : Nat), .int .i64 (xp : Nat), .int .i64 (xs : Nat), .slice none 0 0] 62)
    have H1 := hide (And.intro (hb1.trans (hba.mono hb1.size)) (heap_alloc_new w1 (.cells #[.int .i64 (xb : Nat), .int .i64 (xc : Nat), .int .i64 (xv : Nat), .int .i64 (xp : Nat), .int .i64 (xs : Nat), .slice none 0 0] 62)))
    rw [hU] at H1
    clear hba hb1 hc0
    go_upto_region 4 with fail
    try rw [hU]
    generalize (w1.alloc (.cells #[.int .i64 (xb : Nat), .int .i64 (xc : Nat), .int .i64 (xv : Nat), .int .i64 (xp : Nat), .int .i64 (xs : Nat), .slice none 0 0] 62)) = w2 at H1
    clear hU
    obtain ⟨z0, z1, z2, z3, z4, z5⟩ := cells6 H1.out.2
    go_wp2
    go_ret
    exact ⟨rfl, H1.out.1⟩
/-- What Having answers. -/
def HavEnd (w : World) (base : Nat) (l : List BT) (o : Int) (e : Ending) (w' : World) : Prop := Below w.heap.size w w' ∧ ((e = .returned (.int .i64 (-1)) ∧ ∀ i b, l[i]? = some b → ¬ (((plAt base l i).off : Int) ≤ o ∧ o < ((plAt base l (i + 1)).off : Int))) ∨ ∃ i b, l[i]? = some b ∧ ((plAt base l i).off : Int) ≤ o ∧ o < ((plAt base l (i + 1)).off : Int) ∧ e = .returned (.int .i64 (i : Nat)))
set_option maxHeartbeats 4000000 in
theorem rhaving_ok (w : World) (Bh base : Nat) (v : Value) (l : List BT) (hv : OwnS w Bh v l) (hc : chain base l) (ho : allOK l) (hlen : l.length ≤ 16777216) (o : Int) :
    Calls Tryz.prog 36 #[v, .int .i64 o] w (HavEnd w base l o) := by
  obtain ⟨a, c, rfl⟩ := hv.form
  have HV := hide (And.intro hv (And.intro hc ho))
  obtain ⟨n, hn⟩ : ∃ n, l.length = n := ⟨_, rfl⟩
  rw [hn] at hlen ⊢
  have HNl := hide hn
  clear hv hc ho hn
  unfold HavEnd
  go_enter Tryz.func36, Tryz.ntmps36
  go_wp2
  go_loopw [5] (fun i wr => ∃ k : Nat, i = .int .i64 (k : Nat) ∧ k ≤ n ∧ Below w.heap.size w wr ∧ ∀ j b, j < k → l[j]? = some b → ¬ (((plAt base l j).off : Int) ≤ o ∧ o < ((plAt base l (j + 1)).off : Int))) (fun i _ => n - (intOf i).toNat)
  case atStart => exact ⟨0, rfl, by omega, Below.refl _ _, fun j b hj => by omega⟩
  case round =>
    obtain ⟨k, rfl, hk, hbel, hno⟩ := hrel
    have HB := hide (And.intro hbel hno)
    clear hbel hno
    by_cases hkn : k < n
    · have hkni : (k : Int) < (n : Int) := by omega
      obtain ⟨g, rfl, _, hcell⟩ := HV.out.1.blk (by rw [HNl.out]; omega)
      obtain ⟨b, hbk⟩ : ∃ b, l[k]? = some b := ⟨_, List.getElem?_eq_getElem (by rw [HNl.out]; exact hkn)⟩
      have hbok := HV.out.2.2 b (List.mem_of_getElem? hbk)
      have hbase := plAt_base HV.out.2.1 hbk
      have hsucc := plAt_succ (base := base) hbk
      have hc0 : wr.cell? ⟨g, k, none⟩ = some (.string b.s) := cellB HB.out.1 (hcell k b hbk)
      have HHd := hide (fun W => rhead11_ok b hbok W)
      obtain ⟨o1, o2, o3, o4, o5, o6, o7⟩ := hbok.ok
      obtain ⟨bs, hbs⟩ : ∃ bs, b.s = bs := ⟨_, rfl⟩
      rw [hbs] at hc0 HHd
      have HBK := hide (And.intro hbk (And.intro hbase hsucc))
      clear hcell hbk hbok hbase hsucc hbs o2 o4 o5 o6 o7
      obtain ⟨⟨xb, xc, xv, xp, xs, xn⟩, L⟩ := b
      unfold HN.bv at HHd
      simp only at HHd o1 o3 HBK
      obtain ⟨q, hq⟩ : ∃ q, xb + xc = q := ⟨_, rfl⟩
      have e6 : (xb : Int) + (xc : Int) = (q : Int) := by omega
      have hq2 : q ≤ 1099511627776 := by omega
      have HQ := hide hq
      clear hq o3
      go_wp2_with fail
      refine (HHd.out wr).mono ?_
      rintro e w1 ⟨rfl, hb1⟩
      obtain ⟨U, hU⟩ : ∃ U, w1.heap.size = U := ⟨_, rfl⟩
      have hba := below_a w1 (.cells #[.int .i64 (xb : Nat), .int .i64 (xc : Nat), .int .i64 (xv : Nat), .int .i64 (xp : Nat), .int .i64 (xs : Nat), .slice none 0 0] 62)
      have H1 := hide (And.intro (HB.out.1.trans ((hb1.trans (hba.mono hb1.size)).mono HB.out.1.size)) (heap_alloc_new w1 (.cells #[.int .i64 (xb : Nat), .int .i64 (xc : Nat), .int .i64 (xv : Nat), .int .i64 (xp : Nat), .int .i64 (xs : Nat), .slice none 0 0] 62)))
      rw [hU] at H1
      clear hba hb1 hc0
      go_upto_region 5 with fail
      try rw [hU]
      generalize (w1.alloc (.cells #[.int .i64 (xb : Nat), .int .i64 (xc : Nat), .int .i64 (xv : Nat), .int .i64 (xp : Nat), .int .i64 (xs : Nat), .slice none 0 0] 62)) = w2 at H1
      clear hU
      obtain ⟨z0, z1, z2, z3, z4, z5⟩ := cells6 H1.out.2
      clear z2 z3 z4 z5
      have hpo : (plAt base l k).off = xb := HBK.out.2.1.symm
      have hps : (plAt base l (k + 1)).off = q := by rw [HBK.out.2.2]; show (plAt base l k).off + xc = q; rw [hpo]; exact HQ.out
      have HPO := hide (And.intro hpo hps)
      clear hpo hps
      by_cases h1 : (xb : Int) ≤ o
      · by_cases h2 : o < (q : Int)
        · have HH2 := hide (And.intro h1 h2)
          go_wp2
          go_ret
          exact ⟨H1.out.1, .inr ⟨k, _, HBK.out.1, by rw [HPO.out.1]; exact HH2.out.1, by rw [HPO.out.2]; exact HH2.out.2, rfl⟩⟩
        · have HH2 := hide h2
          go_wp2
          refine ⟨⟨k + 1, by first | rfl | simp, by omega, H1.out.1, fun j b hj hjb => ?_⟩, by simp [intOf]; omega⟩
          rcases Nat.lt_or_eq_of_le (Nat.le_of_lt_succ hj) with h | h
          · first | exact HB.out.2 j b h hjb | (intro h1'; have hx := HB.out.2 j b h hjb; omega)
          · subst h; rw [HPO.out.1, HPO.out.2]; first | (intro hx; exact HH2.out hx.2) | (intro hx; have := HH2.out; omega)
      · have HH2 := hide h1
        go_wp2
        refine ⟨⟨k + 1, by first | rfl | simp, by omega, H1.out.1, fun j b hj hjb => ?_⟩, by simp [intOf]; omega⟩
        rcases Nat.lt_or_eq_of_le (Nat.le_of_lt_succ hj) with h | h
        · first | exact HB.out.2 j b h hjb | (intro h1'; have hx := HB.out.2 j b h hjb; omega)
        · subst h; rw [HPO.out.1, HPO.out.2]; first | (intro hx; exact HH2.out hx.1) | (intro hx; have := HH2.out; omega)
    · have hke : k = n := by omega
      subst hke
      have hkni : ¬ (k : Int) < (k : Int) := by omega
      go_wp2
      go_ret
      exact ⟨HB.out.1, .inl ⟨rfl, fun i b hib => by
        have hx := HB.out.2 i b (by have := (List.getElem?_eq_some_iff.1 hib).1; have := HNl.out; omega) hib
        first | exact hx | (intro h1; omega)⟩⟩
/-- Only one batch has an offset. -/
theorem only {base : Nat} {l : List BT} (ho : allOK l) {i j : Nat} {b c : BT} (hi : l[i]? = some b) (hj : l[j]? = some c) {o : Int} (h1 : ((plAt base l i).off : Int) ≤ o) (h2 : o < ((plAt base l (i + 1)).off : Int)) (h3 : ((plAt base l j).off : Int) ≤ o) (h4 : o < ((plAt base l (j + 1)).off : Int)) : i = j := by
  obtain ⟨il, _⟩ := List.getElem?_eq_some_iff.1 hi
  obtain ⟨jl, _⟩ := List.getElem?_eq_some_iff.1 hj
  rcases Nat.lt_trichotomy i j with h | h | h
  · have := (plAt_le (base := base) ho (show i + 1 ≤ j from h) (Nat.le_of_lt jl)).1; omega
  · exact h
  · have := (plAt_le (base := base) ho (show j + 1 ≤ i from h) (Nat.le_of_lt il)).1; omega
end Go.Proofs.YtmokjopffgmfjaaGreatDoor
