/- An unpacker's symbols, lengths and distances. -/
import Derived.Test.YtchjnfckcfikkaaDoorZd
import Derived.Test.YtchjnfckcfikkaaDoorUe
import Derived.Deep.RegionWith
namespace Go.Proofs.YtchjnfckcfikkaaDoor
open Go.RowKit
set_option linter.unusedVariables false

/-- What comes of a call that reads a number: an error, or the place behind it and the number. -/
def NumEnd (K : Nat → Prop) (u b : Nat) (s : ByteArray) (l : List Nat) (most : Nat) (v f1 f2 : Value) (w : World) (r : Nat × Nat × Nat) (e : Ending) (w' : World) : Prop :=
  UF K w w' ∧ ((r.1 ≠ 0 ∧ e = .panicked (gave (r.1 : Nat))) ∨ (r.1 = 0 ∧ e = .returned (.int .i64 (r.2.2 : Nat)) ∧ US w' K u b s r.2.1 l most v f1 f2))
theorem num_bad {K : Nat → Prop} {u b : Nat} {s : ByteArray} {l : List Nat} {most : Nat} {v f1 f2 : Value} {w w' : World} {r : Nat × Nat × Nat} {q p' x : Nat} (hf : UF K w w') (hr : r = (q, p', x)) (hq : q ≠ 0) : NumEnd K u b s l most v f1 f2 w r (.panicked (gave (q : Nat))) w' := by
  subst hr
  exact ⟨hf, .inl ⟨hq, rfl⟩⟩
theorem num_ok {K : Nat → Prop} {u b : Nat} {s : ByteArray} {l : List Nat} {most : Nat} {v f1 f2 : Value} {w w' : World} {r : Nat × Nat × Nat} {p' x : Nat} (hf : UF K w w') (hr : r = (0, p', x)) (hu : US w' K u b s p' l most v f1 f2) : NumEnd K u b s l most v f1 f2 w r (.returned (.int .i64 (x : Nat))) w' := by
  subst hr
  exact ⟨hf, .inr ⟨rfl, rfl, hu⟩⟩
/-- Within a region that draws its order: a way that ends here. -/
theorem way_ends {G : Prop} (a : Act) (w : World) (h : G) : wpAny Tryd.prog .any #[] (fun _ _ _ => True) 0 #[] a w → G := fun _ => h
theorem wrapN (T : Nat) (h : T ≤ 4611686018427387904) : IntKind.i64.wrap (T : Int) = (T : Int) := by rw [IntKind.wrap_i64]; omega
theorem wrapN64 (T : Nat) (h : T ≤ 4611686018427387904) : wrap64 (T : Int) = (T : Int) := by unfold wrap64; omega
def ub (s : ByteArray) (p n : Nat) : Nat × Nat × Nat := if 8 * s.size < p + n then (5, p, 0) else (0, p + n, num s p n)
theorem unum_ok (w : World) (K : Nat → Prop) (u b : Nat) (s : ByteArray) (p : Nat) (l : List Nat) (most : Nat) (v f1 f2 : Value) (h : US w K u b s p l most v f1 f2) (n : Nat) (hn : n ≤ 57) :
    Calls Tryd.prog 41 #[.pointer (some ⟨u, 0, none⟩), .int .i64 n] w fun e w' => NumEnd K u b s l most v f1 f2 w (ub s p n) e w' := by
  by_cases hp : 8 * s.size < p + n
  · refine (ubits_short u b s p n w h.cells.1 h.rs hn h.le hp h.small).mono ?_
    rintro e w' ⟨rfl, k, rfl⟩
    exact num_bad (UF.drewN _ _ k) (by unfold ub; rw [if_pos hp]) (by decide)
  · refine (ubits_ok u b s p n w h.cells.1 h.rs hn (by omega) h.small).mono ?_
    rintro e w' ⟨rfl, h1, h2⟩
    exact num_ok (h.uf h2) (by unfold ub; rw [if_neg hp]) (h.read h1 h2 (by omega))
/-- A table that nobody turns. -/
def TabK (w : World) (K : Nat → Prop) (t : Nat) (ns : List Nat) : Prop := ∃ lo hi R, Tab w lo hi t ns R ∧ (∀ k, lo ≤ k → k < hi → K k) ∧ ns.length ≤ 288 ∧ ew ns 15 ≤ 32768
theorem TabK.keep {w w' : World} {K : Nat → Prop} {t : Nat} {ns : List Nat} (h : TabK w K t ns) (hf : UF K w w') : TabK w' K t ns := by
  obtain ⟨lo, hi, R, h1, h2, h3⟩ := h
  exact ⟨lo, hi, R, h1.keep (fun k a c => hf.block k (h2 k a c)), h2, h3⟩
theorem TabK.more {w : World} {K K' : Nat → Prop} {t : Nat} {ns : List Nat} (h : TabK w K t ns) (hk : ∀ k, K k → K' k) : TabK w K' t ns := by
  obtain ⟨lo, hi, R, h1, h2, h3⟩ := h
  exact ⟨lo, hi, R, h1, fun k a c => hk k (h2 k a c), h3⟩
def usym (ns : List Nat) (s : ByteArray) (p : Nat) : Nat × Nat × Nat :=
  if (rd ns s p).2.2 = 30 then (40, p, 0) else if (rd ns s p).2.2 = 0 then (0, p + (rd ns s p).2.1, (rd ns s p).1) else ((rd ns s p).2.2, p, 0)
set_option maxRecDepth 20000 in
set_option maxHeartbeats 1000000 in
theorem usym_ok (w : World) (K : Nat → Prop) (u b : Nat) (s : ByteArray) (p : Nat) (l : List Nat) (most : Nat) (v f1 f2 : Value) (h : US w K u b s p l most v f1 f2) (t : Nat) (ns : List Nat) (ht : TabK w K t ns) :
    Calls Tryd.prog 55 #[.pointer (some ⟨u, 0, none⟩), .pointer (some ⟨t, 0, none⟩)] w fun e w' => NumEnd K u b s l most v f1 f2 w (usym ns s p) e w' := by
  obtain ⟨lo, hi, R, h1, h2, h3, h4⟩ := ht
  have hhi : hi ≤ w.heap.size := by
    have a := h1.lo
    have c := h1.hi
    have := h.kb (hi - 1) (h2 _ (by omega) (by omega))
    omega
  have hbn : b < lo ∨ hi ≤ b := by
    rcases Nat.lt_or_ge b lo with a | a
    · exact .inl a
    · rcases Nat.lt_or_ge b hi with c | c
      · exact (h.kr (h2 b a c)).elim
      · exact .inr c
  have HS := symbol_ok lo hi t b ns R s p w h1 h.rs hbn h.le h.small h3 h4 hhi
  have c0 := h.cells.1
  obtain ⟨r, hr⟩ : ∃ r, usym ns s p = r := ⟨_, rfl⟩
  obtain ⟨⟨sy, d, er⟩, hrd⟩ : ∃ r, rd ns s p = r := ⟨_, rfl⟩
  unfold usym at hr
  rw [hrd] at HS hr
  have HR : Hid ((if er = 30 then ((40, p, 0) : Nat × Nat × Nat) else if er = 0 then (0, p + d, sy) else (er, p, 0)) = r) := hr
  have H : Hid (US w K u b s p l most v f1 f2) := h
  have HS : Hid (∀ _ : Unit, Calls Tryd.prog 67 #[.pointer (some ⟨t, 0, none⟩), .pointer (some ⟨b, 0, none⟩)] w fun e w' => e = .returned (.tuple #[.int .i64 (sy : Nat), .int .i64 (er : Nat)]) ∧ RS w' b s (p + d) ∧ p + d ≤ 8 * s.size ∧ Only b w w') := fun _ => HS
  have hru : usym ns s p = r := by unfold usym; rw [hrd]; exact hr
  rw [hru]
  clear hr hrd h hbn hhi h1 h2 h3 h4 hru
  go_enter Tryd.func55, Tryd.ntmps55
  go_wp2_with fail
  refine (HS.out ()).mono ?_
  rintro e w1 ⟨rfl, a1, a2, a3⟩
  have H1 : Hid (US w1 K u b s (p + d) l most v f1 f2 ∧ UF K w w1) := ⟨H.out.read a1 a3 a2, H.out.uf a3⟩
  clear a1 a2 a3 HS
  by_cases e30 : er = 30
  · have hr := HR.out
    rw [if_pos e30] at hr
    have HE : Hid (r = (40, p, 0)) := hr.symm
    clear hr HR
    subst e30
    go_wp2_with fail
    refine (insist_no w1).mono ?_
    rintro e w2 ⟨rfl, hw⟩
    obtain rfl := hw.symm
    go_wp2
    exact ⟨rfl, num_bad H1.out.2 HE.out (by decide)⟩
  · have hr := HR.out
    rw [if_neg e30] at hr
    have hb : ((er : Int) != 30) = true := by simp; omega
    have hb2 : ((er : Int) == 30) = false := by simp; omega
    clear HR
    by_cases e0 : er = 0
    · rw [if_pos e0] at hr
      have HE : Hid (r = (0, p + d, sy)) := hr.symm
      clear hr
      subst e0
      go_wp2_with fail
      refine (insist_ok w1).mono ?_
      rintro e w2 ⟨rfl, hw⟩
      obtain rfl := hw.symm
      go_wp2_with fail
      refine (check_ok w1).mono ?_
      rintro e w3 ⟨rfl, hw⟩
      obtain rfl := hw.symm
      go_wp2
      go_ret
      exact num_ok H1.out.2 HE.out H1.out.1
    · rw [if_neg e0] at hr
      have HE : Hid (r = (er, p, 0)) := hr.symm
      have e0i : (er : Int) ≠ 0 := by omega
      clear hr
      go_wp2_with fail
      refine (insist_ok w1).mono ?_
      rintro e w2 ⟨rfl, hw⟩
      obtain rfl := hw.symm
      go_wp2_with fail
      refine (check_no (er : Nat) e0i w1).mono ?_
      rintro e w3 ⟨rfl, hw⟩
      obtain rfl := hw.symm
      go_wp2
      exact ⟨rfl, num_bad H1.out.2 HE.out e0⟩
/-- A symbol's number, with the bits behind it. -/
def ustep (s : ByteArray) (p y st : Nat) : Nat × Nat × Nat :=
  if y < st then (0, p, y) else ((ub s p (y / st - 1)).1, (ub s p (y / st - 1)).2.1, (st + y % st) * 2 ^ (y / st - 1) + (ub s p (y / st - 1)).2.2)
set_option maxRecDepth 20000 in
set_option maxHeartbeats 1000000 in
theorem ustep_ok (w : World) (K : Nat → Prop) (u b : Nat) (s : ByteArray) (p : Nat) (l : List Nat) (most : Nat) (v f1 f2 : Value) (h : US w K u b s p l most v f1 f2) (y st : Nat) (hy : y < 32) (h2 : 2 ≤ st) (h4 : st ≤ 4) :
    Calls Tryd.prog 68 #[.pointer (some ⟨u, 0, none⟩), .int .i64 y, .int .i64 st] w fun e w' => NumEnd K u b s l most v f1 f2 w (ustep s p y st) e w' := by
  obtain ⟨r, hr⟩ : ∃ r, ustep s p y st = r := ⟨_, rfl⟩
  rw [hr]
  have H : Hid (US w K u b s p l most v f1 f2) := h
  unfold ustep at hr
  by_cases hlt : y < st
  · rw [if_pos hlt] at hr
    have HE : Hid (r = (0, p, y)) := hr.symm
    have hlti : (y : Int) < (st : Int) := by omega
    clear hr h
    go_enter Tryd.func68, Tryd.ntmps68
    go_wp2
    go_ret
    exact num_ok (UF.refl _ _) HE.out H.out
  · rw [if_neg hlt] at hr
    have hlti : ¬ (y : Int) < (st : Int) := by omega
    have hqb : y / st ≤ 16 := Nat.le_trans (Nat.div_le_div_left h2 (by omega)) (by omega)
    have hq1 : 1 ≤ y / st := (Nat.one_le_div_iff (by omega)).2 (by omega)
    obtain ⟨m, hm⟩ : ∃ m, y / st - 1 = m := ⟨_, rfl⟩
    have hmb : m ≤ 15 := by omega
    have hdi : (y : Int) / (st : Int) = ((m + 1 : Nat) : Int) := by rw [← Int.natCast_ediv]; omega
    have hdt : Int.tdiv (y : Int) (st : Int) = ((m + 1 : Nat) : Int) := by rw [Int.tdiv_eq_ediv_of_nonneg (by omega)]; exact hdi
    obtain ⟨md, hmd⟩ : ∃ m, y % st = m := ⟨_, rfl⟩
    have hmdb : md < 4 := by rw [← hmd]; exact Nat.lt_of_lt_of_le (Nat.mod_lt _ (by omega)) h4
    have hmi : (y : Int) % (st : Int) = (md : Int) := by rw [← Int.natCast_emod]; omega
    have hmt : Int.tmod (y : Int) (st : Int) = (md : Int) := by rw [Int.tmod_eq_emod_of_nonneg (by omega)]; exact hmi
    rw [hm, hmd] at hr
    have HU := unum_ok (w.drewN 1) K u b s p l most v f1 f2 (h.drewN 1) m (by omega)
    obtain ⟨⟨er, p', x⟩, hub⟩ : ∃ r, ub s p m = r := ⟨_, rfl⟩
    have hx : x < 65536 := by
      unfold ub at hub
      split at hub
      · cases hub; omega
      · cases hub; exact Nat.lt_of_lt_of_le (num_lt s p m) (Nat.pow_le_pow_right (by omega) (show m ≤ 16 by omega))
    rw [hub] at hr HU
    obtain ⟨A, hA⟩ : ∃ A, st + md = A := ⟨_, rfl⟩
    rw [hA] at hr
    have hAi : (st : Int) + (md : Int) = (A : Int) := by omega
    have hA8 : A ≤ 8 := by omega
    have hAw : IntKind.i64.wrap (A : Int) = (A : Int) := wrapN A (by omega)
    have hst : (st : Int) ≠ 0 := by omega
    have hst2 : (st : Int) ≠ -1 := by omega
    have hP : A * 2 ^ m ≤ 262144 := Nat.le_trans (Nat.mul_le_mul hA8 (Nat.pow_le_pow_right (by decide) hmb)) (by decide)
    obtain ⟨T, hT⟩ : ∃ T, A * 2 ^ m = T := ⟨_, rfl⟩
    rw [hT] at hr hP
    have HT : Hid (A * 2 ^ m = T) := hT
    clear hT
    have hT4 : T ≤ 4611686018427387904 := by omega
    obtain ⟨S, hS⟩ : ∃ S, T + x = S := ⟨_, rfl⟩
    rw [hS] at hr
    have hSi : (T : Int) + (x : Int) = (S : Int) := by omega
    have hSw : IntKind.i64.wrap (S : Int) = (S : Int) := wrapN S (by omega)
    have HR : Hid ((er, p', S) = r) := hr
    have HU : Hid (∀ _ : Unit, Calls Tryd.prog 41 #[.pointer (some ⟨u, 0, none⟩), .int .i64 m] w.drew fun e w' => NumEnd K u b s l most v f1 f2 w (er, p', x) e w') := fun _ => HU.mono fun e w' hh => ⟨⟨hh.1.os, hh.1.tape, hh.1.output, hh.1.size, hh.1.block⟩, hh.2⟩
    have e2 : ((A : Int) * 2 ^ m) = (T : Int) := by rw [← HT.out]; simp
    have hTw := wrapN T hT4
    have hTw2 := wrapN64 T hT4
    clear hr hm hmd hub h hqb hq1 hA hS
    by_cases h0 : er = 0
    · have HU : Hid (∀ _ : Unit, Calls Tryd.prog 41 #[.pointer (some ⟨u, 0, none⟩), .int .i64 m] w.drew fun e w' => e = .returned (.int .i64 (x : Nat)) ∧ UF K w w' ∧ US w' K u b s p' l most v f1 f2) := fun _ => (HU.out ()).mono fun e w' hh => by
        obtain ⟨hf, ⟨hq, _⟩ | ⟨_, he, hus⟩⟩ := hh
        · exact (hq h0).elim
        · exact ⟨he, hf, hus⟩
      go_enter Tryd.func68, Tryd.ntmps68
      go_wp2_with fail
      go_region_with (go_at_call 41; refine (HU.out ()).mono ?_; rintro e w1 ⟨rfl, hne⟩; have HN : Hid _ := hne; clear hne)
      all_goals (
        go_wp2
        go_ret
        obtain ⟨g1, g2⟩ := HN.out
        refine num_ok g1 ?_ g2
        rw [← HR.out, h0])
    · have HU : Hid (∀ _ : Unit, Calls Tryd.prog 41 #[.pointer (some ⟨u, 0, none⟩), .int .i64 m] w.drew fun e w' => e = .panicked (gave (er : Nat)) ∧ UF K w w') := fun _ => (HU.out ()).mono fun e w' hh => by
        obtain ⟨hf, ⟨_, he⟩ | ⟨hq, _, _⟩⟩ := hh
        · exact ⟨he, hf⟩
        · exact (h0 hq).elim
      go_enter Tryd.func68, Tryd.ntmps68
      go_wp2_with fail
      go_region_with (go_at_call 41; refine (HU.out ()).mono ?_; rintro e w1 ⟨rfl, hne⟩; refine way_ends ⟨#[], []⟩ w (by go_wp2; exact ⟨rfl, num_bad hne HR.out.symm h0⟩) ?_)
      all_goals trivial
end Go.Proofs.YtchjnfckcfikkaaDoor
