/- Told codes: whether lengths are whole; a run of lengths. -/
/- Told codes: a run of lengths, the walk. -/
/- Told codes: lengths, the mathematics. -/
/- Told codes: lengths, the walk. -/
/- Told codes: the first code. -/
/- Told codes: what they are. -/
/- Told codes: the walk. -/
/- Inflate, whatever the bytes. -/
import Derived.Test.YtchjnfckcfikkaaDoorZn
import Derived.Test.YtchjnfckcfikkaaDoorGs
import Derived.Test.YtchjnfckcfikkaaDoorZo
namespace Go.Proofs.YtchjnfckcfikkaaDoor
open Go.RowKit
set_option linter.unusedVariables false

def wholeB (xs : List Int) : Bool := may xs && decide (ew (nsOf xs) 15 = 32768)
set_option maxRecDepth 20000 in
set_option maxHeartbeats 1000000 in
theorem uwhole_ok (xs : List Int) (a : Option Addr) (c N : Nat) (w : World) (hN : xs.length = N) (hrow : IRow w a xs) (hlen : N ≤ 9223372036854775807) :
    Calls Tryd.prog 64 #[.slice a N c] w fun e w' => e = .returned (.bool (wholeB xs)) ∧ Below w.heap.size w w' := by
  have HW : Hid (∀ _ : Unit, Calls Tryd.prog 71 #[.slice a N c] w fun e w' => ((may xs = true ∧ ew (nsOf xs) 15 ≤ 32768 ∧ e = .returned (.tuple #[.bool (decide (ew (nsOf xs) 15 = 32768)), .int .i64 0])) ∨ (¬ (may xs = true ∧ ew (nsOf xs) 15 ≤ 32768) ∧ e = .returned (.tuple #[.bool false, .int .i64 30]))) ∧ Below w.heap.size w w') := fun _ => whole_ok xs a c N w hN hrow hlen
  clear hN hrow
  go_enter Tryd.func64, Tryd.ntmps64
  go_wp2_with fail
  refine (HW.out ()).mono ?_
  rintro e w1 ⟨⟨h1, h2, rfl⟩ | ⟨h1, rfl⟩, hb⟩
  · have HE : Hid (wholeB xs = decide (ew (nsOf xs) 15 = 32768) ∧ Below w.heap.size w w1) := ⟨by unfold wholeB; rw [h1]; rfl, hb⟩
    obtain ⟨q, hq⟩ : ∃ q, decide (ew (nsOf xs) 15 = 32768) = q := ⟨_, rfl⟩
    rw [hq] at HE ⊢
    clear h1 h2 hb hq HW
    cases q
    · go_wp2
      go_ret
      rw [HE.out.1]; exact ⟨rfl, HE.out.2⟩
    · go_wp2
      go_ret
      rw [HE.out.1]; exact ⟨rfl, HE.out.2⟩
  · have HE : Hid (wholeB xs = false ∧ Below w.heap.size w w1) := ⟨by
      unfold wholeB
      by_cases hm : may xs = true
      · rw [hm, Bool.true_and]
        exact decide_eq_false (fun e => h1 ⟨hm, by omega⟩)
      · rw [Bool.not_eq_true] at hm; rw [hm]; rfl, hb⟩
    clear h1 hb HW
    go_wp2
    go_ret
    rw [HE.out.1]; exact ⟨rfl, HE.out.2⟩
/-- The sum of numbers. -/
def sumTo (c : Nat → Nat) : Nat → Nat
  | 0 => 0
  | k + 1 => sumTo c k + c k
theorem sumTo_le (c : Nat → Nat) (hc : ∀ i, c i ≤ 15) : ∀ k, sumTo c k ≤ 15 * k
  | 0 => Nat.le_refl _
  | k + 1 => by have := sumTo_le c hc k; have := hc k; simp only [sumTo]; omega
set_option maxRecDepth 20000 in
set_option maxHeartbeats 1000000 in
theorem lone_ok (b off N cap : Nat) (c : Nat → Nat) (hc : ∀ i, c i ≤ 15) (w : World) (hN : N ≤ 1000) (hrow : ∀ i, i < N → w.cell? ⟨b, off + i, none⟩ = some (.int .i64 (c i : Nat))) :
    Calls Tryd.prog 65 #[.slice (some ⟨b, off, none⟩) N cap] w fun e w' => e = .returned (.bool (decide (sumTo c N ≤ 1))) ∧ w' = w := by
  have HR : Hid (∀ i, i < N → w.cell? ⟨b, off + i, none⟩ = some (.int .i64 (c i : Nat))) := hrow
  clear hrow
  go_enter Tryd.func65, Tryd.ntmps65
  go_wp2_with fail
  go_loopw [3, 8] (fun v3 v8 wr => ∃ (k q : Nat), v8 = .int .i64 k ∧ v3 = .int .i64 q ∧ k ≤ N ∧ q ≤ 15000 ∧ wr = w ∧ Hid (q = sumTo c k)) (fun _ v8 _ => N - (intOf v8).toNat)
  case atStart => exact ⟨0, 0, rfl, rfl, Nat.zero_le _, Nat.zero_le _, rfl, rfl⟩
  case round =>
    obtain ⟨k, q, rfl, rfl, hk, hq, rfl, HS⟩ := hrel
    by_cases hlt : k < N
    · have hlti : (k : Int) < (N : Int) := by omega
      have c1 := HR.out k hlt
      obtain ⟨x, hx⟩ : ∃ x, c k = x := ⟨_, rfl⟩
      rw [hx] at c1
      have hx15 : x ≤ 15 := by rw [← hx]; exact hc k
      have HN : Hid (q + x = sumTo c (k + 1) ∧ q + x ≤ 15000) := ⟨by rw [HS.out, ← hx]; rfl, by have := sumTo_le c hc (k + 1); rw [show sumTo c (k + 1) = q + x by rw [HS.out, ← hx]; rfl] at this; omega⟩
      clear hx
      go_wp2
      exact ⟨⟨k + 1, q + x, by go_num, by go_num, by omega, HN.out.2, trivial, HN.out.1⟩, by simp [intOf]; omega⟩
    · have hlti : ¬ (k : Int) < (N : Int) := by omega
      obtain rfl : k = N := by omega
      by_cases h1 : q ≤ 1
      · have h1d : decide ((q : Int) ≤ 1) = true := by simp; omega
        have h1n : decide (q ≤ 1) = true := by simp [h1]
        have HE : Hid (decide (sumTo c k ≤ 1) = true) := by show _ = _; rw [← HS.out]; exact h1n
        go_wp2
        go_ret
        rw [HE.out]
        exact ⟨by simp, rfl⟩
      · have h1d : decide ((q : Int) ≤ 1) = false := by simp; omega
        have h1n : decide (q ≤ 1) = false := by simp; omega
        have HE : Hid (decide (sumTo c k ≤ 1) = false) := by show _ = _; rw [← HS.out]; exact h1n
        go_wp2
        go_ret
        rw [HE.out]
        exact ⟨by simp, rfl⟩
/-- What comes of a run: an error, or the place behind it, a length, how often. -/
def runF (ns : List Nat) (s : ByteArray) (p : Nat) (L : List Nat) : Nat × Nat × Nat × Nat :=
  if (usym ns s p).1 ≠ 0 then ((usym ns s p).1, p, 0, 0)
  else if (usym ns s p).2.2 = 16 then (if L = [] then (40, p, 0, 0) else ((ub s (usym ns s p).2.1 2).1, (ub s (usym ns s p).2.1 2).2.1, L.getLastD 0, 3 + (ub s (usym ns s p).2.1 2).2.2))
  else if (usym ns s p).2.2 = 17 then ((ub s (usym ns s p).2.1 3).1, (ub s (usym ns s p).2.1 3).2.1, 0, 3 + (ub s (usym ns s p).2.1 3).2.2)
  else if (usym ns s p).2.2 = 18 then ((ub s (usym ns s p).2.1 7).1, (ub s (usym ns s p).2.1 7).2.1, 0, 11 + (ub s (usym ns s p).2.1 7).2.2)
  else (0, (usym ns s p).2.1, (usym ns s p).2.2, 1)
def RunEnd (K : Nat → Prop) (u b : Nat) (s : ByteArray) (l : List Nat) (most : Nat) (v f1 f2 : Value) (w : World) (r : Nat × Nat × Nat × Nat) (e : Ending) (w' : World) : Prop :=
  UF K w w' ∧ ((r.1 ≠ 0 ∧ e = .panicked (gave (r.1 : Nat))) ∨ (r.1 = 0 ∧ e = .returned (.tuple #[.int .i64 (r.2.2.1 : Nat), .int .i64 (r.2.2.2 : Nat)]) ∧ US w' K u b s r.2.1 l most v f1 f2))
theorem run_bad {K : Nat → Prop} {u b : Nat} {s : ByteArray} {l : List Nat} {most : Nat} {v f1 f2 : Value} {w w' : World} {r : Nat × Nat × Nat × Nat} {q p' x y : Nat} (hf : UF K w w') (hr : r = (q, p', x, y)) (hq : q ≠ 0) : RunEnd K u b s l most v f1 f2 w r (.panicked (gave (q : Nat))) w' := by
  subst hr
  exact ⟨hf, .inl ⟨hq, rfl⟩⟩
theorem run_fin {K : Nat → Prop} {u b : Nat} {s : ByteArray} {l : List Nat} {most : Nat} {v f1 f2 : Value} {w w' : World} {r : Nat × Nat × Nat × Nat} {p' x y : Nat} (hf : UF K w w') (hr : r = (0, p', x, y)) (hu : US w' K u b s p' l most v f1 f2) : RunEnd K u b s l most v f1 f2 w r (.returned (.tuple #[.int .i64 (x : Nat), .int .i64 (y : Nat)])) w' := by
  subst hr
  exact ⟨hf, .inr ⟨rfl, rfl, hu⟩⟩
theorem ub_lt (s : ByteArray) (p n : Nat) (hn : n ≤ 16) : (ub s p n).2.2 < 65536 := by
  unfold ub
  split
  · show 0 < 65536; omega
  · exact Nat.lt_of_lt_of_le (num_lt s p n) (Nat.pow_le_pow_right (by decide) hn)
end Go.Proofs.YtchjnfckcfikkaaDoor
namespace Go.Proofs.YtchjnfckcfikkaaDoor
open Go.RowKit
set_option linter.unusedVariables false

set_option maxRecDepth 20000 in
set_option maxHeartbeats 4000000 in
theorem run_ok (w : World) (K : Nat → Prop) (u b : Nat) (s : ByteArray) (p : Nat) (l : List Nat) (most : Nat) (v f1 f2 : Value) (h : US w K u b s p l most v f1 f2) (t : Nat) (ns : List Nat) (ht : TabK w K t ns)
    (L : List Nat) (ao : Option Addr) (cp : Nat) (hLn : L.length ≤ 1000) (hA : L = [] ∨ ∃ g, ao = some ⟨g, 0, none⟩ ∧ K g ∧ w.cell? ⟨g, L.length - 1, none⟩ = some (.int .i64 (L.getLastD 0 : Nat))) :
    Calls Tryd.prog 70 #[.pointer (some ⟨u, 0, none⟩), .pointer (some ⟨t, 0, none⟩), .slice ao L.length cp] w fun e w' => RunEnd K u b s l most v f1 f2 w (runF ns s p L) e w' := by
  obtain ⟨r, hr⟩ : ∃ r, runF ns s p L = r := ⟨_, rfl⟩
  rw [hr]
  unfold runF at hr
  have HS := usym_ok w K u b s p l most v f1 f2 h t ns ht
  have hlt := fun h0 => usym_ok' (ns := ns) (s := s) (p := p) (by obtain ⟨_, _, _, _, _, a, _⟩ := ht; exact a) h0
  obtain ⟨⟨er, p1, y⟩, hus⟩ : ∃ r, usym ns s p = r := ⟨_, rfl⟩
  rw [hus] at hr HS hlt
  have HS : Hid (∀ _ : Unit, Calls Tryd.prog 55 #[.pointer (some ⟨u, 0, none⟩), .pointer (some ⟨t, 0, none⟩)] w fun e w' => NumEnd K u b s l most v f1 f2 w (er, p1, y) e w') := fun _ => HS
  have HR : Hid ((if er ≠ 0 then ((er, p, 0, 0) : Nat × Nat × Nat × Nat) else if y = 16 then (if L = [] then (40, p, 0, 0) else ((ub s p1 2).1, (ub s p1 2).2.1, L.getLastD 0, 3 + (ub s p1 2).2.2)) else if y = 17 then ((ub s p1 3).1, (ub s p1 3).2.1, 0, 3 + (ub s p1 3).2.2) else if y = 18 then ((ub s p1 7).1, (ub s p1 7).2.1, 0, 11 + (ub s p1 7).2.2) else (0, p1, y, 1)) = r) := hr
  have HA : Hid (L = [] ∨ ∃ g, ao = some ⟨g, 0, none⟩ ∧ K g ∧ w.cell? ⟨g, L.length - 1, none⟩ = some (.int .i64 (L.getLastD 0 : Nat))) := hA
  have HKB : Hid (∀ k, K k → k < w.heap.size) := h.kb
  obtain ⟨N, hN⟩ : ∃ N, L.length = N := ⟨_, rfl⟩
  have HN : Hid (L.length = N) := hN
  rw [hN] at hLn ⊢
  clear hr h ht hus hA hN
  go_enter Tryd.func70, Tryd.ntmps70
  go_wp2_with fail
  refine (HS.out ()).mono ?_
  rintro e w1 ⟨hf, ⟨hq, rfl⟩ | ⟨h0, rfl, hu1⟩⟩
  · have HF : Hid (UF K w w1 ∧ er ≠ 0) := ⟨hf, hq⟩
    clear hf hq HS hlt
    go_wp2
    have hr := HR.out
    rw [if_pos HF.out.2] at hr
    exact ⟨rfl, run_bad HF.out.1 hr.symm HF.out.2⟩
  · have h0 : er = 0 := h0
    subst h0
    have hr := HR.out
    rw [if_neg (by simp)] at hr
    have hy : y < 288 := (hlt rfl).1
    have HF : Hid (UF K w w1 ∧ US w1 K u b s p1 l most v f1 f2) := ⟨hf, hu1⟩
    clear hf HS HR hlt
    by_cases y16 : y = 16
    · rw [if_pos y16] at hr
      subst y16
      by_cases hL : L = []
      · rw [if_pos hL] at hr
        have HE : Hid (r = (40, p, 0, 0)) := hr.symm
        have hN0 : N = 0 := by rw [← HN.out, hL]; rfl
        subst hN0
        clear hr hu1
        go_wp2_with fail
        refine (insist_no w1).mono ?_
        rintro e w2 ⟨rfl, hw⟩
        obtain rfl := hw.symm
        go_wp2
        exact ⟨rfl, run_bad HF.out.1 HE.out (by decide)⟩
      · rw [if_neg hL] at hr
        obtain ⟨g, rfl, hKg, hcell⟩ := HA.out.resolve_left hL
        have hNp : 0 < N := by rw [← HN.out]; exact List.length_pos_iff.2 hL
        have hNpi : decide ((0 : Int) < (N : Int)) = true := by simp; omega
        have hNpn : decide (0 < N) = true := by simp; omega
        rw [HN.out] at hcell
        obtain ⟨la, hla⟩ : ∃ x, L.getLastD 0 = x := ⟨_, rfl⟩
        rw [hla] at hcell hr
        have c1 : w1.cell? ⟨g, N - 1, none⟩ = some (.int .i64 (la : Nat)) := by rw [World.cell?_of_block (w := w) (HF.out.1.block g hKg)]; exact hcell
        obtain ⟨M, hM⟩ : ∃ M, N - 1 = M := ⟨_, rfl⟩
        rw [hM] at c1
        have hMi : (N : Int) - 1 = (M : Int) := by omega
        have hMN : (M : Int) < (N : Int) := by omega
        have hM0 : (0 : Int) ≤ (M : Int) := by omega
        have hMw : IntKind.i64.wrap (M : Int) = (M : Int) := wrapN M (by omega)
        have HUB := unum_ok (w1.drewN 1) K u b s p1 l most v f1 f2 (hu1.drewN 1) 2 (by omega)
        have hx := ub_lt s p1 2 (by omega)
        obtain ⟨⟨e2, p2, x⟩, hub⟩ : ∃ r, ub s p1 2 = r := ⟨_, rfl⟩
        rw [hub] at HUB hr hx
        have hx : x < 65536 := hx
        obtain ⟨S, hS⟩ : ∃ S, 3 + x = S := ⟨_, rfl⟩
        rw [hS] at hr
        have hSi : (3 : Int) + (x : Int) = (S : Int) := by omega
        have hSw : IntKind.i64.wrap (S : Int) = (S : Int) := wrapN S (by omega)
        have HR : Hid ((e2, p2, la, S) = r) := hr
        clear hS
        have HC1 : Hid (K g ∧ w1.cell? ⟨g, M, none⟩ = some (.int .i64 (la : Nat))) := ⟨hKg, c1⟩
        clear hr hub hu1 hla hcell hM hKg
        by_cases z : e2 = 0
        · have HU : Hid (∀ _ : Unit, Calls Tryd.prog 41 #[.pointer (some ⟨u, 0, none⟩), .int .i64 (2 : Nat)] w1.drew fun e w' => e = .returned (.int .i64 (x : Nat)) ∧ w'.cell? ⟨g, M, none⟩ = some (.int .i64 (la : Nat)) ∧ UF K w1 w' ∧ US w' K u b s p2 l most v f1 f2) := fun _ => HUB.mono fun e w' hh => by
            obtain ⟨hf, ⟨hq, _⟩ | ⟨_, he, hus⟩⟩ := hh
            · exact (hq z).elim
            · have hf' : UF K w1 w' := ⟨hf.os, hf.tape, hf.output, hf.size, hf.block⟩
              exact ⟨he, by rw [World.cell?_of_block (w := w1) (hf'.block g HC1.out.1)]; exact HC1.out.2, hf', hus⟩
          clear HUB
          go_wp2_with fail
          refine (insist_ok w1).mono ?_
          rintro e w2 ⟨rfl, hw⟩
          obtain rfl := hw.symm
          clear hw
          go_wp2_with fail
          go_region_with (go_at_call 41; refine (HU.out ()).mono ?_; rintro e w2 ⟨rfl, hcc, hne⟩; have HN2 : Hid _ := hne; clear hne)
          all_goals (
            go_wp2
            go_ret2
            refine run_fin (HF.out.1.trans HN2.out.1) ?_ HN2.out.2
            rw [← HR.out, z])
        · have HU : Hid (∀ _ : Unit, Calls Tryd.prog 41 #[.pointer (some ⟨u, 0, none⟩), .int .i64 (2 : Nat)] w1.drew fun e w' => e = .panicked (gave (e2 : Nat)) ∧ UF K w1 w') := fun _ => HUB.mono fun e w' hh => by
            obtain ⟨hf, ⟨_, he⟩ | ⟨hq, _, _⟩⟩ := hh
            · exact ⟨he, ⟨hf.os, hf.tape, hf.output, hf.size, hf.block⟩⟩
            · exact (z hq).elim
          clear HUB
          go_wp2_with fail
          refine (insist_ok w1).mono ?_
          rintro e w2 ⟨rfl, hw⟩
          obtain rfl := hw.symm
          clear hw
          go_wp2_with fail
          go_region_with (go_at_call 41; refine (HU.out ()).mono ?_; rintro e w2 ⟨rfl, hne⟩; refine way_ends ⟨#[], []⟩ w (by go_wp2; exact ⟨rfl, run_bad (HF.out.1.trans hne) HR.out.symm z⟩) ?_)
          all_goals trivial
    · rw [if_neg y16] at hr
      have y16i : ¬ (y : Int) = 16 := by omega
      have y16b : ((y : Int) == 16) = false := by simpa using y16i
      by_cases y17 : y = 17
      · rw [if_pos y17] at hr
        subst y17
        have HUB := unum_ok w1 K u b s p1 l most v f1 f2 hu1 3 (by omega)
        have hx := ub_lt s p1 3 (by omega)
        obtain ⟨⟨e2, p2, x⟩, hub⟩ : ∃ r, ub s p1 3 = r := ⟨_, rfl⟩
        rw [hub] at HUB hr hx
        have hx : x < 65536 := hx
        have HR : Hid ((e2, p2, 0, 3 + x) = r) := hr
        have HUB : Hid (∀ _ : Unit, Calls Tryd.prog 41 #[.pointer (some ⟨u, 0, none⟩), .int .i64 (3 : Nat)] w1 fun e w' => NumEnd K u b s l most v f1 f2 w1 (e2, p2, x) e w') := fun _ => HUB
        clear hr hub hu1 y16i y16b
        go_wp2_with fail
        refine (HUB.out ()).mono ?_
        rintro e w2 ⟨hf, ⟨hq, rfl⟩ | ⟨h0, rfl, hus⟩⟩
        · have HF2 : Hid (UF K w w2 ∧ e2 ≠ 0) := ⟨HF.out.1.trans hf, hq⟩
          clear hf hq HUB
          go_wp2
          exact ⟨rfl, run_bad HF2.out.1 HR.out.symm HF2.out.2⟩
        · have HF2 : Hid (UF K w w2 ∧ US w2 K u b s p2 l most v f1 f2 ∧ e2 = 0) := ⟨HF.out.1.trans hf, hus, h0⟩
          clear hf hus h0 HUB
          go_wp2
          go_ret2
          obtain ⟨g1, g2, g3⟩ := HF2.out
          refine run_fin (x := 0) (y := 3 + x) g1 ?_ g2
          rw [← HR.out, g3]
      · rw [if_neg y17] at hr
        have y17i : ¬ (y : Int) = 17 := by omega
        have y17b : ((y : Int) == 17) = false := by simpa using y17i
        by_cases y18 : y = 18
        · rw [if_pos y18] at hr
          subst y18
          have HUB := unum_ok w1 K u b s p1 l most v f1 f2 hu1 7 (by omega)
          have hx := ub_lt s p1 7 (by omega)
          obtain ⟨⟨e2, p2, x⟩, hub⟩ : ∃ r, ub s p1 7 = r := ⟨_, rfl⟩
          rw [hub] at HUB hr hx
          have hx : x < 65536 := hx
          have HR : Hid ((e2, p2, 0, 11 + x) = r) := hr
          have HUB : Hid (∀ _ : Unit, Calls Tryd.prog 41 #[.pointer (some ⟨u, 0, none⟩), .int .i64 (7 : Nat)] w1 fun e w' => NumEnd K u b s l most v f1 f2 w1 (e2, p2, x) e w') := fun _ => HUB
          clear hr hub hu1 y16i y16b y17i y17b
          go_wp2_with fail
          refine (HUB.out ()).mono ?_
          rintro e w2 ⟨hf, ⟨hq, rfl⟩ | ⟨h0, rfl, hus⟩⟩
          · have HF2 : Hid (UF K w w2 ∧ e2 ≠ 0) := ⟨HF.out.1.trans hf, hq⟩
            clear hf hq HUB
            go_wp2
            exact ⟨rfl, run_bad HF2.out.1 HR.out.symm HF2.out.2⟩
          · have HF2 : Hid (UF K w w2 ∧ US w2 K u b s p2 l most v f1 f2 ∧ e2 = 0) := ⟨HF.out.1.trans hf, hus, h0⟩
            clear hf hus h0 HUB
            go_wp2
            go_ret2
            obtain ⟨g1, g2, g3⟩ := HF2.out
            refine run_fin (x := 0) (y := 11 + x) g1 ?_ g2
            rw [← HR.out, g3]
        · rw [if_neg y18] at hr
          have y18i : ¬ (y : Int) = 18 := by omega
          have y18b : ((y : Int) == 18) = false := by simpa using y18i
          have HE : Hid (r = (0, p1, y, 1)) := hr.symm
          clear hr hu1
          go_wp2
          go_ret2
          exact run_fin (y := 1) HF.out.1 HE.out HF.out.2
end Go.Proofs.YtchjnfckcfikkaaDoor
namespace Go.Proofs.YtchjnfckcfikkaaDoor
open Go.RowKit
set_option linter.unusedVariables false

theorem runF_ok {ns : List Nat} {s : ByteArray} {p : Nat} {L : List Nat} (hn : ns.length ≤ 288) (h : (runF ns s p L).1 = 0) : p ≤ (runF ns s p L).2.1 ∧ (p ≤ 8 * s.size → (runF ns s p L).2.1 ≤ 8 * s.size) ∧ 1 ≤ (runF ns s p L).2.2.2 ∧ (runF ns s p L).2.2.2 ≤ 70000 := by
  unfold runF at h ⊢
  by_cases h1 : (usym ns s p).1 ≠ 0
  · rw [if_pos h1] at h; exact (h1 h).elim
  · rw [if_neg h1] at h ⊢
    obtain ⟨_, b2, b3⟩ := usym_ok' hn (by omega : (usym ns s p).1 = 0)
    obtain ⟨⟨er, p1, y⟩, hu⟩ : ∃ r, usym ns s p = r := ⟨_, rfl⟩
    rw [hu] at h b2 b3 ⊢
    have b2 : p < p1 := b2
    have key : ∀ m c, m ≤ 16 → 1 ≤ c → c ≤ 11 → (ub s p1 m).1 = 0 → p ≤ (ub s p1 m).2.1 ∧ (p ≤ 8 * s.size → (ub s p1 m).2.1 ≤ 8 * s.size) ∧ 1 ≤ c + (ub s p1 m).2.2 ∧ c + (ub s p1 m).2.2 ≤ 70000 := fun m c hm hc1 hc2 h0 => by
      obtain ⟨c1, c2⟩ := ub_le h0
      have := ub_lt s p1 m hm
      exact ⟨by omega, fun hp => c2 (b3 hp), by omega, by omega⟩
    by_cases y16 : y = 16
    · rw [if_pos y16] at h ⊢
      by_cases hL : L = []
      · rw [if_pos hL] at h; simp at h
      · rw [if_neg hL] at h ⊢
        exact key 2 3 (by omega) (by omega) (by omega) h
    · rw [if_neg y16] at h ⊢
      by_cases y17 : y = 17
      · rw [if_pos y17] at h ⊢
        exact key 3 3 (by omega) (by omega) (by omega) h
      · rw [if_neg y17] at h ⊢
        by_cases y18 : y = 18
        · rw [if_pos y18] at h ⊢
          exact key 7 11 (by omega) (by omega) (by omega) h
        · rw [if_neg y18]
          exact ⟨Nat.le_of_lt b2, fun hp => b3 hp, by show 1 ≤ 1; omega, by show 1 ≤ 70000; omega⟩
def lensF (ns : List Nat) (s : ByteArray) (n : Nat) : Nat → Nat → List Nat → Nat × Nat × List Nat
  | 0, p, L => (99, p, L)
  | k + 1, p, L => if n ≤ L.length then (0, p, L) else if (runF ns s p L).1 ≠ 0 then ((runF ns s p L).1, p, L) else if n - L.length < (runF ns s p L).2.2.2 then (40, p, L) else lensF ns s n k (runF ns s p L).2.1 (L ++ List.replicate (runF ns s p L).2.2.2 (runF ns s p L).2.2.1)
theorem lensF_fuel (ns : List Nat) (s : ByteArray) (n : Nat) (hn : ns.length ≤ 288) : ∀ (k k' p : Nat) (L : List Nat), n + 1 - L.length ≤ k → n + 1 - L.length ≤ k' → L.length ≤ n → lensF ns s n k p L = lensF ns s n k' p L
  | 0, k', p, L, h1, h2, h3 => by omega
  | k + 1, 0, p, L, h1, h2, h3 => by omega
  | k + 1, k' + 1, p, L, h1, h2, h3 => by
    unfold lensF
    by_cases a1 : n ≤ L.length
    · rw [if_pos a1, if_pos a1]
    · rw [if_neg a1, if_neg a1]
      by_cases a2 : (runF ns s p L).1 ≠ 0
      · rw [if_pos a2, if_pos a2]
      · rw [if_neg a2, if_neg a2]
        obtain ⟨_, _, b3, _⟩ := runF_ok (s := s) (p := p) (L := L) hn (by omega)
        by_cases a3 : n - L.length < (runF ns s p L).2.2.2
        · rw [if_pos a3, if_pos a3]
        · rw [if_neg a3, if_neg a3]
          exact lensF_fuel ns s n hn k k' _ _ (by rw [List.length_append, List.length_replicate]; omega) (by rw [List.length_append, List.length_replicate]; omega) (by rw [List.length_append, List.length_replicate]; omega)
section
variable {ns : List Nat} {s : ByteArray} {n p : Nat} {L : List Nat} {er p1 x y : Nat}
theorem lens_end (h : L.length = n) : lensF ns s n (n + 1 - L.length) p L = (0, p, L) := by
  rw [show n + 1 - L.length = 0 + 1 by omega]; unfold lensF; rw [if_pos (by omega)]
theorem lens_bad (h : L.length < n) (hr : runF ns s p L = (er, p1, x, y)) (he : er ≠ 0) : lensF ns s n (n + 1 - L.length) p L = (er, p, L) := by
  rw [show n + 1 - L.length = (n - L.length) + 1 by omega]; unfold lensF; rw [if_neg (by omega), hr, if_pos he]
theorem lens_full (h : L.length < n) (hr : runF ns s p L = (0, p1, x, y)) (he : n - L.length < y) : lensF ns s n (n + 1 - L.length) p L = (40, p, L) := by
  rw [show n + 1 - L.length = (n - L.length) + 1 by omega]; unfold lensF; rw [if_neg (by omega), hr, if_neg (by simp), if_pos he]
theorem lens_more (hn : ns.length ≤ 288) (h : L.length < n) (hr : runF ns s p L = (0, p1, x, y)) (he : ¬ n - L.length < y) : lensF ns s n (n + 1 - L.length) p L = lensF ns s n (n + 1 - (L ++ List.replicate y x).length) p1 (L ++ List.replicate y x) := by
  have b := runF_ok (s := s) (p := p) (L := L) hn (by rw [hr])
  rw [hr] at b
  have b3 : 1 ≤ y := b.2.2.1
  have hl : (L ++ List.replicate y x).length = L.length + y := by rw [List.length_append, List.length_replicate]
  rw [show n + 1 - L.length = (n - L.length) + 1 by omega]; conv => lhs; unfold lensF
  rw [if_neg (by omega), hr, if_neg (by simp), if_neg he]
  show lensF ns s n (n - L.length) p1 (L ++ List.replicate y x) = _
  exact lensF_fuel ns s n hn _ _ _ _ (by omega) (by omega) (by omega)
end
/-- A block that is none of an unpacker's may be kept, too. -/
theorem US.plus {w : World} {K : Nat → Prop} {u b : Nat} {s : ByteArray} {p : Nat} {l : List Nat} {most : Nat} {v f1 f2 : Value} (h : US w K u b s p l most v f1 f2) {g : Nat} {cs : Array Value} {T : TypeId} {mk : Nat × Nat} (hg : w.heap[g]? = some (.cells cs T mk)) (h1 : T ≠ 5) (h2 : T ≠ 67) (h3 : T ≠ 51) : US w (fun k => K k ∨ k = g) u b s p l most v f1 f2 := by
  refine ⟨h.blk, h.own, h.rs, h.le, h.small, ?_, ?_, ?_, ?_⟩
  · rintro k (hk | rfl)
    · exact h.kb k hk
    · exact lt_of_block hg
  · rintro (hk | e)
    · exact h.ku hk
    · have := h.blk; rw [e, hg] at this; cases this; exact h3 rfl
  · rintro (hk | e)
    · exact h.kr hk
    · have := h.rs; unfold RS at this; rw [e, hg] at this; cases this; exact h2 rfl
  · rintro g' hg' (hk | e)
    · exact h.ko g' hg' hk
    · rcases h.own.2 with ⟨e1, _⟩ | ⟨g2, cap, cur, e1, e2, e3, e4⟩
      · rw [e1] at hg'; simp [Value.ownBlock] at hg'
      · rw [e1] at hg'
        have e5 : g2 = g' := by simpa [Value.ownBlock] using hg'
        rw [e5, e, hg] at e3; cases e3; exact h1 rfl
/-- A row of another kind grew. -/
theorem US.beside' {w w1 : World} {K : Nat → Prop} {u b : Nat} {s : ByteArray} {p : Nat} {l : List Nat} {most : Nat} {v f1 f2 : Value} (h : US w K u b s p l most v f1 f2) {B : Nat} {E : TypeId} {V : Value} {n : Nat} {xs : List Value} (ho : w.ownsRow B E 1 V n xs) (hg : w.grownBy w1 V.ownBlock) (h1 : 5 ≠ E) (h2 : 67 ≠ E) (h3 : 51 ≠ E) (hK : ∀ k, K k → k < B) : US w1 K u b s p l most v f1 f2 ∧ UF K w w1 := by
  have hrs : RS w1 b s p := (kept_row h.rs h2 ho hg).trans h.rs
  refine ⟨⟨(kept_row h.blk h3 ho hg).trans h.blk, ⟨h.own.1, ?_⟩, hrs, h.le, h.small, fun k hk => Nat.lt_of_lt_of_le (h.kb k hk) hg.size, h.ku, h.kr, h.ko⟩, ⟨hg.os, hg.tape, hg.output, hg.size, fun k hk => hg.block k (h.kb k hk) (fun e => ?_)⟩⟩
  · rcases h.own.2 with e | ⟨g2, cap, cur, e1, e2, e3, e4⟩
    · exact .inl e
    · exact .inr ⟨g2, cap, cur, e1, e2, (kept_row e3 h1 ho hg).trans e3, e4⟩
  · have := (ho.lt k e.symm).1
    have := hK k hk
    omega
end Go.Proofs.YtchjnfckcfikkaaDoor
namespace Go.Proofs.YtchjnfckcfikkaaDoor
open Go.RowKit
set_option linter.unusedVariables false

def LensEnd (K : Nat → Prop) (u b : Nat) (s : ByteArray) (l : List Nat) (most : Nat) (v f1 f2 : Value) (n : Nat) (w : World) (r : Nat × Nat × List Nat) (e : Ending) (w' : World) : Prop :=
  UF K w w' ∧ ((r.1 ≠ 0 ∧ e = .panicked (gave (r.1 : Nat))) ∨ (r.1 = 0 ∧ ∃ V, e = .returned V ∧ w'.ownsRow w.heap.size 3 1 V n (ics r.2.2) ∧ US w' K u b s r.2.1 l most v f1 f2))
def sliceLen : Value → Nat
  | .slice _ n _ => n
  | _ => 0
theorem owned_form {w : World} {B : Nat} {E : TypeId} {V : Value} {n : Nat} {xs : List Value} (h : w.ownsRow B E 1 V n xs) : ∃ ao cp, V = .slice ao n cp := by
  rcases h.2 with ⟨e, h0⟩ | ⟨g, cp, cur, e, _⟩
  · exact ⟨none, 0, by rw [e, h0]⟩
  · exact ⟨_, _, e⟩
def LensSt (K : Nat → Prop) (u b : Nat) (s : ByteArray) (l : List Nat) (most : Nat) (v f1 f2 : Value) (ns : List Nat) (t n : Nat) (w wr : World) (V : Value) (p : Nat) (L : List Nat) : Prop :=
  US wr K u b s p l most v f1 f2 ∧ UF K w wr ∧ TabK wr K t ns ∧ wr.ownsRow w.heap.size 3 1 V L.length (ics L) ∧ w.heap.size ≤ wr.heap.size
/-- The row is kept while a run is read. -/
theorem LensSt.hold {K : Nat → Prop} {u b : Nat} {s : ByteArray} {l : List Nat} {most : Nat} {v f1 f2 : Value} {ns : List Nat} {t n : Nat} {w wr : World} {ao : Option Addr} {cp p : Nat} {L : List Nat} (h : LensSt K u b s l most v f1 f2 ns t n w wr (.slice ao L.length cp) p L) :
    ∃ K1, (∀ k, K k → K1 k) ∧ US wr K1 u b s p l most v f1 f2 ∧ TabK wr K1 t ns ∧ (L = [] ∨ ∃ g, ao = some ⟨g, 0, none⟩ ∧ K1 g ∧ wr.cell? ⟨g, L.length - 1, none⟩ = some (.int .i64 (L.getLastD 0 : Nat))) ∧ (∀ W, UF K1 wr W → W.ownsRow w.heap.size 3 1 (.slice ao L.length cp) L.length (ics L)) := by
  obtain ⟨h1, h2, h3, h4, h5⟩ := h
  rcases h4.2 with ⟨e, h0⟩ | ⟨g, cap, cur, e1, e2, e3, e4⟩
  · have hL : L = [] := List.length_eq_zero_iff.1 h0
    exact ⟨K, fun k a => a, h1, h3, .inl hL, fun W _ => ⟨h4.1, .inl ⟨e, h0⟩⟩⟩
  · refine ⟨fun k => K k ∨ k = g, fun k a => .inl a, h1.plus e3 (by decide) (by decide) (by decide), h3.more (fun k a => .inl a), ?_, fun W hW => ⟨h4.1, .inr ⟨g, cap, cur, e1, e2, by rw [hW.block g (.inr rfl)]; exact e3, e4⟩⟩⟩
    by_cases hL : L = []
    · exact .inl hL
    · right
      have hp : 0 < L.length := List.length_pos_iff.2 hL
      obtain ⟨rfl, rfl⟩ : ao = some ⟨g, 0, none⟩ ∧ cp = cap := by cases e1; exact ⟨rfl, rfl⟩
      refine ⟨g, rfl, .inr rfl, ?_⟩
      have hc := h4.cells (g := g) rfl (L.length - 1) (.int .i64 (L.getLastD 0 : Nat)) (by
        unfold ics
        rw [List.getElem?_map, List.getElem?_eq_getElem (by omega)]
        simp [List.getLastD_eq_getLast?, List.getLast?_eq_getElem?, List.getElem?_eq_getElem (show L.length - 1 < L.length by omega)])
      rw [add_zero_addr] at hc
      exact hc
set_option maxRecDepth 20000 in
set_option maxHeartbeats 4000000 in
theorem lengths_ok (w : World) (K : Nat → Prop) (u b : Nat) (s : ByteArray) (p : Nat) (l : List Nat) (most : Nat) (v f1 f2 : Value) (h : US w K u b s p l most v f1 f2) (t : Nat) (ns : List Nat) (ht : TabK w K t ns) (n : Nat) (hn : n ≤ 320) :
    Calls Tryd.prog 62 #[.pointer (some ⟨u, 0, none⟩), .pointer (some ⟨t, 0, none⟩), .int .i64 n] w fun e w' => LensEnd K u b s l most v f1 f2 n w (lensF ns s n (n + 1) p []) e w' := by
  obtain ⟨r, hr⟩ : ∃ r, lensF ns s n (n + 1) p [] = r := ⟨_, rfl⟩
  rw [hr]
  obtain ⟨i0, hi0, hz0, hz1, hz2⟩ := info_parts intInfo
  have HI : Hid (_ ∧ _ ∧ _ ∧ _) := ⟨hi0, hz0, hz1, hz2⟩
  have HNS : Hid (ns.length ≤ 288) := by obtain ⟨_, _, _, _, _, a, _⟩ := ht; exact a
  have HR : Hid (lensF ns s n (n + 1) p [] = r) := hr
  have H0 : Hid (US w K u b s p l most v f1 f2 ∧ TabK w K t ns) := ⟨h, ht⟩
  clear hi0 hz0 hz1 hz2 h ht hr
  go_enter Tryd.func62, Tryd.ntmps62
  go_wp2_with (at_make; refine wpList_make_own _ rfl _ _ 29 rfl w.heap.size 3 i0 (.int .i64 0) 1 Tryd.underlying29 HI.out.1 HI.out.2.1 HI.out.2.2.1 .i64 .i64 (n : Int) n rfl rfl rfl ?c1 ?c2 (Nat.le_refl _) ?_)
  case c1 => rw [HI.out.2.2.2]; omega
  case c2 => unfold maxLen; omega
  intro w0 hown hgr
  have HS0 : Hid (LensSt K u b s l most v f1 f2 ns t n w w0 (.slice (some ⟨w.heap.size, 0, none⟩) 0 n) p []) := by
    have hbel : Below w.heap.size w w0 := ⟨hgr.os, hgr.tape, hgr.output, hgr.size, fun k hk => hgr.block k hk (by simp)⟩
    have huf := UF.below hbel H0.out.1.kb
    exact ⟨(H0.out.1.newer hbel).less KX.in, huf, H0.out.2.keep huf, hown, hgr.size⟩
  clear hown hgr
  go_wp2_with fail
  go_loopw [7] (fun v7 wr => ∃ (ao : Option Addr) (cp m : Nat), v7 = .slice ao m cp ∧ m ≤ n ∧ Hid (∃ p L, L.length = m ∧ LensSt K u b s l most v f1 f2 ns t n w wr (.slice ao L.length cp) p L ∧ lensF ns s n (n + 1 - L.length) p L = r)) (fun v7 _ => n - sliceLen v7)
  case atStart => exact ⟨_, _, 0, rfl, Nat.zero_le _, p, [], rfl, HS0.out, HR.out⟩
  case round =>
    obtain ⟨ao, cp, m, rfl, hm, HS⟩ := hrel
    obtain ⟨q, L, hLm, hst, hlf⟩ := HS.out
    by_cases hlt : m < n
    · have hlti : (m : Int) < (n : Int) := by omega
      obtain ⟨K1, k1, k2, k3, k4, k5⟩ := hst.hold
      have HRU := run_ok wr K1 u b s q l most v f1 f2 k2 t ns k3 L ao cp (by omega) k4
      have hrk := fun h => runF_ok (ns := ns) (s := s) (p := q) (L := L) HNS.out h
      obtain ⟨⟨er, p1, x, y⟩, hrn⟩ : ∃ r, runF ns s q L = r := ⟨_, rfl⟩
      rw [hrn] at HRU hrk
      rw [hLm] at HRU
      have HRU : Hid (∀ _ : Unit, Calls Tryd.prog 70 #[.pointer (some ⟨u, 0, none⟩), .pointer (some ⟨t, 0, none⟩), .slice ao m cp] wr fun e w' => RunEnd K1 u b s l most v f1 f2 wr (er, p1, x, y) e w') := fun _ => HRU
      have HX : Hid (runF ns s q L = (er, p1, x, y) ∧ L.length = m ∧ lensF ns s n (n + 1 - L.length) q L = r ∧ LensSt K u b s l most v f1 f2 ns t n w wr (.slice ao L.length cp) q L ∧ (∀ k, K k → K1 k) ∧ (∀ W, UF K1 wr W → W.ownsRow w.heap.size 3 1 (.slice ao L.length cp) L.length (ics L))) := ⟨hrn, hLm, hlf, hst, k1, k5⟩
      clear hrn hlf hst k1 k2 k3 k4 k5 HS
      go_wp2_with fail
      refine (HRU.out ()).mono ?_
      rintro e w1 ⟨hf, ⟨hq, rfl⟩ | ⟨h0, rfl, hu1⟩⟩
      · have HF : Hid (UF K w w1 ∧ er ≠ 0) := ⟨HX.out.2.2.2.1.2.1.trans (hf.less HX.out.2.2.2.2.1), hq⟩
        clear hf hq HRU hrk
        go_wp2
        refine ⟨rfl, HF.out.1, .inl ?_⟩
        obtain ⟨x1, x2, x3, _⟩ := HX.out
        rw [← x3, lens_bad (by omega) x1 HF.out.2]
        exact ⟨HF.out.2, rfl⟩
      · have h0 : er = 0 := h0
        subst h0
        obtain ⟨_, _, hy1, hy2⟩ := hrk rfl
        have hy1 : 1 ≤ y := hy1
        have hy2 : y ≤ 70000 := hy2
        have hf' : UF K wr w1 := hf.less HX.out.2.2.2.2.1
        have H1 : Hid (LensSt K u b s l most v f1 f2 ns t n w w1 (.slice ao L.length cp) p1 L) := ⟨hu1.less HX.out.2.2.2.2.1, HX.out.2.2.2.1.2.1.trans hf', HX.out.2.2.2.1.2.2.1.keep hf', HX.out.2.2.2.2.2 w1 hf, Nat.le_trans HX.out.2.2.2.1.2.2.2.2 hf.size⟩
        clear hf hu1 hf' HRU hrk
        obtain ⟨dd, hdd⟩ : ∃ d, n - m = d := ⟨_, rfl⟩
        have hdi : (n : Int) - (m : Int) = (dd : Int) := by omega
        have hdw : IntKind.i64.wrap (dd : Int) = (dd : Int) := wrapN dd (by omega)
        by_cases hyd : y ≤ dd
        · have hydi : decide ((y : Int) ≤ (dd : Int)) = true := by simp; omega
          have hydn : decide (y ≤ dd) = true := by simp; omega
          go_wp2_with fail
          refine (insist_ok w1).mono ?_
          rintro e w2 ⟨rfl, hw⟩
          obtain rfl := hw.symm
          clear hw
          go_wp2_with fail
          go_loopw [7, 31] (fun v7 v31 wx => ∃ (j : Nat) (ao : Option Addr) (cp : Nat), v31 = .int .i64 j ∧ v7 = .slice ao (m + j) cp ∧ j ≤ y ∧ Hid (LensSt K u b s l most v f1 f2 ns t n w wx (.slice ao (m + j) cp) p1 (L ++ List.replicate j x))) (fun _ v31 _ => y - (intOf v31).toNat)
          case atStart => exact ⟨0, ao, cp, rfl, rfl, Nat.zero_le _, (by have := H1.out; rw [hLm] at this; simpa using this : LensSt K u b s l most v f1 f2 ns t n w w1 (.slice ao (m + 0) cp) p1 (L ++ List.replicate 0 x))⟩
          case round =>
            obtain ⟨j, ao2, cp2, rfl, rfl, hj, HL⟩ := hrel
            by_cases hjy : j < y
            · have hjyi : (j : Int) < (y : Int) := by omega
              have hlen : (L ++ List.replicate j x).length = m + j := by rw [List.length_append, List.length_replicate, hLm]
              obtain ⟨Q, hQ⟩ : ∃ Q, m + j = Q := ⟨_, rfl⟩
              have HQ : Hid (m + j = Q ∧ (L ++ List.replicate j x).length = Q) := ⟨hQ, by rw [hlen, hQ]⟩
              rw [hQ] at HL ⊢
              have hQb : Q + 1 ≤ 100000 := by omega
              have HO : Hid (∀ o, (wr.alloc o).ownsRow w.heap.size 3 1 (.slice ao2 Q cp2) Q (ics (L ++ List.replicate j x)) ∧ w.heap.size ≤ (wr.alloc o).heap.size ∧ US (wr.alloc o) K u b s p1 l most v f1 f2 ∧ UF K w (wr.alloc o) ∧ TabK (wr.alloc o) K t ns) := fun o => by
                obtain ⟨a1, a2, a3, a4, a5⟩ := HL.out
                rw [HQ.out.2] at a4
                have huf : UF K wr (wr.alloc o) := UF.below ((Below.refl _ _).alloc (Nat.le_refl _) _) a1.kb
                exact ⟨a4.alloc o, by simp; omega, a1.alloc o, a2.trans huf, a3.keep huf⟩
              clear hQ hlen HL
              go_wp2_with (at_builtin; refine wpList_append_own _ rfl _ _ 29 rfl w.heap.size 3 i0 (.int .i64 0) 1 8 Tryd.underlying29 HI.out.1 HI.out.2.1 HI.out.2.2.1 HI.out.2.2.2 rfl (by decide) (.slice ao2 Q cp2) Q (ics (L ++ List.replicate j x)) rfl (HO.out _).1 ⟨wr.heap.size, 0, none⟩ 1 1 [.int .i64 (x : Nat)] rfl rfl (news1 wr _ _) (one1 _) ?c1 ?c2 (HO.out _).2.1 ?_)
              case c1 => unfold maxLen; omega
              case c2 => omega
              intro V2 wy hown hgrow _
              obtain ⟨ao3, cp3, hV⟩ := owned_form hown
              subst hV
              have HN : Hid (LensSt K u b s l most v f1 f2 ns t n w wy (.slice ao3 (Q + 1) cp3) p1 (L ++ List.replicate (j + 1) x)) := by
                obtain ⟨o1, o2, o3, o4, o5⟩ := HO.out (.cells #[.int .i64 (x : Nat)] 3)
                obtain ⟨e1, e2⟩ := o3.beside' o1 hgrow (by decide) (by decide) (by decide) H0.out.1.kb
                have hl2 : L ++ List.replicate (j + 1) x = (L ++ List.replicate j x) ++ [x] := by rw [List.replicate_succ', List.append_assoc]
                refine ⟨e1, o4.trans e2, o5.keep e2, ?_, Nat.le_trans o2 hgrow.size⟩
                rw [hl2, List.length_append, HQ.out.2, ics_snoc]
                exact hown
              have hmq : m + (j + 1) = Q + 1 := by have := HQ.out.1; omega
              clear hown hgrow
              go_wp2
              exact ⟨⟨j + 1, ao3, cp3, by go_num, by rw [hmq], by omega, by rw [hmq]; exact HN⟩, by simp [intOf]; omega⟩
            · have hjyi : ¬ (j : Int) < (y : Int) := by omega
              obtain rfl : j = y := by omega
              have HN : Hid (∃ p L', L'.length = m + j ∧ LensSt K u b s l most v f1 f2 ns t n w wr (.slice ao2 L'.length cp2) p L' ∧ lensF ns s n (n + 1 - L'.length) p L' = r) := by
                obtain ⟨x1, x2, x3, _⟩ := HX.out
                have hl : (L ++ List.replicate j x).length = m + j := by rw [List.length_append, List.length_replicate, x2]
                refine ⟨p1, L ++ List.replicate j x, hl, by rw [hl]; exact HL.out, ?_⟩
                rw [← lens_more HNS.out (by omega) x1 (by omega)]; exact x3
              clear HL
              go_wp2
              exact ⟨⟨ao2, cp2, m + j, rfl, by omega, HN⟩, by simp [sliceLen]; omega⟩
        · have hydi : decide ((y : Int) ≤ (dd : Int)) = false := by simp; omega
          have hydn : decide (y ≤ dd) = false := by simp; omega
          go_wp2_with fail
          refine (insist_no w1).mono ?_
          rintro e w2 ⟨rfl, hw⟩
          obtain rfl := hw.symm
          go_wp2
          refine ⟨rfl, H1.out.2.1, .inl ?_⟩
          obtain ⟨x1, x2, x3, _⟩ := HX.out
          rw [← x3, lens_full (by omega) x1 (by omega)]
          exact ⟨by simp, rfl⟩
    · have hlti : ¬ (m : Int) < (n : Int) := by omega
      obtain rfl : m = n := by omega
      have HE : Hid (r = (0, q, L) ∧ LensSt K u b s l most v f1 f2 ns t m w wr (.slice ao m cp) q L ∧ L.length = m) := ⟨by rw [← hlf]; exact lens_end hLm, by rw [hLm] at hst; exact hst, hLm⟩
      clear hlf hst HS
      go_wp2
      go_ret
      obtain ⟨g1, g2, g3⟩ := HE.out
      refine ⟨g2.2.1, .inr ⟨by rw [g1], _, rfl, ?_, ?_⟩⟩
      · rw [g1, ← g3]; have := g2.2.2.2.1; rw [← g3] at this; exact this
      · rw [g1]; exact g2.1
end Go.Proofs.YtchjnfckcfikkaaDoor
namespace Go.Proofs.YtchjnfckcfikkaaDoor
open Go.RowKit
set_option linter.unusedVariables false

def ordL : List Nat := [16, 17, 18, 0, 8, 7, 9, 6, 10, 5, 11, 4, 12, 3, 13, 2, 14, 1, 15]
theorem ordL_lt (k : Nat) : ordL.getD k 0 < 19 := by
  rcases Nat.lt_or_ge k 19 with h | h
  · exact (show ∀ k : Fin 19, ordL.getD k.val 0 < 19 by decide) ⟨k, h⟩
  · rw [List.getD_eq_getElem?_getD, List.getElem?_eq_none (by show 19 ≤ k; exact h)]; simp
/-- The order's cells. -/
def OrdAt (w : World) : Prop := ∀ i, i < 19 → w.cell? ⟨0, i, none⟩ = some (.int .i64 (ordL.getD i 0 : Nat))
theorem OrdAt.keep {w w' : World} {K : Nat → Prop} (h : OrdAt w) (hK : K 0) (hf : UF K w w') : OrdAt w' := fun i hi => by
  rw [World.cell?_of_block (w := w) (hf.block 0 hK)]; exact h i hi
def fcOf (s : ByteArray) (p : Nat) : Nat → Nat → Nat
  | 0 => fun _ => 0
  | k + 1 => fun i => if i = ordL.getD k 0 then num s (p + 3 * k) 3 else fcOf s p k i
theorem fcOf_lt (s : ByteArray) (p : Nat) : ∀ k i, fcOf s p k i < 8
  | 0, i => by simp [fcOf]
  | k + 1, i => by
    unfold fcOf
    split
    · exact num_lt s _ 3
    · exact fcOf_lt s p k i
structure FirSt (K : Nat → Prop) (u b : Nat) (s : ByteArray) (p : Nat) (l : List Nat) (most : Nat) (v f1 f2 : Value) (w wr : World) (k : Nat) : Prop where
  row : LB wr w.heap.size 19 (fcOf s p k)
  us : US wr K u b s (p + 3 * k) l most v f1 f2
  uf : UF K w wr
  ord : OrdAt wr
set_option maxRecDepth 20000 in
set_option maxHeartbeats 4000000 in
theorem first_ok (w : World) (K : Nat → Prop) (u b : Nat) (s : ByteArray) (p : Nat) (l : List Nat) (most : Nat) (v f1 f2 : Value) (h : US w K u b s p l most v f1 f2) (hK0 : K 0) (ho : OrdAt w) (n : Nat) (hn : n ≤ 19) :
    Calls Tryd.prog 63 #[.pointer (some ⟨u, 0, none⟩), .int .i64 n] w fun e w' => UF K w w' ∧
      ((8 * s.size < p + 3 * n ∧ e = .panicked (gave 5)) ∨ (p + 3 * n ≤ 8 * s.size ∧ wholeB ((List.range 19).map fun i => (fcOf s p n i : Int)) = false ∧ e = .panicked (gave 40)) ∨
       (p + 3 * n ≤ 8 * s.size ∧ wholeB ((List.range 19).map fun i => (fcOf s p n i : Int)) = true ∧ ∃ K' t, e = .returned (.pointer (some ⟨t, 0, none⟩)) ∧ (∀ k, K k → K' k) ∧ US w' K' u b s (p + 3 * n) l most v f1 f2 ∧ TabK w' K' t ((List.range 19).map (fcOf s p n)))) := by
  obtain ⟨i0, hi0, hz0, hz1, hz2⟩ := info_parts intInfo
  have HI : Hid (_ ∧ _ ∧ _ ∧ _) := ⟨hi0, hz0, hz1, hz2⟩
  have H0 : Hid (FirSt K u b s p l most v f1 f2 w (w.alloc (.cells (madeCells #[.int .i64 0] 19) 3)) 0 ∧ ∀ k, K k → k < w.heap.size) := by
    have hbel : Below w.heap.size w (w.alloc (.cells (madeCells #[.int .i64 0] 19) 3)) := (Below.refl _ _).alloc (Nat.le_refl _) _
    have huf := UF.below hbel h.kb
    exact ⟨⟨made_zero w 19, (h.newer hbel).less KX.in, huf, ho.keep hK0 huf⟩, h.kb⟩
  have HK0 : Hid (K 0) := hK0
  clear hi0 hz0 hz1 hz2 h ho hK0
  go_enter Tryd.func63, Tryd.ntmps63
  go_wp2_with (at_make; refine wpList_make_row _ rfl _ _ 29 rfl 3 i0 (.int .i64 0) Tryd.underlying29 HI.out.1 HI.out.2.1 HI.out.2.2.1 rfl .i64 .i64 19 rfl rfl (by rw [HI.out.2.2.2]; omega) (by omega) ?_)
  obtain ⟨B, hB⟩ : ∃ B, w.heap.size = B := ⟨_, rfl⟩
  rw [hB] at H0 ⊢
  have HB : Hid (w.heap.size = B) := hB
  obtain ⟨W0, hW0⟩ : ∃ W, w.alloc (.cells (madeCells #[.int .i64 0] 19) 3) = W := ⟨_, rfl⟩
  rw [hW0] at H0 ⊢
  clear hW0 hB
  go_loopw [9] (fun v9 wr => ∃ k : Nat, v9 = .int .i64 k ∧ k ≤ n ∧ Hid (FirSt K u b s p l most v f1 f2 w wr k)) (fun v9 _ => n - (intOf v9).toNat)
  case atStart => exact ⟨0, rfl, Nat.zero_le _, H0.out.1⟩
  case round =>
    obtain ⟨k, rfl, hk, HS⟩ := hrel
    have hrow : LB wr B 19 (fcOf s p k) := by have := HS.out.row; rw [HB.out] at this; exact this
    by_cases hlt : k < n
    · have hlti : (k : Int) < (n : Int) := by omega
      have c1 := HS.out.ord k (by omega)
      have hol := ordL_lt k
      obtain ⟨o, ho⟩ : ∃ o, ordL.getD k 0 = o := ⟨_, rfl⟩
      rw [ho] at c1 hol
      obtain ⟨d1, d2⟩ := hrow.cell hol
      have hk19 : (k : Int) < 19 := by omega
      have ho19 : (o : Int) < 19 := by omega
      have hus1 := HS.out.us.plus hrow (by decide) (by decide) (by decide)
      have hKB : ¬ K B := fun a => by have := H0.out.2 B a; omega
      have HUB := unum_ok (wr.drewN 1) (fun i => K i ∨ i = B) u b s (p + 3 * k) l most v f1 f2 (hus1.drewN 1) 3 (by omega)
      have HO : Hid (ordL.getD k 0 = o) := ho
      have HRW : Hid (LB wr B 19 (fcOf s p k)) := hrow
      obtain ⟨y0, hy0⟩ : ∃ y, fcOf s p k o = y := ⟨_, rfl⟩
      rw [hy0] at d1
      clear ho hus1 hrow hy0
      by_cases hp : 8 * s.size < p + 3 * k + 3
      · have hub : ub s (p + 3 * k) 3 = (5, p + 3 * k, 0) := by unfold ub; rw [if_pos hp]
        rw [hub] at HUB
        have HU : Hid (∀ _ : Unit, Calls Tryd.prog 41 #[.pointer (some ⟨u, 0, none⟩), .int .i64 (3 : Nat)] wr.drew fun e w' => e = .panicked (gave 5) ∧ UF K wr w') := fun _ => HUB.mono fun e w' hh => by
          obtain ⟨hf, ⟨_, he⟩ | ⟨hq, _, _⟩⟩ := hh
          · exact ⟨he, ⟨hf.os, hf.tape, hf.output, hf.size, fun i hi => hf.block i (.inl hi)⟩⟩
          · cases hq
        have HP : Hid (8 * s.size < p + 3 * n) := by show _ < _; omega
        clear HUB hub hp
        go_wp2_with fail
        go_region_with (go_at_call 41; refine (HU.out ()).mono ?_; rintro e w2 ⟨rfl, hne⟩; refine way_ends ⟨#[], []⟩ w (by go_wp2; exact ⟨rfl, HS.out.uf.trans hne, .inl ⟨HP.out, rfl⟩⟩) ?_)
        all_goals trivial
      · have hub : ub s (p + 3 * k) 3 = (0, p + 3 * k + 3, num s (p + 3 * k) 3) := by unfold ub; rw [if_neg hp]
        rw [hub] at HUB
        obtain ⟨x, hx⟩ : ∃ x, num s (p + 3 * k) 3 = x := ⟨_, rfl⟩
        rw [hx] at HUB
        have HU : Hid (∀ _ : Unit, Calls Tryd.prog 41 #[.pointer (some ⟨u, 0, none⟩), .int .i64 (3 : Nat)] wr.drew fun e w' => e = .returned (.int .i64 (x : Nat)) ∧ w'.cell? ⟨0, k, none⟩ = some (.int .i64 (o : Nat)) ∧ w'.cell? ⟨B, o, none⟩ = some (.int .i64 (y0 : Nat)) ∧ w'.frozen? ⟨B, o, none⟩ = false ∧ UF (fun i => K i ∨ i = B) wr w' ∧ US w' K u b s (p + 3 * k + 3) l most v f1 f2) := fun _ => HUB.mono fun e w' hh => by
          obtain ⟨hf, ⟨hq, _⟩ | ⟨_, he, hus⟩⟩ := hh
          · exact (hq rfl).elim
          · have hf' : UF (fun i => K i ∨ i = B) wr w' := ⟨hf.os, hf.tape, hf.output, hf.size, hf.block⟩
            exact ⟨he, by rw [World.cell?_of_block (w := wr) (hf'.block 0 (.inl HK0.out))]; exact c1, by rw [World.cell?_of_block (w := wr) (hf'.block B (.inr rfl))]; exact d1, by rw [World.frozen?_of_block (w := wr) (hf'.block B (.inr rfl))]; exact d2, hf', hus.less (fun i hi => .inl hi)⟩
        have HX : Hid (num s (p + 3 * k) 3 = x) := hx
        clear HUB hub hp hx
        go_wp2_with fail
        go_region_with (go_at_call 41; refine (HU.out ()).mono ?_; rintro e w2 ⟨rfl, c1', d1', d2', hne⟩; have HN2 : Hid _ := hne; clear hne)
        all_goals
          have HNX : Hid (FirSt K u b s p l most v f1 f2 w (w2.setCell ⟨B, o, none⟩ (.int .i64 (x : Nat))) (k + 1)) := by
            obtain ⟨m1, m2⟩ := HN2.out
            have hrow2 : LB w2 B 19 (fcOf s p k) := (m1.block B (.inr rfl)).trans HRW.out
            have hon : Only B w2 (w2.setCell ⟨B, o, none⟩ (.int .i64 (x : Nat))) := Only.setCell B o w2 _
            have huB : u ≠ B := fun e => by have := m2.blk; rw [e] at this; unfold LB at hrow2; rw [hrow2] at this; cases this
            have hu2 : UF K w (w2.setCell ⟨B, o, none⟩ (.int .i64 (x : Nat))) := (HS.out.uf.trans (m1.less (fun i hi => .inl hi))).trans (UF.only hon m2.kb hKB)
            have hor : OrdAt (w2.setCell ⟨B, o, none⟩ (.int .i64 (x : Nat))) := (HS.out.ord.keep HK0.out (m1.less (fun i hi => .inl hi))).keep HK0.out (UF.only hon m2.kb hKB)
            refine ⟨?_, ?_, hu2, hor⟩
            · rw [HB.out]
              refine (hrow2.set o x).congr (fun i hi => ?_)
              show _ = if i = ordL.getD k 0 then num s (p + 3 * k) 3 else fcOf s p k i
              rw [HO.out, HX.out]
            · have := m2.beside hrow2 (by decide) (by decide) huB hon
              exact this
          go_wp2
          exact ⟨⟨k + 1, by go_num, by omega, HNX⟩, by simp [intOf]; omega⟩
    · have hlti : ¬ (k : Int) < (n : Int) := by omega
      obtain rfl : k = n := by omega
      have HP : Hid (p + 3 * k ≤ 8 * s.size) := HS.out.us.le
      obtain ⟨xs, hxs⟩ : ∃ xs, ((List.range 19).map fun i => (fcOf s p k i : Int)) = xs := ⟨_, rfl⟩
      have hir : IRow wr (some ⟨B, 0, none⟩) xs := by rw [← hxs]; exact hrow.row
      have hxl : xs.length = 19 := by rw [← hxs]; simp
      have hns : nsOf xs = (List.range 19).map (fcOf s p k) := by rw [← hxs]; exact nsOf_range _ _
      have HWH : Hid (∀ _ : Unit, Calls Tryd.prog 64 #[.slice (some ⟨B, 0, none⟩) 19 19] wr fun e w' => e = .returned (.bool (wholeB xs)) ∧ Below wr.heap.size wr w') := fun _ => uwhole_ok xs (some ⟨B, 0, none⟩) 19 19 wr hxl hir (by omega)
      have HIR : Hid (IRow wr (some ⟨B, 0, none⟩) xs ∧ xs.length = 19 ∧ nsOf xs = (List.range 19).map (fcOf s p k)) := ⟨hir, hxl, hns⟩
      have HXS : Hid (((List.range 19).map fun i => (fcOf s p k i : Int)) = xs) := hxs
      obtain ⟨q, hq⟩ : ∃ q, wholeB xs = q := ⟨_, rfl⟩
      rw [hq] at HWH
      have HQ : Hid (wholeB xs = q) := hq
      clear hxs hir hxl hns hrow hq
      go_wp2_with fail
      refine (HWH.out ()).mono ?_
      rintro e w1 ⟨rfl, hb1⟩
      have HB1 : Hid (Below wr.heap.size wr w1) := hb1
      clear hb1 HWH
      cases q
      · go_wp2_with fail
        refine (insist_no w1).mono ?_
        rintro e w2 ⟨rfl, hw⟩
        obtain rfl := hw.symm
        clear hw
        go_wp2
        exact ⟨rfl, HS.out.uf.trans (UF.below HB1.out HS.out.us.kb), .inr (.inl ⟨HP.out, by rw [HXS.out]; exact HQ.out, rfl⟩)⟩
      · have HTO : Hid (∀ _ : Unit, Calls Tryd.prog 59 #[.slice (some ⟨B, 0, none⟩) 19 19] w1 fun e w' => ∃ t R, e = .returned (.pointer (some ⟨t, 0, none⟩)) ∧ Tab w' w1.heap.size w'.heap.size t (nsOf xs) R ∧ Below w1.heap.size w1 w') := fun _ => tableOf_ok xs (some ⟨B, 0, none⟩) 19 19 w1 HIR.out.2.1 (HIR.out.1.below HB1.out) (by omega) (by
          have := HQ.out
          unfold wholeB at this
          rw [Bool.and_eq_true] at this
          exact ⟨this.1, by have := of_decide_eq_true this.2; omega⟩)
        go_wp2_with fail
        refine (insist_ok w1).mono ?_
        rintro e w2 ⟨rfl, hw⟩
        obtain rfl := hw.symm
        clear hw
        go_wp2_with fail
        refine (HTO.out ()).mono ?_
        rintro e w3 ⟨t, R, rfl, h1, h2⟩
        have HEND : Hid (UF K w w3 ∧ ∃ K', (∀ k, K k → K' k) ∧ US w3 K' u b s (p + 3 * k) l most v f1 f2 ∧ TabK w3 K' t ((List.range 19).map (fcOf s p k))) := by
          have hs1 := HB1.out.size
          have hs2 := h2.size
          have hbel : Below wr.heap.size wr w3 := HB1.out.trans (h2.mono hs1)
          refine ⟨HS.out.uf.trans (UF.below hbel HS.out.us.kb), KX K wr.heap.size w3.heap.size, KX.in, HS.out.us.newer hbel, w1.heap.size, w3.heap.size, R, by rw [← HIR.out.2.2]; exact h1, fun i a c => .inr ⟨by omega, c⟩, by simp, ?_⟩
          have := HQ.out
          unfold wholeB at this
          rw [Bool.and_eq_true] at this
          have := of_decide_eq_true this.2
          rw [HIR.out.2.2] at this; omega
        clear h1 h2 HTO
        go_wp2
        go_ret
        obtain ⟨g1, K', g2, g3, g4⟩ := HEND.out
        exact ⟨g1, .inr (.inr ⟨HP.out, by rw [HXS.out]; exact HQ.out, K', t, rfl, g2, g3, g4⟩)⟩
end Go.Proofs.YtchjnfckcfikkaaDoor
namespace Go.Proofs.YtchjnfckcfikkaaDoor
open Go.RowKit
set_option linter.unusedVariables false

theorem symW_in (ns : List Nat) (l x : Nat) : symW ns l x < ns.length ∨ symW ns l x = 0 := by
  unfold symW
  by_cases hi : x - fstW ns l < (symsOf ns l ns.length).length
  · left
    have hm : (symsOf ns l ns.length).getD (x - fstW ns l) 0 ∈ symsOf ns l ns.length := by
      rw [List.getD_eq_getElem?_getD, List.getElem?_eq_getElem hi]; exact List.getElem_mem hi
    obtain ⟨z, hz⟩ : ∃ z, (symsOf ns l ns.length).getD (x - fstW ns l) 0 = z := ⟨_, rfl⟩
    rw [hz] at hm ⊢
    unfold symsOf at hm
    exact (List.mem_range.1 (List.mem_filter.1 hm).1)
  · right
    rw [List.getD_eq_getElem?_getD, List.getElem?_eq_none (by omega)]; rfl
theorem rdS_in (ns : List Nat) (s : ByteArray) (p : Nat) : ∀ (k l x : Nat), (rdS ns s p k l x).1 < ns.length ∨ (rdS ns s p k l x).1 = 0
  | 0, l, x => .inr rfl
  | k + 1, l, x => by
    unfold rdS
    split
    · exact symW_in ns l x
    · split
      · exact .inr rfl
      · split
        · exact .inr rfl
        · exact rdS_in ns s p k _ _
theorem usym_in (ns : List Nat) (s : ByteArray) (p : Nat) : (usym ns s p).2.2 < ns.length ∨ (usym ns s p).2.2 = 0 := by
  unfold usym
  split
  · exact .inr rfl
  · split
    · exact rdS_in ns s p 16 0 0
    · exact .inr rfl
/-- Lengths that a run adds are at most 15. -/
theorem runF_len {ns : List Nat} {s : ByteArray} {p : Nat} {L : List Nat} (hn : ns.length = 19) (hL : ∀ x ∈ L, x ≤ 15) : (runF ns s p L).2.2.1 ≤ 15 := by
  have hy := usym_in ns s p
  unfold runF
  split
  · exact Nat.zero_le _
  · split
    · split
      · exact Nat.zero_le _
      · rename_i h
        show L.getLastD 0 ≤ 15
        rw [List.getLastD_eq_getLast?]
        cases he : L.getLast? with
        | none => simp
        | some z => exact hL z (List.mem_of_getLast? he)
    · split
      · exact Nat.zero_le _
      · split
        · exact Nat.zero_le _
        · show (usym ns s p).2.2 ≤ 15
          rename_i h1 h2 h3
          omega
theorem lensF_len {ns : List Nat} {s : ByteArray} {n : Nat} (hn : ns.length = 19) : ∀ (k p : Nat) (L : List Nat), (∀ x ∈ L, x ≤ 15) → ∀ x ∈ (lensF ns s n k p L).2.2, x ≤ 15
  | 0, p, L, h => h
  | k + 1, p, L, h => by
    unfold lensF
    split
    · exact h
    · split
      · exact h
      · split
        · exact h
        · refine lensF_len hn k _ _ (fun x hx => ?_)
          rcases List.mem_append.1 hx with a | a
          · exact h x a
          · rw [(List.mem_replicate.1 a).2]; exact runF_len hn h
theorem lensF_size {ns : List Nat} {s : ByteArray} {n : Nat} (hn : ns.length ≤ 288) : ∀ (k p : Nat) (L : List Nat), L.length ≤ n → (lensF ns s n k p L).1 = 0 → (lensF ns s n k p L).2.2.length = n ∧ p ≤ (lensF ns s n k p L).2.1 ∧ (p ≤ 8 * s.size → (lensF ns s n k p L).2.1 ≤ 8 * s.size)
  | 0, p, L, hl, h => by simp [lensF] at h
  | k + 1, p, L, hl, h => by
    unfold lensF at h ⊢
    by_cases a1 : n ≤ L.length
    · rw [if_pos a1]; exact ⟨by show L.length = n; omega, Nat.le_refl p, fun h => h⟩
    · rw [if_neg a1] at h ⊢
      by_cases a2 : (runF ns s p L).1 ≠ 0
      · rw [if_pos a2] at h; exact (a2 h).elim
      · rw [if_neg a2] at h ⊢
        obtain ⟨b1, b2, _, _⟩ := runF_ok (s := s) (p := p) (L := L) hn (by omega)
        by_cases a3 : n - L.length < (runF ns s p L).2.2.2
        · rw [if_pos a3] at h; simp at h
        · rw [if_neg a3] at h ⊢
          obtain ⟨c1, c2, c3⟩ := lensF_size hn k _ _ (by rw [List.length_append, List.length_replicate]; omega) h
          exact ⟨c1, Nat.le_trans b1 c2, fun hp => c3 (b2 hp)⟩
end Go.Proofs.YtchjnfckcfikkaaDoor
namespace Go.Proofs.YtchjnfckcfikkaaDoor
open Go.RowKit
set_option linter.unusedVariables false

def fcL (s : ByteArray) (p n : Nat) : List Nat := (List.range 19).map (fcOf s p n)
def intsOf (L : List Nat) : List Int := L.map fun (x : Nat) => (x : Int)
def toldL (s : ByteArray) (p A D C : Nat) : Nat × Nat × List Nat := lensF (fcL s (p + 14) (4 + C)) s (258 + A + D) (258 + A + D + 1) (p + 14 + 3 * (4 + C)) []
def toldE (r : Nat × Nat × List Nat) (p A D : Nat) : Nat × Nat × List Nat × List Nat :=
  if r.1 ≠ 0 then (r.1, p, [], []) else if r.2.2.getD 256 0 = 0 then (40, p, [], []) else if wholeB (intsOf (r.2.2.take (257 + A))) = false then (40, p, [], [])
  else if wholeB (intsOf (r.2.2.drop (257 + A))) = false ∧ 1 < sumTo (fun i => (r.2.2.drop (257 + A)).getD i 0) (1 + D) then (40, p, [], [])
  else (0, r.2.1, r.2.2.take (257 + A), r.2.2.drop (257 + A))
def toldF (s : ByteArray) (p : Nat) : Nat × Nat × List Nat × List Nat :=
  if 8 * s.size < p + 14 then (5, p, [], []) else if 29 < num s p 5 ∨ 29 < num s (p + 5) 5 then (40, p, [], [])
  else if 8 * s.size < p + 14 + 3 * (4 + num s (p + 10) 4) then (5, p, [], [])
  else if wholeB ((List.range 19).map fun i => (fcOf s (p + 14) (4 + num s (p + 10) 4) i : Int)) = false then (40, p, [], [])
  else toldE (toldL s p (num s p 5) (num s (p + 5) 5) (num s (p + 10) 4)) p (num s p 5) (num s (p + 5) 5)
theorem intsOf_get (L : List Nat) (i : Nat) : (intsOf L).getD i 0 = ((L.getD i 0 : Nat) : Int) := by
  unfold intsOf
  rw [List.getD_eq_getElem?_getD, List.getD_eq_getElem?_getD, List.getElem?_map]
  cases L[i]? <;> rfl
theorem nsOf_ints (L : List Nat) : nsOf (intsOf L) = L := by
  unfold nsOf intsOf
  rw [List.map_map]
  conv => rhs; rw [← List.map_id L]
  exact List.map_congr_left (fun x _ => by simp)
theorem may_ints {L : List Nat} (h : ∀ x ∈ L, x ≤ 15) (hl : L.length ≤ 288) : may (intsOf L) = true := by
  refine may_yes (by simp [intsOf]; exact hl) (fun j hj => ?_)
  rw [intsOf_get]
  have hj' : j < L.length := by simpa [intsOf] using hj
  have := h (L.getD j 0) (by rw [List.getD_eq_getElem?_getD, List.getElem?_eq_getElem hj']; exact List.getElem_mem hj')
  omega
theorem shr_sum (ns : List Nat) : ∀ j, shr ns j ≤ 16384 * sumTo (fun i => ns.getD i 0) j
  | 0 => by simp [shr, sumTo]
  | j + 1 => by
    have h := shr_sum ns j
    simp only [shr, sumTo]
    by_cases e : ns.getD j 0 = 0
    · rw [if_pos e, Nat.mul_add]; omega
    · have hp : 2 ^ (15 - ns.getD j 0) ≤ 16384 := Nat.le_trans (Nat.pow_le_pow_right (by decide) (show 15 - ns.getD j 0 ≤ 14 by omega)) (by decide)
      have hm : 16384 * 1 ≤ 16384 * ns.getD j 0 := Nat.mul_le_mul_left _ (by omega)
      rw [Nat.mul_add, if_neg e]
      omega
theorem lone_code {L : List Nat} (h : ∀ x ∈ L, x ≤ 15) (hs : sumTo (fun i => L.getD i 0) L.length ≤ 1) : ew L 15 ≤ 32768 := by
  rw [← shr_ew L (fun i => by
    rw [List.getD_eq_getElem?_getD]
    cases he : L[i]? with
    | none => simp
    | some z => exact h z (List.mem_of_getElem? he))]
  have := shr_sum L L.length
  omega
theorem told_bad {K : Nat → Prop} {u b : Nat} {s : ByteArray} {l : List Nat} {most : Nat} {v f1 f2 : Value} {w w' : World} {r : Nat × Nat × List Nat × List Nat} {q p' : Nat} {c d : List Nat} (hf : UF K w w') (hr : r = (q, p', c, d)) (hq : q ≠ 0) : ToldEnd K u b s l most v f1 f2 w r (.panicked (gave (q : Nat))) w' := by
  subst hr
  exact ⟨hf, .inl ⟨hq, rfl⟩⟩
set_option maxRecDepth 20000 in
set_option maxHeartbeats 600000 in
theorem told_ok (w : World) (K : Nat → Prop) (u b : Nat) (s : ByteArray) (p : Nat) (l : List Nat) (most : Nat) (v f1 f2 : Value) (h : US w K u b s p l most v f1 f2) (hK0 : K 0) (ho : OrdAt w) :
    Calls Tryd.prog 45 #[.pointer (some ⟨u, 0, none⟩)] w fun e w' => ToldEnd K u b s l most v f1 f2 w (toldF s p) e w' := by
  obtain ⟨r, hr⟩ : ∃ r, toldF s p = r := ⟨_, rfl⟩
  rw [hr]
  have HR : Hid (toldF s p = r) := hr
  obtain ⟨o, hoo⟩ : ∃ o, Obj.cells #[Value.pointer none, Value.pointer none] 49 = o := ⟨_, rfl⟩
  have hbel : Below w.heap.size w (w.alloc o) := (Below.refl _ _).alloc (Nat.le_refl _) _
  have huf : UF K w (w.alloc o) := UF.below hbel h.kb
  obtain ⟨K1, hK1⟩ : ∃ K', KX K w.heap.size (w.alloc o).heap.size = K' := ⟨_, rfl⟩
  have hin : ∀ k, K k → K1 k := by rw [← hK1]; exact KX.in
  have hnew : K1 w.heap.size := by rw [← hK1]; exact .inr ⟨Nat.le_refl _, by simp⟩
  have h1 : US (w.alloc o) K1 u b s p l most v f1 f2 := by rw [← hK1]; exact h.newer hbel
  have H0 : Hid (US (w.alloc o) K1 u b s p l most v f1 f2 ∧ UF K w (w.alloc o) ∧ (∀ k, K k → K1 k) ∧ K1 0 ∧ OrdAt (w.alloc o) ∧ K1 w.heap.size ∧ (w.alloc o).heap[w.heap.size]? = some o ∧ (∀ k, K k → k < w.heap.size)) := ⟨h1, huf, hin, hin 0 hK0, ho.keep hK0 huf, hnew, heap_alloc_new w o, h.kb⟩
  have HUN : Hid (∀ (W : World) (q n : Nat), n ≤ 57 → US W K1 u b s q l most v f1 f2 → Calls Tryd.prog 41 #[.pointer (some ⟨u, 0, none⟩), .int .i64 n] W fun e w' => UF K1 W w' ∧ ((8 * s.size < q + n ∧ e = .panicked (gave 5)) ∨ (q + n ≤ 8 * s.size ∧ e = .returned (.int .i64 (num s q n : Nat)) ∧ US w' K1 u b s (q + n) l most v f1 f2))) := fun W q n hn hU => (unum_ok W K1 u b s q l most v f1 f2 hU n hn).mono fun e w' hh => by
    refine ⟨hh.1, ?_⟩
    have hub : ub s q n = if 8 * s.size < q + n then (5, q, 0) else (0, q + n, num s q n) := rfl
    by_cases hp : 8 * s.size < q + n
    · rw [hub, if_pos hp] at hh
      rcases hh.2 with a | a
      · exact .inl ⟨hp, a.2⟩
      · cases a.1
    · rw [hub, if_neg hp] at hh
      rcases hh.2 with a | a
      · exact (a.1 rfl).elim
      · exact .inr ⟨by omega, a.2.1, a.2.2⟩
  clear hr h hK0 ho hbel huf hK1 hin hnew h1
  go_enter Tryd.func45, Tryd.ntmps45
  go_wp2_with fail
  try rw [hoo]
  obtain ⟨W0, hW0⟩ : ∃ W, w.alloc o = W := ⟨_, rfl⟩
  rw [hW0] at H0 ⊢
  clear hW0
  have HB1 : Hid (∀ _ : Unit, Calls Tryd.prog 41 #[.pointer (some ⟨u, 0, none⟩), .int .i64 (5 : Nat)] W0 fun e w' => UF K1 W0 w' ∧ ((8 * s.size < p + 5 ∧ e = .panicked (gave 5)) ∨ (p + 5 ≤ 8 * s.size ∧ e = .returned (.int .i64 (num s p 5 : Nat)) ∧ US w' K1 u b s (p + 5) l most v f1 f2))) := fun _ => HUN.out W0 p 5 (by omega) H0.out.1
  refine (HB1.out ()).mono ?_
  rintro e w1 ⟨hf, ⟨hq, rfl⟩ | ⟨hq, rfl, hu1⟩⟩
  · have HF : Hid (UF K w w1 ∧ r = (5, p, [], [])) := ⟨H0.out.2.1.trans (hf.less H0.out.2.2.1), by rw [← HR.out]; unfold toldF; rw [if_pos (by omega)]⟩
    clear hf hq
    go_wp2
    exact ⟨rfl, told_bad HF.out.1 HF.out.2 (by decide)⟩
  · have HF1 : Hid (UF K1 W0 w1 ∧ US w1 K1 u b s (p + 5) l most v f1 f2) := ⟨hf, hu1⟩
    obtain ⟨A, hA⟩ : ∃ A, num s p 5 = A := ⟨_, rfl⟩
    have hA32 : A < 32 := by rw [← hA]; exact num_lt s p 5
    rw [hA]
    have HAA : Hid (num s p 5 = A) := hA
    obtain ⟨SY, hSY⟩ : ∃ x, 257 + A = x := ⟨_, rfl⟩
    have hSYi : (257 : Int) + (A : Int) = (SY : Int) := by omega
    clear hf hu1 hA hq
    go_wp2_with fail
    have HB2 : Hid (∀ _ : Unit, Calls Tryd.prog 41 #[.pointer (some ⟨u, 0, none⟩), .int .i64 (5 : Nat)] w1 fun e w' => UF K1 w1 w' ∧ ((8 * s.size < p + 5 + 5 ∧ e = .panicked (gave 5)) ∨ (p + 5 + 5 ≤ 8 * s.size ∧ e = .returned (.int .i64 (num s (p + 5) 5 : Nat)) ∧ US w' K1 u b s (p + 10) l most v f1 f2))) := fun _ => HUN.out w1 (p + 5) 5 (by omega) HF1.out.2
    refine (HB2.out ()).mono ?_
    rintro e w2 ⟨hf, ⟨hq, rfl⟩ | ⟨hq, rfl, hu1⟩⟩
    · have HF : Hid (UF K w w2 ∧ r = (5, p, [], [])) := ⟨H0.out.2.1.trans ((HF1.out.1.trans hf).less H0.out.2.2.1), by rw [← HR.out]; unfold toldF; rw [if_pos (by omega)]⟩
      clear hf hq
      go_wp2
      exact ⟨rfl, told_bad HF.out.1 HF.out.2 (by decide)⟩
    · have HF2 : Hid (UF K1 W0 w2 ∧ US w2 K1 u b s (p + 10) l most v f1 f2) := ⟨HF1.out.1.trans hf, hu1⟩
      obtain ⟨D, hD⟩ : ∃ D, num s (p + 5) 5 = D := ⟨_, rfl⟩
      have hD32 : D < 32 := by rw [← hD]; exact num_lt s (p + 5) 5
      rw [hD]
      have HDD : Hid (num s (p + 5) 5 = D) := hD
      obtain ⟨DI, hDI⟩ : ∃ x, 1 + D = x := ⟨_, rfl⟩
      have hDIi : (1 : Int) + (D : Int) = (DI : Int) := by omega
      clear hf hu1 hD hq
      go_wp2_with fail
      have HB3 : Hid (∀ _ : Unit, Calls Tryd.prog 41 #[.pointer (some ⟨u, 0, none⟩), .int .i64 (4 : Nat)] w2 fun e w' => UF K1 w2 w' ∧ ((8 * s.size < p + 10 + 4 ∧ e = .panicked (gave 5)) ∨ (p + 10 + 4 ≤ 8 * s.size ∧ e = .returned (.int .i64 (num s (p + 10) 4 : Nat)) ∧ US w' K1 u b s (p + 14) l most v f1 f2))) := fun _ => HUN.out w2 (p + 10) 4 (by omega) HF2.out.2
      refine (HB3.out ()).mono ?_
      rintro e w3 ⟨hf, ⟨hq, rfl⟩ | ⟨hq, rfl, hu1⟩⟩
      · have HF : Hid (UF K w w3 ∧ r = (5, p, [], [])) := ⟨H0.out.2.1.trans ((HF2.out.1.trans hf).less H0.out.2.2.1), by rw [← HR.out]; unfold toldF; rw [if_pos (by omega)]⟩
        clear hf hq
        go_wp2
        exact ⟨rfl, told_bad HF.out.1 HF.out.2 (by decide)⟩
      · have HF3 : Hid (UF K1 W0 w3 ∧ US w3 K1 u b s (p + 14) l most v f1 f2) := ⟨HF2.out.1.trans hf, hu1⟩
        obtain ⟨C, hC⟩ : ∃ C, num s (p + 10) 4 = C := ⟨_, rfl⟩
        have hC16 : C < 16 := by rw [← hC]; exact num_lt s (p + 10) 4
        rw [hC]
        have HCC : Hid (num s (p + 10) 4 = C ∧ p + 14 ≤ 8 * s.size) := ⟨hC, hq⟩
        obtain ⟨FI, hFI⟩ : ∃ x, 4 + C = x := ⟨_, rfl⟩
        have hFIi : (4 : Int) + (C : Int) = (FI : Int) := by omega
        clear hf hu1 hC hq
        have HNM : Hid (257 + A = SY ∧ 1 + D = DI ∧ 4 + C = FI) := ⟨hSY, hDI, hFI⟩
        have hfi : FI ≤ 19 := by omega
        by_cases hA29 : A ≤ 29
        · by_cases hD29 : D ≤ 29
          · have e1 : (SY : Int) ≤ 286 := by omega
            have e2 : (DI : Int) ≤ 30 := by omega
            have e3 : decide ((DI : Int) ≤ 30) = true := by simp; omega
            have HFC := first_ok w3 K1 u b s (p + 14) l most v f1 f2 HF3.out.2 H0.out.2.2.2.1 (H0.out.2.2.2.2.1.keep H0.out.2.2.2.1 HF3.out.1) FI hfi
            have HFC : Hid (∀ _ : Unit, _) := fun _ => HFC
            clear hSY hDI hFI
            go_wp2_with fail
            refine (insist_ok w3).mono ?_
            rintro e w4 ⟨rfl, hw⟩
            obtain rfl := hw.symm
            clear hw
            go_wp2_with fail
            refine (HFC.out ()).mono ?_
            rintro e w4 ⟨hf, ⟨g1, rfl⟩ | ⟨g1, g2, rfl⟩ | ⟨g1, g2, K2, t, rfl, g3, g4, g5⟩⟩
            · have HE : Hid (UF K w w4 ∧ r = (5, p, [], [])) := ⟨H0.out.2.1.trans ((HF3.out.1.trans hf).less H0.out.2.2.1), by
                rw [← HR.out]; unfold toldF; rw [HAA.out, HDD.out, HCC.out.1, HNM.out.2.2, if_neg (by have := HCC.out.2; omega), if_neg (by omega), if_pos g1]⟩
              clear hf g1 HFC
              go_wp2
              exact ⟨rfl, told_bad HE.out.1 HE.out.2 (by decide)⟩
            · have HE : Hid (UF K w w4 ∧ r = (40, p, [], [])) := ⟨H0.out.2.1.trans ((HF3.out.1.trans hf).less H0.out.2.2.1), by
                rw [← HR.out]; unfold toldF; rw [HAA.out, HDD.out, HCC.out.1, HNM.out.2.2, if_neg (by have := HCC.out.2; omega), if_neg (by omega), if_neg (by omega), if_pos g2]⟩
              clear hf g1 g2 HFC
              go_wp2
              exact ⟨rfl, told_bad HE.out.1 HE.out.2 (by decide)⟩
            · obtain ⟨N, hN⟩ : ∃ N, SY + DI = N := ⟨_, rfl⟩
              have hNi : (SY : Int) + (DI : Int) = (N : Int) := by omega
              have HLE := lengths_ok w4 K2 u b s (p + 14 + 3 * FI) l most v f1 f2 g4 t _ g5 N (by omega)
              have HLE : Hid (∀ _ : Unit, _) := fun _ => HLE
              have HF4 : Hid (UF K1 W0 w4 ∧ (∀ k, K1 k → K2 k) ∧ r = toldE (toldL s p A D C) p A D) := ⟨HF3.out.1.trans hf, g3, by
                rw [← HR.out]; unfold toldF; rw [HAA.out, HDD.out, HCC.out.1, HNM.out.2.2, if_neg (by have := HCC.out.2; omega), if_neg (by omega), if_neg (by omega), if_neg (by rw [g2]; simp)]⟩
              clear hf g1 g2 g3 g4 g5 HFC hN
              go_wp2_with fail
              refine (HLE.out ()).mono ?_
              have hlr : lensF ((List.range 19).map (fcOf s (p + 14) FI)) s N (N + 1) (p + 14 + 3 * FI) [] = toldL s p A D C := by
                unfold toldL fcL
                rw [HNM.out.2.2, show 258 + A + D = N by have := HNM.out.1; have := HNM.out.2.1; omega]
              rw [hlr]
              obtain ⟨⟨le, lp, LL⟩, hlq⟩ : ∃ x, toldL s p A D C = x := ⟨_, rfl⟩
              have hsz := fun h0 => lensF_size (ns := (List.range 19).map (fcOf s (p + 14) FI)) (s := s) (n := N) (by simp) (N + 1) (p + 14 + 3 * FI) [] (Nat.zero_le _) h0
              have hl15 := lensF_len (ns := (List.range 19).map (fcOf s (p + 14) FI)) (s := s) (n := N) (by simp) (N + 1) (p + 14 + 3 * FI) [] (fun x hx => by simp at hx)
              rw [hlr, hlq] at hsz hl15
              rw [hlq]
              rintro e w5 ⟨hf, ⟨hq, rfl⟩ | ⟨h0, V, rfl, hrow, hu5⟩⟩
              · have HE : Hid (UF K w w5 ∧ r = (le, p, [], []) ∧ le ≠ 0) := ⟨H0.out.2.1.trans ((HF4.out.1.trans (hf.less HF4.out.2.1)).less H0.out.2.2.1), by
                  rw [HF4.out.2.2, hlq]; unfold toldE; rw [if_pos hq], hq⟩
                clear hf hq HLE hlr hlq hsz hl15
                go_wp2
                exact ⟨rfl, told_bad HE.out.1 HE.out.2.1 HE.out.2.2⟩
              · have h0 : le = 0 := h0
                subst h0
                have hLL : LL.length = N := (hsz rfl).1
                obtain ⟨g, cp, hV, hgB, _⟩ := hrow.form (by omega)
                subst hV
                have hcap : N ≤ cp := by
                  rcases hrow.2 with ⟨e, _⟩ | ⟨g', cap', cur, e, _, _, a, _⟩
                  · cases e
                  · cases e; exact a
                have hcells : ∀ i, i < N → w5.cell? ⟨g, i, none⟩ = some (.int .i64 (LL.getD i 0 : Nat)) := fun i hi => by
                  have hc := hrow.cells (g := g) rfl i (.int .i64 (LL.getD i 0 : Nat)) (by
                    unfold ics
                    have hi' : i < LL.length := by omega
                    rw [List.getElem?_map, List.getElem?_eq_getElem hi', List.getD_eq_getElem?_getD, List.getElem?_eq_getElem hi']; rfl)
                  rw [add_zero_addr] at hc
                  exact hc
                have HC5 : Hid ((∀ i, i < N → w5.cell? ⟨g, i, none⟩ = some (.int .i64 (LL.getD i 0 : Nat))) ∧ LL.length = N ∧ (∀ x ∈ LL, x ≤ 15) ∧ r = toldE (0, lp, LL) p A D ∧ UF K1 W0 w5 ∧ US w5 K2 u b s lp l most v f1 f2) := ⟨hcells, hLL, hl15, by rw [HF4.out.2.2, hlq], HF4.out.1.trans (hf.less HF4.out.2.1), hu5⟩
                have c256 := hcells 256 (by have := HNM.out.1; omega)
                have f1' : (SY : Int) ≤ (cp : Int) := by have := HNM.out.1; have := HNM.out.2.1; omega
                have f2' : (SY : Int) ≤ (N : Int) := by have := HNM.out.1; have := HNM.out.2.1; omega
                have f3' : (N : Int) ≤ (cp : Int) := by omega
                have f4' : ¬ cp = SY := by have := HNM.out.1; have := HNM.out.2.1; omega
                have f5' : (256 : Int) < (SY : Int) := by have := HNM.out.1; omega
                have f6' : 256 < SY := by omega
                clear hf hrow hu5 hcells hlr hlq hsz hl15 hLL HLE
                obtain ⟨Y, hY⟩ : ∃ y, LL.getD 256 0 = y := ⟨_, rfl⟩
                rw [hY] at c256
                have HY : Hid (LL.getD 256 0 = Y) := hY
                have hND : N - SY = DI := by omega
                clear hY
                go_wp2_with fail
                go_quiet (fail)
                obtain ⟨w6, hw6⟩ : ∃ x, w5.drewN nq = x := ⟨_, rfl⟩
                have H6 : Hid ((∀ i, i < N → w6.cell? ⟨g, i, none⟩ = some (.int .i64 (LL.getD i 0 : Nat))) ∧ UF K1 W0 w6 ∧ US w6 K2 u b s lp l most v f1 f2 ∧ g < w6.heap.size) := by
                  rw [← hw6]
                  obtain ⟨q1, q2, q3, q4, q5, q6⟩ := HC5.out
                  exact ⟨q1, q5.trans (UF.drewN _ _ nq), q6.drewN nq, lt_cell (q1 0 (by omega))⟩
                have c6 : w6.cell? ⟨g, 256, none⟩ = some (.int .i64 (Y : Nat)) := by rw [← hw6]; exact c256
                rw [hw6]
                clear hw6 c256
                have HI1 : Hid (IRow w6 (some ⟨g, 0, none⟩) (intsOf (LL.take SY)) ∧ (intsOf (LL.take SY)).length = SY) := by
                  have hl : (intsOf (LL.take SY)).length = SY := by simp [intsOf, HC5.out.2.1]; omega
                  refine ⟨.inr ⟨g, 0, rfl, H6.out.2.2.2, fun i hi => ?_⟩, hl⟩
                  rw [hl] at hi
                  rw [Nat.zero_add, H6.out.1 i (by omega), intsOf_get]
                  congr 3
                  rw [List.getD_eq_getElem?_getD, List.getD_eq_getElem?_getD, List.getElem?_take_of_lt hi]
                have HI2 : Hid (IRow w6 (some ⟨g, SY, none⟩) (intsOf (LL.drop SY)) ∧ (intsOf (LL.drop SY)).length = DI) := by
                  have hl : (intsOf (LL.drop SY)).length = DI := by simp [intsOf, HC5.out.2.1]; omega
                  refine ⟨.inr ⟨g, SY, rfl, H6.out.2.2.2, fun i hi => ?_⟩, hl⟩
                  rw [hl] at hi
                  rw [H6.out.1 (SY + i) (by omega), intsOf_get]
                  congr 3
                  rw [List.getD_eq_getElem?_getD, List.getD_eq_getElem?_getD, List.getElem?_drop]
                by_cases hY0 : Y = 0
                · have y1 : decide (0 < Y) = false := by simp; omega
                  have y2 : decide ((0 : Int) < (Y : Int)) = false := by simp; omega
                  have HE : Hid (r = (40, p, [], [])) := by
                    show _ = _
                    rw [HC5.out.2.2.2.1]; unfold toldE; rw [if_neg (by simp), if_pos (by rw [HY.out]; exact hY0)]
                  go_wp2_with fail
                  refine (insist_no w6).mono ?_
                  rintro e w7 ⟨rfl, hw⟩
                  obtain rfl := hw.symm
                  clear hw
                  go_wp2
                  exact ⟨rfl, told_bad (H0.out.2.1.trans (H6.out.2.1.less H0.out.2.2.1)) HE.out (by decide)⟩
                · have y1 : decide (0 < Y) = true := by simp; omega
                  have y2 : decide ((0 : Int) < (Y : Int)) = true := by simp; omega
                  have HW1 : Hid (∀ _ : Unit, Calls Tryd.prog 64 #[.slice (some ⟨g, 0, none⟩) SY cp] w6 fun e w' => e = .returned (.bool (wholeB (intsOf (LL.take SY)))) ∧ Below w6.heap.size w6 w') := fun _ => uwhole_ok _ _ cp SY w6 HI1.out.2 HI1.out.1 (by omega)
                  go_wp2_with fail
                  refine (insist_ok w6).mono ?_
                  rintro e w7 ⟨rfl, hw⟩
                  obtain rfl := hw.symm
                  clear hw
                  go_wp2_with fail
                  refine (HW1.out ()).mono ?_
                  rintro e w7 ⟨rfl, hb7⟩
                  have HB7 : Hid (Below w6.heap.size w6 w7) := hb7
                  obtain ⟨q1, hq1⟩ : ∃ q, wholeB (intsOf (LL.take SY)) = q := ⟨_, rfl⟩
                  rw [hq1]
                  have HQ1 : Hid (wholeB (intsOf (LL.take SY)) = q1) := hq1
                  clear hq1 hb7 HW1
                  cases q1
                  · have HE : Hid (r = (40, p, [], [])) := by
                      show _ = _
                      rw [HC5.out.2.2.2.1]; unfold toldE; rw [if_neg (by simp), if_neg (by rw [HY.out]; exact hY0), HNM.out.1, if_pos HQ1.out]
                    go_wp2_with fail
                    refine (insist_no w7).mono ?_
                    rintro e w8 ⟨rfl, hw⟩
                    obtain rfl := hw.symm
                    clear hw
                    go_wp2
                    exact ⟨rfl, told_bad ((H0.out.2.1.trans (H6.out.2.1.less H0.out.2.2.1)).trans (UF.below HB7.out (fun k a => H6.out.2.2.1.kb k (HF4.out.2.1 k (H0.out.2.2.1 k a))))) HE.out (by decide)⟩
                  · have HW2 : Hid (∀ _ : Unit, Calls Tryd.prog 64 #[.slice (some ⟨g, SY, none⟩) DI (cp - SY)] w7 fun e w' => e = .returned (.bool (wholeB (intsOf (LL.drop SY)))) ∧ Below w7.heap.size w7 w') := fun _ => uwhole_ok _ _ (cp - SY) DI w7 HI2.out.2 (HI2.out.1.below HB7.out) (by omega)
                    go_wp2_with fail
                    refine (insist_ok w7).mono ?_
                    rintro e w8 ⟨rfl, hw⟩
                    obtain rfl := hw.symm
                    clear hw
                    go_wp2_with fail
                    refine (HW2.out ()).mono ?_
                    rintro e w8 ⟨rfl, hb8⟩
                    have HB8 : Hid (Below w6.heap.size w6 w8) := HB7.out.trans (hb8.mono HB7.out.size)
                    obtain ⟨q2, hq2⟩ : ∃ q, wholeB (intsOf (LL.drop SY)) = q := ⟨_, rfl⟩
                    rw [hq2]
                    have HQ2 : Hid (wholeB (intsOf (LL.drop SY)) = q2) := hq2
                    clear hq2 hb8 HW2
                    have h15b : ∀ x ∈ LL.drop SY, x ≤ 15 := fun x hx => HC5.out.2.2.1 x (List.mem_of_mem_drop hx)
                    have H15 : Hid (∀ x ∈ LL.drop SY, x ≤ 15) := h15b
                    have hcode : ∀ {M : List Nat}, wholeB (intsOf M) = true → isCode0 (intsOf M) := fun {M} hw => by
                      unfold wholeB at hw
                      rw [Bool.and_eq_true] at hw
                      exact ⟨hw.1, by have := of_decide_eq_true hw.2; omega⟩
                    have HCD : Hid (∀ {M : List Nat}, wholeB (intsOf M) = true → isCode0 (intsOf M)) := hcode
                    clear h15b hcode
                    cases q2
                    · obtain ⟨cc, hcc⟩ : ∃ cc, (fun i => (LL.drop SY).getD i 0) = cc := ⟨_, rfl⟩
                      obtain ⟨SM, hSM⟩ : ∃ x, sumTo cc DI = x := ⟨_, rfl⟩
                      have hdl : (LL.drop SY).length = DI := by have := HI2.out.2; simpa [intsOf] using this
                      have HLO : Hid (∀ _ : Unit, Calls Tryd.prog 65 #[.slice (some ⟨g, SY, none⟩) DI (cp - SY)] w8 fun e w' => e = .returned (.bool (decide (SM ≤ 1))) ∧ w' = w8) := fun _ => by
                        rw [← hSM]
                        exact lone_ok g SY DI (cp - SY) cc (fun i => by
                          rw [← hcc]; show (LL.drop SY).getD i 0 ≤ 15
                          rw [List.getD_eq_getElem?_getD]
                          cases he : (LL.drop SY)[i]? with
                          | none => simp
                          | some z => exact H15.out z (List.mem_of_getElem? he)) w8 (by omega) (fun i hi => by
                          rw [HB8.out.cell H6.out.2.2.2, H6.out.1 (SY + i) (by omega), ← hcc]
                          simp [List.getElem?_drop])
                      have HREL : Hid ((1 < SM → r = (40, p, [], [])) ∧ (SM ≤ 1 → r = (0, lp, LL.take SY, LL.drop SY)) ∧ (SM ≤ 1 → isCode0 (intsOf (LL.drop SY)))) := by
                        refine ⟨fun hs => ?_, fun hs => ?_, fun hs => ⟨may_ints H15.out (by omega), by rw [nsOf_ints]; exact lone_code H15.out (by rw [hdl, hcc, hSM]; exact hs)⟩⟩
                        · rw [HC5.out.2.2.2.1]; unfold toldE; rw [if_neg (by simp), if_neg (by rw [HY.out]; exact hY0), HNM.out.1, HNM.out.2.1, if_neg (by rw [HQ1.out]; simp), if_pos ⟨HQ2.out, by show 1 < sumTo (fun i => (LL.drop SY).getD i 0) DI; rw [hcc, hSM]; exact hs⟩]
                        · rw [HC5.out.2.2.2.1]; unfold toldE; rw [if_neg (by simp), if_neg (by rw [HY.out]; exact hY0), HNM.out.1, HNM.out.2.1, if_neg (by rw [HQ1.out]; simp), if_neg (fun h => by have h2 : 1 < sumTo (fun i => (LL.drop SY).getD i 0) DI := h.2; rw [hcc, hSM] at h2; omega)]
                      clear hcc hSM hdl
                      by_cases hsm : SM ≤ 1
                      rotate_left
                      · have hsd : decide (SM ≤ 1) = false := by simp; omega
                        rw [hsd] at HLO
                        have HE : Hid (r = (40, p, [], [])) := HREL.out.1 (by omega)
                        go_wp2_with fail
                        refine (HLO.out ()).mono ?_
                        rintro e wz ⟨rfl, hw⟩
                        obtain rfl := hw.symm
                        clear hw HLO
                        go_wp2_with fail
                        refine (insist_no w8).mono ?_
                        rintro e w9 ⟨rfl, hw⟩
                        obtain rfl := hw.symm
                        clear hw
                        go_wp2
                        exact ⟨rfl, told_bad ((H0.out.2.1.trans (H6.out.2.1.less H0.out.2.2.1)).trans (UF.below HB8.out (fun k a => H6.out.2.2.1.kb k (HF4.out.2.1 k (H0.out.2.2.1 k a))))) HE.out (by decide)⟩
                      · have hsd : decide (SM ≤ 1) = true := by simp; omega
                        rw [hsd] at HLO
                        have HCO : Hid (isCode0 (intsOf (LL.take SY)) ∧ isCode0 (intsOf (LL.drop SY))) := ⟨HCD.out HQ1.out, HREL.out.2.2 hsm⟩
                        have HRE : Hid (r = (0, lp, LL.take SY, LL.drop SY)) := HREL.out.2.1 hsm
                        go_wp2_with fail
                        refine (HLO.out ()).mono ?_
                        rintro e wz ⟨rfl, hw⟩
                        obtain rfl := hw.symm
                        clear hw HLO
                        have HTO1 : Hid (∀ _ : Unit, Calls Tryd.prog 59 #[.slice (some ⟨g, 0, none⟩) SY cp] w8 fun e w' => ∃ t R, e = .returned (.pointer (some ⟨t, 0, none⟩)) ∧ Tab w' w8.heap.size w'.heap.size t (LL.take SY) R ∧ Below w8.heap.size w8 w') := fun _ => by
                          have := tableOf_ok (intsOf (LL.take SY)) (some ⟨g, 0, none⟩) cp SY w8 HI1.out.2 (HI1.out.1.below HB8.out) (by omega) HCO.out.1
                          rw [nsOf_ints] at this; exact this
                        have HTO2 : Hid (∀ W, Below w6.heap.size w6 W → Calls Tryd.prog 59 #[.slice (some ⟨g, SY, none⟩) DI (cp - SY)] W fun e w' => ∃ t R, e = .returned (.pointer (some ⟨t, 0, none⟩)) ∧ Tab w' W.heap.size w'.heap.size t (LL.drop SY) R ∧ Below W.heap.size W w') := fun W hW => by
                          have := tableOf_ok (intsOf (LL.drop SY)) (some ⟨g, SY, none⟩) (cp - SY) DI W HI2.out.2 (HI2.out.1.below hW) (by omega) HCO.out.2
                          rw [nsOf_ints] at this; exact this
                        go_wp2_with fail
                        refine (insist_ok w8).mono ?_
                        rintro e w9 ⟨rfl, hw⟩
                        obtain rfl := hw.symm
                        clear hw
                        go_wp2_with fail
                        refine (HTO1.out ()).mono ?_
                        rintro e w9 ⟨ta, Ra, rfl, ha1, ha2⟩
                        have HA9 : Hid (Tab w9 w8.heap.size w9.heap.size ta (LL.take SY) Ra ∧ Below w8.heap.size w8 w9 ∧ Below w6.heap.size w6 w9) := ⟨ha1, ha2, HB8.out.trans (ha2.mono HB8.out.size)⟩
                        have HTO3 : Hid (∀ _ : Unit, _) := fun _ => HTO2.out w9 HA9.out.2.2
                        clear ha1 ha2 HTO1 HTO2
                        go_wp2_with fail
                        refine (HTO3.out ()).mono ?_
                        rintro e w10 ⟨tb, Rb, rfl, hb1, hb2⟩
                        have hs8 := HB8.out.size
                        have hs9 := HA9.out.2.1.size
                        have hs10 := hb2.size
                        have hbel : Below w6.heap.size w6 w10 := HA9.out.2.2.trans (hb2.mono (by omega))
                        have hW6 : w.heap.size < w6.heap.size := H6.out.2.2.1.kb _ (HF4.out.2.1 _ H0.out.2.2.2.2.2.1)
                        have hblk : w10.heap[w.heap.size]? = some (.cells #[.pointer none, .pointer none] 49) := by
                          rw [hbel.block _ hW6, H6.out.2.1.block _ H0.out.2.2.2.2.2.1, H0.out.2.2.2.2.2.2.1, hoo]
                        have b0 : w10.cell? ⟨w.heap.size, 0, none⟩ = some (.pointer none) := by simp [World.cell?, hblk]
                        have b1 : w10.cell? ⟨w.heap.size, 1, none⟩ = some (.pointer none) := by simp [World.cell?, hblk]
                        have z0 : w10.frozen? ⟨w.heap.size, 0, none⟩ = false := by simp [World.frozen?, hblk]
                        have z1 : w10.frozen? ⟨w.heap.size, 1, none⟩ = false := by simp [World.frozen?, hblk]
                        have HEND : Hid (ToldEnd K u b s l most v f1 f2 w r (.returned (.agg #[.pointer (some ⟨ta, 0, none⟩), .pointer (some ⟨tb, 0, none⟩)])) ((w10.setCell ⟨w.heap.size, 0, none⟩ (.pointer (some ⟨ta, 0, none⟩))).setCell ⟨w.heap.size, 1, none⟩ (.pointer (some ⟨tb, 0, none⟩)))) := by
                          have hon : Only w.heap.size w10 ((w10.setCell ⟨w.heap.size, 0, none⟩ (.pointer (some ⟨ta, 0, none⟩))).setCell ⟨w.heap.size, 1, none⟩ (.pointer (some ⟨tb, 0, none⟩))) := (Only.setCell _ 0 w10 _).trans (Only.setCell _ 1 _ _)
                          have hu6 : US w6 K u b s lp l most v f1 f2 := H6.out.2.2.1.less (fun k a => HF4.out.2.1 k (H0.out.2.2.1 k a))
                          have hu10 := hu6.newer hbel
                          have hnK : ¬ KX K w6.heap.size w10.heap.size w.heap.size := by
                            rintro (a | a)
                            · have := H0.out.2.2.2.2.2.2.2 _ a; omega
                            · omega
                          have huw : u ≠ w.heap.size := fun e => by have := hu10.blk; rw [e, hblk] at this; cases this
                          have hu11 := hu10.beside hblk (by decide) (by decide) huw hon
                          have hblo : ∀ k, w6.heap.size ≤ k → k < w10.heap.size → ((w10.setCell ⟨w.heap.size, 0, none⟩ (.pointer (some ⟨ta, 0, none⟩))).setCell ⟨w.heap.size, 1, none⟩ (.pointer (some ⟨tb, 0, none⟩))).heap[k]? = w10.heap[k]? := fun k a c => hon.block k c (by omega)
                          have hK10 : ∀ k, K k → k < w10.heap.size := fun k a => hu10.kb k (.inl a)
                          refine ⟨(H0.out.2.1.trans (H6.out.2.1.less H0.out.2.2.1)).trans ((UF.below hbel hu6.kb).trans (UF.only hon hK10 (fun a => hnK (.inl a)))), .inr ?_⟩
                          rw [HRE.out]
                          refine ⟨rfl, KX K w6.heap.size w10.heap.size, ta, tb, rfl, KX.in, hu11, ?_, ?_⟩
                          · exact ⟨w8.heap.size, w9.heap.size, Ra, (HA9.out.1.keep (fun k _ c => hb2.block k c)).keep (fun k a c => hblo k (by omega) (by omega)), fun k a c => .inr ⟨by omega, by omega⟩, by have := HI1.out.2; simp [intsOf] at this; have := HNM.out.1; rw [List.length_take]; omega, by have := HCO.out.1.2; rw [nsOf_ints] at this; exact this⟩
                          · exact ⟨w9.heap.size, w10.heap.size, Rb, hb1.keep (fun k a c => hblo k (by omega) c), fun k a c => .inr ⟨by omega, c⟩, by rw [List.length_drop]; have := HC5.out.2.1; omega, by have := HCO.out.2.2; rw [nsOf_ints] at this; exact this⟩
                        clear hb1 hb2 hs8 hs9 hs10 hbel hW6 hblk HTO3
                        go_wp2_with fail
                        refine bodyPost_ret (v := .agg #[.pointer (some ⟨ta, 0, none⟩), .pointer (some ⟨tb, 0, none⟩)]) ?_ rfl ?_
                        · rw [results_cell rfl]
                          go_simp
                        exact HEND.out
                    · have HCO : Hid (isCode0 (intsOf (LL.take SY)) ∧ isCode0 (intsOf (LL.drop SY))) := ⟨HCD.out HQ1.out, HCD.out HQ2.out⟩
                      have HRE : Hid (r = (0, lp, LL.take SY, LL.drop SY)) := by
                        show _ = _
                        rw [HC5.out.2.2.2.1]; unfold toldE; rw [if_neg (by simp), if_neg (by rw [HY.out]; exact hY0), HNM.out.1, HNM.out.2.1, if_neg (by rw [HQ1.out]; simp), if_neg (fun h => by rw [HQ2.out] at h; simp at h)]
                      have HTO1 : Hid (∀ _ : Unit, Calls Tryd.prog 59 #[.slice (some ⟨g, 0, none⟩) SY cp] w8 fun e w' => ∃ t R, e = .returned (.pointer (some ⟨t, 0, none⟩)) ∧ Tab w' w8.heap.size w'.heap.size t (LL.take SY) R ∧ Below w8.heap.size w8 w') := fun _ => by
                        have := tableOf_ok (intsOf (LL.take SY)) (some ⟨g, 0, none⟩) cp SY w8 HI1.out.2 (HI1.out.1.below HB8.out) (by omega) HCO.out.1
                        rw [nsOf_ints] at this; exact this
                      have HTO2 : Hid (∀ W, Below w6.heap.size w6 W → Calls Tryd.prog 59 #[.slice (some ⟨g, SY, none⟩) DI (cp - SY)] W fun e w' => ∃ t R, e = .returned (.pointer (some ⟨t, 0, none⟩)) ∧ Tab w' W.heap.size w'.heap.size t (LL.drop SY) R ∧ Below W.heap.size W w') := fun W hW => by
                        have := tableOf_ok (intsOf (LL.drop SY)) (some ⟨g, SY, none⟩) (cp - SY) DI W HI2.out.2 (HI2.out.1.below hW) (by omega) HCO.out.2
                        rw [nsOf_ints] at this; exact this
                      go_wp2_with fail
                      refine (insist_ok w8).mono ?_
                      rintro e w9 ⟨rfl, hw⟩
                      obtain rfl := hw.symm
                      clear hw
                      go_wp2_with fail
                      refine (HTO1.out ()).mono ?_
                      rintro e w9 ⟨ta, Ra, rfl, ha1, ha2⟩
                      have HA9 : Hid (Tab w9 w8.heap.size w9.heap.size ta (LL.take SY) Ra ∧ Below w8.heap.size w8 w9 ∧ Below w6.heap.size w6 w9) := ⟨ha1, ha2, HB8.out.trans (ha2.mono HB8.out.size)⟩
                      have HTO3 : Hid (∀ _ : Unit, _) := fun _ => HTO2.out w9 HA9.out.2.2
                      clear ha1 ha2 HTO1 HTO2
                      go_wp2_with fail
                      refine (HTO3.out ()).mono ?_
                      rintro e w10 ⟨tb, Rb, rfl, hb1, hb2⟩
                      have hs8 := HB8.out.size
                      have hs9 := HA9.out.2.1.size
                      have hs10 := hb2.size
                      have hbel : Below w6.heap.size w6 w10 := HA9.out.2.2.trans (hb2.mono (by omega))
                      have hW6 : w.heap.size < w6.heap.size := H6.out.2.2.1.kb _ (HF4.out.2.1 _ H0.out.2.2.2.2.2.1)
                      have hblk : w10.heap[w.heap.size]? = some (.cells #[.pointer none, .pointer none] 49) := by
                        rw [hbel.block _ hW6, H6.out.2.1.block _ H0.out.2.2.2.2.2.1, H0.out.2.2.2.2.2.2.1, hoo]
                      have b0 : w10.cell? ⟨w.heap.size, 0, none⟩ = some (.pointer none) := by simp [World.cell?, hblk]
                      have b1 : w10.cell? ⟨w.heap.size, 1, none⟩ = some (.pointer none) := by simp [World.cell?, hblk]
                      have z0 : w10.frozen? ⟨w.heap.size, 0, none⟩ = false := by simp [World.frozen?, hblk]
                      have z1 : w10.frozen? ⟨w.heap.size, 1, none⟩ = false := by simp [World.frozen?, hblk]
                      have HEND : Hid (ToldEnd K u b s l most v f1 f2 w r (.returned (.agg #[.pointer (some ⟨ta, 0, none⟩), .pointer (some ⟨tb, 0, none⟩)])) ((w10.setCell ⟨w.heap.size, 0, none⟩ (.pointer (some ⟨ta, 0, none⟩))).setCell ⟨w.heap.size, 1, none⟩ (.pointer (some ⟨tb, 0, none⟩)))) := by
                        have hon : Only w.heap.size w10 ((w10.setCell ⟨w.heap.size, 0, none⟩ (.pointer (some ⟨ta, 0, none⟩))).setCell ⟨w.heap.size, 1, none⟩ (.pointer (some ⟨tb, 0, none⟩))) := (Only.setCell _ 0 w10 _).trans (Only.setCell _ 1 _ _)
                        have hu6 : US w6 K u b s lp l most v f1 f2 := H6.out.2.2.1.less (fun k a => HF4.out.2.1 k (H0.out.2.2.1 k a))
                        have hu10 := hu6.newer hbel
                        have hnK : ¬ KX K w6.heap.size w10.heap.size w.heap.size := by
                          rintro (a | a)
                          · have := H0.out.2.2.2.2.2.2.2 _ a; omega
                          · omega
                        have huw : u ≠ w.heap.size := fun e => by have := hu10.blk; rw [e, hblk] at this; cases this
                        have hu11 := hu10.beside hblk (by decide) (by decide) huw hon
                        have hblo : ∀ k, w6.heap.size ≤ k → k < w10.heap.size → ((w10.setCell ⟨w.heap.size, 0, none⟩ (.pointer (some ⟨ta, 0, none⟩))).setCell ⟨w.heap.size, 1, none⟩ (.pointer (some ⟨tb, 0, none⟩))).heap[k]? = w10.heap[k]? := fun k a c => hon.block k c (by omega)
                        have hK10 : ∀ k, K k → k < w10.heap.size := fun k a => hu10.kb k (.inl a)
                        refine ⟨(H0.out.2.1.trans (H6.out.2.1.less H0.out.2.2.1)).trans ((UF.below hbel hu6.kb).trans (UF.only hon hK10 (fun a => hnK (.inl a)))), .inr ?_⟩
                        rw [HRE.out]
                        refine ⟨rfl, KX K w6.heap.size w10.heap.size, ta, tb, rfl, KX.in, hu11, ?_, ?_⟩
                        · exact ⟨w8.heap.size, w9.heap.size, Ra, (HA9.out.1.keep (fun k _ c => hb2.block k c)).keep (fun k a c => hblo k (by omega) (by omega)), fun k a c => .inr ⟨by omega, by omega⟩, by have := HI1.out.2; simp [intsOf] at this; have := HNM.out.1; rw [List.length_take]; omega, by have := HCO.out.1.2; rw [nsOf_ints] at this; exact this⟩
                        · exact ⟨w9.heap.size, w10.heap.size, Rb, hb1.keep (fun k a c => hblo k (by omega) c), fun k a c => .inr ⟨by omega, c⟩, by rw [List.length_drop]; have := HC5.out.2.1; omega, by have := HCO.out.2.2; rw [nsOf_ints] at this; exact this⟩
                      clear hb1 hb2 hs8 hs9 hs10 hbel hW6 hblk HTO3
                      go_wp2_with fail
                      refine bodyPost_ret (v := .agg #[.pointer (some ⟨ta, 0, none⟩), .pointer (some ⟨tb, 0, none⟩)]) ?_ rfl ?_
                      · rw [results_cell rfl]
                        go_simp
                      exact HEND.out
          · have e1 : (SY : Int) ≤ 286 := by omega
            have e2 : ¬ (DI : Int) ≤ 30 := by omega
            have e3 : decide ((DI : Int) ≤ 30) = false := by simp; omega
            have HE : Hid (r = (40, p, [], [])) := by
              show _ = _
              rw [← HR.out]; unfold toldF; rw [HAA.out, HDD.out, if_neg (by have := HCC.out.2; omega), if_pos (by omega)]
            clear hSY hDI hFI
            go_wp2_with fail
            refine (insist_no w3).mono ?_
            rintro e w4 ⟨rfl, hw⟩
            obtain rfl := hw.symm
            clear hw
            go_wp2
            exact ⟨rfl, told_bad (H0.out.2.1.trans (HF3.out.1.less H0.out.2.2.1)) HE.out (by decide)⟩
        · have e1 : ¬ (SY : Int) ≤ 286 := by omega
          have HE : Hid (r = (40, p, [], [])) := by
            show _ = _
            rw [← HR.out]; unfold toldF; rw [HAA.out, HDD.out, if_neg (by have := HCC.out.2; omega), if_pos (by omega)]
          clear hSY hDI hFI
          go_wp2_with fail
          refine (insist_no w3).mono ?_
          rintro e w4 ⟨rfl, hw⟩
          obtain rfl := hw.symm
          clear hw
          go_wp2
          exact ⟨rfl, told_bad (H0.out.2.1.trans (HF3.out.1.less H0.out.2.2.1)) HE.out (by decide)⟩
end Go.Proofs.YtchjnfckcfikkaaDoor
namespace Go.Proofs.YtchjnfckcfikkaaDoor
open Go.RowKit
set_option linter.unusedVariables false

theorem toldF_ok (s : ByteArray) : ToldOK (toldF s) s := by
  intro p hp h
  unfold toldF at h ⊢
  by_cases a1 : 8 * s.size < p + 14
  · rw [if_pos a1] at h; simp at h
  · rw [if_neg a1] at h ⊢
    by_cases a2 : 29 < num s p 5 ∨ 29 < num s (p + 5) 5
    · rw [if_pos a2] at h; simp at h
    · rw [if_neg a2] at h ⊢
      by_cases a3 : 8 * s.size < p + 14 + 3 * (4 + num s (p + 10) 4)
      · rw [if_pos a3] at h; simp at h
      · rw [if_neg a3] at h ⊢
        split at h
        · simp at h
        · rename_i a4
          rw [if_neg a4]
          have hsz := lensF_size (ns := fcL s (p + 14) (4 + num s (p + 10) 4)) (s := s) (n := 258 + num s p 5 + num s (p + 5) 5) (by simp [fcL]) (258 + num s p 5 + num s (p + 5) 5 + 1) (p + 14 + 3 * (4 + num s (p + 10) 4)) [] (Nat.zero_le _)
          have e : lensF (fcL s (p + 14) (4 + num s (p + 10) 4)) s (258 + num s p 5 + num s (p + 5) 5) (258 + num s p 5 + num s (p + 5) 5 + 1) (p + 14 + 3 * (4 + num s (p + 10) 4)) [] = toldL s p (num s p 5) (num s (p + 5) 5) (num s (p + 10) 4) := rfl
          rw [e] at hsz
          obtain ⟨⟨le, lp, LL⟩, hl⟩ : ∃ x, toldL s p (num s p 5) (num s (p + 5) 5) (num s (p + 10) 4) = x := ⟨_, rfl⟩
          rw [hl] at h hsz ⊢
          obtain ⟨A, hA⟩ : ∃ A, num s p 5 = A := ⟨_, rfl⟩
          obtain ⟨D, hD⟩ : ∃ D, num s (p + 5) 5 = D := ⟨_, rfl⟩
          rw [hA, hD] at h a2 hsz ⊢
          unfold toldE at h ⊢
          by_cases b1 : le ≠ 0
          · rw [if_pos b1] at h; exact (b1 h).elim
          · rw [if_neg b1] at h ⊢
            obtain ⟨c1, c2, c3⟩ := hsz (by show le = 0; omega)
            have c1 : LL.length = 258 + A + D := c1
            have c2 : p + 14 + 3 * (4 + num s (p + 10) 4) ≤ lp := c2
            have c3 : lp ≤ 8 * s.size := c3 (by omega)
            split at h
            · simp at h
            · rename_i b2
              rw [if_neg b2]
              split at h
              · simp at h
              · rename_i b3
                rw [if_neg b3]
                split at h
                · simp at h
                · rename_i b4
                  rw [if_neg b4]
                  refine ⟨by show p ≤ lp; omega, c3, ?_, ?_⟩
                  · show (LL.take (257 + A)).length ≤ 288; rw [List.length_take]; omega
                  · show (LL.drop (257 + A)).length ≤ 288; rw [List.length_drop]; omega
/-- What Inflate answers, as a plain function. -/
def infF (s : ByteArray) (most : Nat) : Nat × Nat × List Nat := blocksF (toldF s) s most (8 * s.size + 1) 0 []
theorem inflate_all (s : ByteArray) (most : Nat) (w : World) (hm : most ≤ 1048576) (hs : s.size ≤ 281474976710656) (ho : OrdAt w) :
    Calls Tryd.prog 10 #[.string s, .int .i64 most] w fun e w' => e = .returned (infR (infF s most)) ∧ Below w.heap.size w w' := by
  have h0 : 0 < w.heap.size := lt_cell (ho 0 (by omega))
  refine (inflate_ok (toldF s) (fun _ _ => True) (fun k => k < w.heap.size) s most w hm hs (toldF_ok s) trivial (fun k hk => hk) (fun _ _ _ _ _ _ _ => trivial) (fun p l _ _ W K' u b v f1 f2 hk hf hu => told_ok W K' u b s (p + 3) l most v f1 f2 hu (hk 0 h0) (ho.keep h0 hf))).mono fun e w' h => ⟨h.1, h.2.toBelow⟩
end Go.Proofs.YtchjnfckcfikkaaDoor
