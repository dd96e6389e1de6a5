/- The document's reader: ends, symbol, none. -/
/- The document's reader: none; one byte more. -/
/- The document's times: so many numbers appended. -/
/- The document's reader: Full, made, the fixed codes. -/
import Derived.Test.YtlbadjfcffoakaaDoorV27
import Derived.Test.YtlbadjfcffoakaaDoorV17
namespace Go.Proofs.YtlbadjfcffoakaaDoor
open Go.RowKit
set_option linter.unusedVariables false
set_option maxRecDepth 20000

variable {w w' : World} {K : Nat → Prop} {r : Nat} {s : ByteArray} {p : Nat} {l : List Nat} {most e : Nat} {v : Value}
theorem IRow.uf {a : Option Addr} {xs : List Int} (h : IRow w a xs) (hk : ∀ b o, a = some ⟨b, o, none⟩ → K b) (hf : UF K w w') : IRow w' a xs := by
  rcases h with rfl | ⟨b, off, rfl, hlt, h⟩
  · exact .inl rfl
  · refine .inr ⟨b, off, rfl, Nat.lt_of_lt_of_le hlt hf.size, fun i hi => ?_⟩
    rw [← h i hi]
    simp only [World.cell?, hf.block b (hk b off rfl)]
def CodeAt (w : World) (K : Nat → Prop) (cv : Value) (ns : List Nat) : Prop :=
  ∃ a ca c cc, cv = .agg #[.slice a ns.length ca, .slice c ns.length cc] ∧ IRow w a (inN ns) ∧ IRow w c (inN (cwL ns)) ∧ (∀ b o, a = some ⟨b, o, none⟩ → K b) ∧ (∀ b o, c = some ⟨b, o, none⟩ → K b) ∧ ns.length ≤ 288 ∧ (∀ i, ns.getD i 0 ≤ 15) ∧ (∀ i, i < ns.length → cw ns i ≤ 32768)
theorem CodeAt.uf {cv : Value} {ns : List Nat} (h : CodeAt w K cv ns) (hf : UF K w w') : CodeAt w' K cv ns := by
  obtain ⟨a, ca, c, cc, h1, h2, h3, h4, h5, h6⟩ := h
  exact ⟨a, ca, c, cc, h1, h2.uf h4 hf, h3.uf h5 hf, h4, h5, h6⟩
theorem CodeAt.more {K' : Nat → Prop} {cv : Value} {ns : List Nat} (h : CodeAt w K cv ns) (hk : ∀ k, K k → K' k) : CodeAt w K' cv ns := by
  obtain ⟨a, ca, c, cc, h1, h2, h3, h4, h5, h6⟩ := h
  exact ⟨a, ca, c, cc, h1, h2, h3, fun b o e => hk b (h4 b o e), fun b o e => hk b (h5 b o e), h6⟩
theorem rends_ok (h : RR w K r s p l most e v) (x : Nat) (hx : x ≤ 1000) :
    Calls Tryd.prog 18 #[.pointer (some ⟨r, 0, none⟩), .int .i64 x] w fun en w' => en = .returned (.tuple #[]) ∧ RR w' K r s p l most (if e = 0 then x else e) v ∧ UF K w w' := by
  have H : Hid (RR w K r s p l most e v) := h
  obtain ⟨c0, c1, c2, c3, c4⟩ := h.cells
  have f4 := h.free 4 (by omega)
  by_cases he : e = 0
  · subst he
    rw [if_pos rfl]
    clear h
    go_enter Tryd.func18, Tryd.ntmps18
    go_wp2
    go_end0
    exact ⟨rfl, H.out.setE x, H.out.uf_set 4 _⟩
  · rw [if_neg he]
    have hei : ¬ (e : Int) = 0 := by omega
    have heb : ((e : Int) == 0) = false := by simpa using he
    clear h
    go_enter Tryd.func18, Tryd.ntmps18
    go_wp2
    go_end0
    exact ⟨rfl, H.out, UF.refl _ _⟩
def rsF (ns : List Nat) (s : ByteArray) (p e : Nat) : Nat × Nat × Nat := if e ≠ 0 then (e, p, 0) else
  if (rsS ns s p 15 0 0).2.2 = 0 then (0, (rsS ns s p 15 0 0).2.1, (rsS ns s p 15 0 0).1) else (if (rsS ns s p 15 0 0).2.2 = 30 then 40 else (rsS ns s p 15 0 0).2.2, p, 0)
theorem rsS_shape (ns : List Nat) (s : ByteArray) (p : Nat) (hn : ns.length ≤ 288) : ∀ (k l x : Nat), p + l ≤ 8 * s.size → (rsS ns s p k l x = (0, 0, 30) ∨ rsS ns s p k l x = (0, 0, 5) ∨ ∃ y q, rsS ns s p k l x = (y, q, 0) ∧ y < 288 ∧ p < q ∧ q ≤ 8 * s.size)
  | 0, l, x, h => .inl rfl
  | k + 1, l, x, h => by
    simp only [rsS]
    by_cases a1 : 8 * s.size ≤ p + l
    · rw [if_pos a1]; exact .inr (.inl rfl)
    · rw [if_neg a1]
      obtain ⟨y, hy⟩ : ∃ y, 2 * x + bitAt s (p + l) = y := ⟨_, rfl⟩
      rw [hy]
      by_cases a2 : y < ew ns (l + 1)
      · rw [if_pos a2]; exact .inr (.inr ⟨_, _, rfl, symW_le ns _ _ hn, by omega, by omega⟩)
      · rw [if_neg a2]
        by_cases a3 : ew ns 15 ≤ y * 2 ^ (15 - (l + 1))
        · rw [if_pos a3]; exact .inl rfl
        · rw [if_neg a3]; exact rsS_shape ns s p hn k (l + 1) y (by omega)
theorem RR.alloc (h : RR w K r s p l most e v) (o : Obj) : RR (w.alloc o) K r s p l most e v := h.below ((Below.refl _ _).alloc (Nat.le_refl _) _)
theorem RR.uf_alloc (h : RR w K r s p l most e v) (o : Obj) : UF K w (w.alloc o) := h.uf ((Below.refl _ _).alloc (Nat.le_refl _) _)
set_option maxRecDepth 20000 in
set_option maxHeartbeats 4000000 in
theorem rsymbol_ok (h : RR w K r s p l most e v) (cv : Value) (ns : List Nat) (hc : CodeAt w K cv ns) :
    Calls Tryd.prog 31 #[.pointer (some ⟨r, 0, none⟩), cv] w fun en w' => RNum K r s l most v w (rsF ns s p e) en w' := by
  obtain ⟨x, hx⟩ : ∃ x, rsF ns s p e = x := ⟨_, rfl⟩
  rw [hx]
  unfold rsF at hx
  have hpl := h.le
  have hs := h.small
  have hc' := hc
  obtain ⟨a, ca, c, cc, rfl, r1, r2, k1, k2, hn, h15, hcb⟩ := hc'
  obtain ⟨N, hN⟩ : ∃ N, ns.length = N := ⟨_, rfl⟩
  rw [hN] at hn ⊢
  have ha := h.alloc (.cells #[.slice a N ca, .slice c N cc] 43)
  have hua := h.uf_alloc (.cells #[.slice a N ca, .slice c N cc] 43)
  have n0 : (w.alloc (.cells #[.slice a N ca, .slice c N cc] 43)).cell? ⟨w.heap.size, 0, none⟩ = some (.slice a N ca) := by simp
  have n1 : (w.alloc (.cells #[.slice a N ca, .slice c N cc] 43)).cell? ⟨w.heap.size, 1, none⟩ = some (.slice c N cc) := by simp
  have q1 := r1.uf k1 hua
  have q2 := r2.uf k2 hua
  obtain ⟨c0, c1, c2, c3, c4⟩ := ha.cells
  have f1 := ha.free 1 (by omega)
  have f4 := ha.free 4 (by omega)
  have H : Hid (RR (w.alloc (.cells #[.slice a N ca, .slice c N cc] 43)) K r s p l most e v ∧ UF K w (w.alloc (.cells #[.slice a N ca, .slice c N cc] 43))) := ⟨ha, hua⟩
  by_cases he : e = 0
  · subst he
    rw [if_neg (by simp)] at hx
    have HS := rsym_ok ns N a c ca cc s p (w.alloc (.cells #[.slice a N ca, .slice c N cc] 43)).drew hN hn h15 hcb q1 q2 hpl hs
    have HSH := rsS_shape ns s p (by omega) 15 0 0 (by omega)
    obtain ⟨res, hres⟩ : ∃ res, rsS ns s p 15 0 0 = res := ⟨_, rfl⟩
    rw [hres] at hx HS HSH
    rcases HSH with rfl | rfl | ⟨y, q, rfl, hy, hq1, hq2⟩
    · have HX : Hid (x = (40, p, 0)) := hx.symm
      have HC : Hid (∀ _ : Unit, Calls Tryd.prog 52 #[.slice a N ca, .slice c N cc, .string s, .int .i64 (p : Nat)] (w.alloc (.cells #[.slice a N ca, .slice c N cc] 43)).drew fun e w' => e = .returned (.tuple #[.int .i64 0, .int .i64 0, .int .i64 30]) ∧ Below (w.alloc (.cells #[.slice a N ca, .slice c N cc] 43)).drew.heap.size (w.alloc (.cells #[.slice a N ca, .slice c N cc] 43)).drew w') := fun _ => HS
      have HV : Hid (∀ w1, Below (w.alloc (.cells #[.slice a N ca, .slice c N cc] 43)).drew.heap.size (w.alloc (.cells #[.slice a N ca, .slice c N cc] 43)).drew w1 → (RR w1 K r s p l most 0 v ∧ UF K w w1) ∧ w1.cell? ⟨w.heap.size, 0, none⟩ = some (.slice a N ca) ∧ w1.cell? ⟨w.heap.size, 1, none⟩ = some (.slice c N cc) ∧ w1.cell? ⟨r, 0, none⟩ = some (.string s) ∧ w1.cell? ⟨r, 1, none⟩ = some (.int .i64 (p : Nat))) := fun w1 hw => ⟨⟨(ha.drewN 1).below hw, (hua.trans (UF.drewN _ _ 1)).trans ((ha.drewN 1).uf hw)⟩, by rw [hw.cell (by simp [World.drew])]; exact n0, by rw [hw.cell (by simp [World.drew])]; exact n1, ((ha.drewN 1).below hw).cells.1, ((ha.drewN 1).below hw).cells.2.1⟩
      have HS0 : Hid ((w.alloc (.cells #[.slice a N ca, .slice c N cc] 43)).drew.cell? ⟨w.heap.size, 0, none⟩ = some (.slice a N ca) ∧ (w.alloc (.cells #[.slice a N ca, .slice c N cc] 43)).drew.cell? ⟨w.heap.size, 1, none⟩ = some (.slice c N cc) ∧ (w.alloc (.cells #[.slice a N ca, .slice c N cc] 43)).drew.cell? ⟨r, 0, none⟩ = some (.string s) ∧ (w.alloc (.cells #[.slice a N ca, .slice c N cc] 43)).drew.cell? ⟨r, 1, none⟩ = some (.int .i64 (p : Nat))) := (HV.out _ (Below.refl _ _)).2
      clear hx h hres HS ha hua r1 r2 q1 q2 hc k1 k2 h15 hcb
      go_enter Tryd.func31, Tryd.ntmps31
      go_wp2_with fail
      go_region_held_law (fun w' => w'.cell? ⟨w.heap.size, 0, none⟩ = some (.slice a N ca) ∧ w'.cell? ⟨w.heap.size, 1, none⟩ = some (.slice c N cc) ∧ w'.cell? ⟨r, 0, none⟩ = some (.string s) ∧ w'.cell? ⟨r, 1, none⟩ = some (.int .i64 (p : Nat)))
        (first | assumption | exact HS0.out | go_keep)
        (first | (go_at_call 52; refine (HC.out ()).mono ?_; rintro e w1 ⟨he1, hw⟩; subst he1; have HW : Hid (RR w1 K r s p l most 0 v ∧ UF K w w1) := (HV.out _ hw).1; have KS := (HV.out _ hw).2; obtain ⟨d0, d1, d2, d3, d4⟩ := HW.out.1.cells; have g1 := HW.out.1.free 1 (by omega); have g4 := HW.out.1.free 4 (by omega); clear hw))
      all_goals
        go_wp2
        go_ret
        exact ⟨by rw [HX.out]; rfl, by rw [HX.out]; exact HW.out.1.setE 40, HW.out.2.trans (HW.out.1.uf_set 4 _)⟩
    · have HX : Hid (x = (5, p, 0)) := hx.symm
      have HC : Hid (∀ _ : Unit, Calls Tryd.prog 52 #[.slice a N ca, .slice c N cc, .string s, .int .i64 (p : Nat)] (w.alloc (.cells #[.slice a N ca, .slice c N cc] 43)).drew fun e w' => e = .returned (.tuple #[.int .i64 0, .int .i64 0, .int .i64 5]) ∧ Below (w.alloc (.cells #[.slice a N ca, .slice c N cc] 43)).drew.heap.size (w.alloc (.cells #[.slice a N ca, .slice c N cc] 43)).drew w') := fun _ => HS
      have HV : Hid (∀ w1, Below (w.alloc (.cells #[.slice a N ca, .slice c N cc] 43)).drew.heap.size (w.alloc (.cells #[.slice a N ca, .slice c N cc] 43)).drew w1 → (RR w1 K r s p l most 0 v ∧ UF K w w1) ∧ w1.cell? ⟨w.heap.size, 0, none⟩ = some (.slice a N ca) ∧ w1.cell? ⟨w.heap.size, 1, none⟩ = some (.slice c N cc) ∧ w1.cell? ⟨r, 0, none⟩ = some (.string s) ∧ w1.cell? ⟨r, 1, none⟩ = some (.int .i64 (p : Nat))) := fun w1 hw => ⟨⟨(ha.drewN 1).below hw, (hua.trans (UF.drewN _ _ 1)).trans ((ha.drewN 1).uf hw)⟩, by rw [hw.cell (by simp [World.drew])]; exact n0, by rw [hw.cell (by simp [World.drew])]; exact n1, ((ha.drewN 1).below hw).cells.1, ((ha.drewN 1).below hw).cells.2.1⟩
      have HS0 : Hid ((w.alloc (.cells #[.slice a N ca, .slice c N cc] 43)).drew.cell? ⟨w.heap.size, 0, none⟩ = some (.slice a N ca) ∧ (w.alloc (.cells #[.slice a N ca, .slice c N cc] 43)).drew.cell? ⟨w.heap.size, 1, none⟩ = some (.slice c N cc) ∧ (w.alloc (.cells #[.slice a N ca, .slice c N cc] 43)).drew.cell? ⟨r, 0, none⟩ = some (.string s) ∧ (w.alloc (.cells #[.slice a N ca, .slice c N cc] 43)).drew.cell? ⟨r, 1, none⟩ = some (.int .i64 (p : Nat))) := (HV.out _ (Below.refl _ _)).2
      clear hx h hres HS ha hua r1 r2 q1 q2 hc k1 k2 h15 hcb
      go_enter Tryd.func31, Tryd.ntmps31
      go_wp2_with fail
      go_region_held_law (fun w' => w'.cell? ⟨w.heap.size, 0, none⟩ = some (.slice a N ca) ∧ w'.cell? ⟨w.heap.size, 1, none⟩ = some (.slice c N cc) ∧ w'.cell? ⟨r, 0, none⟩ = some (.string s) ∧ w'.cell? ⟨r, 1, none⟩ = some (.int .i64 (p : Nat)))
        (first | assumption | exact HS0.out | go_keep)
        (first | (go_at_call 52; refine (HC.out ()).mono ?_; rintro e w1 ⟨he1, hw⟩; subst he1; have HW : Hid (RR w1 K r s p l most 0 v ∧ UF K w w1) := (HV.out _ hw).1; have KS := (HV.out _ hw).2; obtain ⟨d0, d1, d2, d3, d4⟩ := HW.out.1.cells; have g1 := HW.out.1.free 1 (by omega); have g4 := HW.out.1.free 4 (by omega); clear hw))
      all_goals
        go_wp2
        go_ret
        exact ⟨by rw [HX.out]; rfl, by rw [HX.out]; exact HW.out.1.setE 5, HW.out.2.trans (HW.out.1.uf_set 4 _)⟩
    · have HX : Hid (x = (0, q, y)) := hx.symm
      have HC : Hid (∀ _ : Unit, Calls Tryd.prog 52 #[.slice a N ca, .slice c N cc, .string s, .int .i64 (p : Nat)] (w.alloc (.cells #[.slice a N ca, .slice c N cc] 43)).drew fun e w' => e = .returned (.tuple #[.int .i64 (y : Nat), .int .i64 (q : Nat), .int .i64 0]) ∧ Below (w.alloc (.cells #[.slice a N ca, .slice c N cc] 43)).drew.heap.size (w.alloc (.cells #[.slice a N ca, .slice c N cc] 43)).drew w') := fun _ => HS
      have HV : Hid (∀ w1, Below (w.alloc (.cells #[.slice a N ca, .slice c N cc] 43)).drew.heap.size (w.alloc (.cells #[.slice a N ca, .slice c N cc] 43)).drew w1 → (RR w1 K r s p l most 0 v ∧ UF K w w1) ∧ w1.cell? ⟨w.heap.size, 0, none⟩ = some (.slice a N ca) ∧ w1.cell? ⟨w.heap.size, 1, none⟩ = some (.slice c N cc) ∧ w1.cell? ⟨r, 0, none⟩ = some (.string s) ∧ w1.cell? ⟨r, 1, none⟩ = some (.int .i64 (p : Nat))) := fun w1 hw => ⟨⟨(ha.drewN 1).below hw, (hua.trans (UF.drewN _ _ 1)).trans ((ha.drewN 1).uf hw)⟩, by rw [hw.cell (by simp [World.drew])]; exact n0, by rw [hw.cell (by simp [World.drew])]; exact n1, ((ha.drewN 1).below hw).cells.1, ((ha.drewN 1).below hw).cells.2.1⟩
      have HS0 : Hid ((w.alloc (.cells #[.slice a N ca, .slice c N cc] 43)).drew.cell? ⟨w.heap.size, 0, none⟩ = some (.slice a N ca) ∧ (w.alloc (.cells #[.slice a N ca, .slice c N cc] 43)).drew.cell? ⟨w.heap.size, 1, none⟩ = some (.slice c N cc) ∧ (w.alloc (.cells #[.slice a N ca, .slice c N cc] 43)).drew.cell? ⟨r, 0, none⟩ = some (.string s) ∧ (w.alloc (.cells #[.slice a N ca, .slice c N cc] 43)).drew.cell? ⟨r, 1, none⟩ = some (.int .i64 (p : Nat))) := (HV.out _ (Below.refl _ _)).2
      clear hx h hres HS ha hua r1 r2 q1 q2 hc k1 k2 h15 hcb
      go_enter Tryd.func31, Tryd.ntmps31
      go_wp2_with fail
      go_region_held_law (fun w' => w'.cell? ⟨w.heap.size, 0, none⟩ = some (.slice a N ca) ∧ w'.cell? ⟨w.heap.size, 1, none⟩ = some (.slice c N cc) ∧ w'.cell? ⟨r, 0, none⟩ = some (.string s) ∧ w'.cell? ⟨r, 1, none⟩ = some (.int .i64 (p : Nat)))
        (first | assumption | exact HS0.out | go_keep)
        (first | (go_at_call 52; refine (HC.out ()).mono ?_; rintro e w1 ⟨he1, hw⟩; subst he1; have HW : Hid (RR w1 K r s p l most 0 v ∧ UF K w w1) := (HV.out _ hw).1; have KS := (HV.out _ hw).2; obtain ⟨d0, d1, d2, d3, d4⟩ := HW.out.1.cells; have g1 := HW.out.1.free 1 (by omega); have g4 := HW.out.1.free 4 (by omega); clear hw))
      all_goals
        go_wp2
        go_ret
        exact ⟨by rw [HX.out]; rfl, by rw [HX.out]; exact HW.out.1.setAt q hq2, HW.out.2.trans (HW.out.1.uf_set 1 _)⟩
  · rw [if_pos he] at hx
    have hei : ¬ (e : Int) = 0 := by omega
    have heb : ((e : Int) != 0) = true := by simpa using he
    have HX : Hid (x = (e, p, 0)) := hx.symm
    clear hx h ha hua r1 r2 q1 q2 hc k1 k2 h15 hcb
    go_enter Tryd.func31, Tryd.ntmps31
    go_wp2
    go_ret
    exact ⟨by rw [HX.out]; rfl, by rw [HX.out]; exact H.out.1, H.out.2⟩
end Go.Proofs.YtlbadjfcffoakaaDoor
namespace Go.Proofs.YtlbadjfcffoakaaDoor
open Go.RowKit
set_option linter.unusedVariables false
set_option maxRecDepth 20000

variable {w w' : World} {K : Nat → Prop} {r : Nat} {s : ByteArray} {p : Nat} {l : List Nat} {most e : Nat} {v : Value}
def zer (ns : List Nat) : Nat → Bool
  | 0 => true
  | j + 1 => zer ns j && decide (ns.getD j 0 = 0)
theorem zer_iff (ns : List Nat) : ∀ j, zer ns j = true ↔ ∀ i, i < j → ns.getD i 0 = 0
  | 0 => by simp [zer]
  | j + 1 => by
    simp only [zer, Bool.and_eq_true, decide_eq_true_eq, zer_iff ns j]
    constructor
    · rintro ⟨h1, h2⟩ i hi
      by_cases e : i = j
      · subst e; exact h2
      · exact h1 i (by omega)
    · exact fun h => ⟨fun i hi => h i (by omega), h j (by omega)⟩
theorem zer_false {ns : List Nat} {i j : Nat} (hi : i < j) (h : ns.getD i 0 ≠ 0) : zer ns j = false := by
  cases hz : zer ns j with
  | false => rfl
  | true => exact absurd ((zer_iff ns j).1 hz i hi) h
theorem zer_shr (ns : List Nat) : ∀ j, zer ns j = true ↔ shr ns j = 0
  | 0 => by simp [zer, shr]
  | j + 1 => by
    simp only [zer, shr, Bool.and_eq_true, decide_eq_true_eq, zer_shr ns j]
    by_cases h : ns.getD j 0 = 0
    · rw [if_pos h]; exact ⟨fun hh => hh.1, fun hh => ⟨hh, h⟩⟩
    · rw [if_neg h]
      have : 0 < 2 ^ (15 - ns.getD j 0) := Nat.pos_of_ne_zero (by simp)
      constructor
      · rintro ⟨_, h2⟩; exact absurd h2 h
      · intro h2; omega
theorem zer_ew (ns : List Nat) (h15 : ∀ i, ns.getD i 0 ≤ 15) : zer ns ns.length = true ↔ ew ns 15 = 0 := by rw [zer_shr, shr_ew ns h15]
set_option maxRecDepth 20000 in
set_option maxHeartbeats 4000000 in
theorem rnone_ok (cv : Value) (ns : List Nat) (hc : CodeAt w K cv ns) :
    Calls Tryd.prog 53 #[cv] w fun en w' => en = .returned (.bool (zer ns ns.length)) ∧ Below w.heap.size w w' := by
  obtain ⟨a, ca, c, cc, rfl, r1, r2, k1, k2, hn, h15, hcb⟩ := hc
  have HA : Hid (IRow w a (inN ns)) := r1
  obtain ⟨N, hN⟩ : ∃ N, ns.length = N := ⟨_, rfl⟩
  have HN : Hid (ns.length = N) := hN
  rw [hN] at hn ⊢
  have hab : Below w.heap.size w (w.alloc (.cells #[.slice a N ca, .slice c N cc] 43)) := (Below.refl _ _).alloc (Nat.le_refl _) _
  have HAB : Hid (Below w.heap.size w (w.alloc (.cells #[.slice a N ca, .slice c N cc] 43))) := hab
  obtain ⟨zv, hz⟩ : ∃ zv, zer ns N = zv := ⟨_, rfl⟩
  rw [hz]
  have HZ : Hid (zer ns N = zv) := hz
  clear r1 r2 k1 k2 h15 hcb hN hab hz
  go_enter Tryd.func53, Tryd.ntmps53
  go_wp2_with fail
  go_loop [3] (fun v3 => ∃ j : Nat, v3 = .int .i64 j ∧ j ≤ N ∧ Hid (zer ns j = true)) (fun v3 => N - (intOf v3).toNat)
  case atStart => exact ⟨0, rfl, Nat.zero_le _, rfl⟩
  case round =>
    obtain ⟨j, rfl, hj, HJ⟩ := hrel
    by_cases hlt : j < N
    · have hlti : (j : Int) < (N : Int) := by omega
      obtain ⟨b1, o1, rfl, c1, _⟩ := (HA.out.below HAB.out).at (show j < (inN ns).length by rw [inN_length, HN.out]; exact hlt)
      rw [inN_get] at c1
      obtain ⟨A, hA⟩ : ∃ A, ns.getD j 0 = A := ⟨_, rfl⟩
      rw [hA] at c1
      have HAA : Hid (ns.getD j 0 = A) := hA
      clear hA
      by_cases h0 : 0 < A
      · have h0i : (0 : Int) < (A : Int) := by omega
        have HE : Hid (zv = false) := by
          show zv = false
          rw [← HZ.out]; exact zer_false hlt (by rw [HAA.out]; omega)
        go_wp2
        go_ret
        exact ⟨by rw [HE.out]; rfl, HAB.out⟩
      · have h0i : ¬ (0 : Int) < (A : Int) := by omega
        have H2 : Hid (zer ns (j + 1) = true) := by
          show zer ns (j + 1) = true
          simp only [zer]; rw [HJ.out, HAA.out]; simp; omega
        go_wp2
        go_round
        case rel => exact ⟨j + 1, by go_num, by omega, H2⟩
        case measure => simp [intOf]; omega
    · obtain rfl : j = N := by omega
      have HE : Hid (zv = true) := by
        show zv = true
        rw [← HZ.out]; exact HJ.out
      go_wp2
      go_ret
      exact ⟨by rw [HE.out]; rfl, HAB.out⟩
theorem RR.grow1 {w1 : World} (h : RR w K r s p l most e v) {Q x g cap H : Nat} (hQ : l.length = Q) (hown : w1.ownsRow 0 5 1 (.slice (some ⟨g, 0, none⟩) (Q + 1) cap) (Q + 1) (bcells l ++ [.int .u8 (x : Nat)])) (hg : w.grownBy w1 v.ownBlock) (hat : v.ownBlock = some g ∨ g = H) (hH : w.heap.size = H) :
    w1.cell? ⟨r, 3, none⟩ = some v ∧ w1.frozen? ⟨r, 3, none⟩ = false ∧ RR (w1.setCell ⟨r, 3, none⟩ (.slice (some ⟨g, 0, none⟩) (Q + 1) cap)) K r s p (l ++ [x]) most e (.slice (some ⟨g, 0, none⟩) (Q + 1) cap) ∧ UF K w (w1.setCell ⟨r, 3, none⟩ (.slice (some ⟨g, 0, none⟩) (Q + 1) cap)) := by
  have hbl := (kept_row h.blk (by decide) h.own hg).trans h.blk
  have hkb1 : ∀ k, K k → k < w1.heap.size := fun k hk => Nat.lt_of_lt_of_le (h.kb k hk) hg.size
  refine ⟨by simp [World.cell?, hbl], by simp [World.frozen?, hbl], ⟨block_setCell (i := 3) hbl, ?_, h.le, h.small, fun k hk => Nat.lt_of_lt_of_le (hkb1 k hk) (Only.setCell r 3 w1 _).size, h.kr, ?_⟩, (UF.grown hg h.kb h.ko).trans (UF.only (Only.setCell r 3 w1 _) hkb1 h.kr)⟩
  · rw [List.length_append, bcells_append, hQ]
    refine ⟨hown.1, ?_⟩
    rcases hown.2 with e | ⟨g, cap, cur, e1, e2, e3, e4⟩
    · exact .inl e
    · refine .inr ⟨g, cap, cur, e1, e2, ?_, e4⟩
      have hgu : g ≠ r := by rintro rfl; rw [hbl] at e3; simp at e3
      rw [Below.heap_setCell _ _ _ _ hgu]; exact e3
  · intro k hk hK
    have hk' : g = k := by simpa [Value.ownBlock] using hk
    subst hk'
    rcases hat with e | e
    · exact h.ko g e hK
    · have := h.kb g hK
      omega
theorem RR.byte (h : RR w K r s p l most e v) {i : Nat} (hi : i < l.length) :
    ∃ g cp, v = .slice (some ⟨g, 0, none⟩) l.length cp ∧ w.cell? ⟨g, i, none⟩ = some (.int .u8 (l.getD i 0 : Nat)) := by
  obtain ⟨g, cp, e, _, _⟩ := h.own.form (by omega)
  refine ⟨g, cp, e, ?_⟩
  have h1 := h.own.cells (g := g) (by rw [e]; rfl) i (.int .u8 (l.getD i 0 : Nat)) (by simp [bcells, hi])
  rw [add_zero_addr] at h1
  exact h1
end Go.Proofs.YtlbadjfcffoakaaDoor
namespace Go.Proofs.YtlbadjfcffoakaaDoor
open Go.RowKit
set_option linter.unusedVariables false
set_option maxRecDepth 20000

variable {w w' : World} {K : Nat → Prop}
def icl (xs : List Nat) : List Value := xs.map fun (x : Nat) => Value.int .i64 (x : Nat)
structure RI (w : World) (K : Nat → Prop) (v : Value) (xs : List Nat) : Prop where
  own : w.ownsRow 0 3 1 v xs.length (icl xs)
  kb : ∀ k, K k → k < w.heap.size
  ko : ∀ g, v.ownBlock = some g → ¬ K g
theorem RI.alloc {v : Value} {xs : List Nat} (h : RI w K v xs) (o : Obj) : RI (w.alloc o) K v xs := ⟨h.own.alloc o, fun k hk => Nat.lt_of_lt_of_le (h.kb k hk) (by simp), h.ko⟩
theorem RI.grow1 {w1 : World} {v : Value} {xs : List Nat} (h : RI w K v xs) {x g cap H : Nat} (hown : w1.ownsRow 0 3 1 (.slice (some ⟨g, 0, none⟩) (xs.length + 1) cap) (xs.length + 1) (icl xs ++ [.int .i64 (x : Nat)])) (hg : w.grownBy w1 v.ownBlock) (hat : v.ownBlock = some g ∨ g = H) (hH : w.heap.size = H) :
    RI w1 K (.slice (some ⟨g, 0, none⟩) (xs.length + 1) cap) (xs ++ [x]) ∧ UF K w w1 := by
  refine ⟨⟨?_, fun k hk => Nat.lt_of_lt_of_le (h.kb k hk) hg.size, ?_⟩, UF.grown hg h.kb h.ko⟩
  · rw [List.length_append]
    have e : icl (xs ++ [x]) = icl xs ++ [.int .i64 (x : Nat)] := by simp [icl]
    rw [e]; exact hown
  · intro k hk hK
    have hk' : g = k := by simpa [Value.ownBlock] using hk
    subst hk'
    rcases hat with e | e
    · exact h.ko g e hK
    · have := h.kb g hK
      omega
theorem RI.form {v : Value} {xs : List Nat} (h : RI w K v xs) : ∃ ao cp, v = .slice ao xs.length cp := by
  rcases h.own.2 with ⟨e, h0⟩ | ⟨g, cap, cur, e, _⟩
  · exact ⟨none, 0, by rw [e, h0]⟩
  · exact ⟨_, _, e⟩
theorem infoN : (Tryd.prog.info? 3).map (fun i => (i.zero, i.size, i.bytes)) = some (some (.int .i64 0), 1, 8) := by kernel_rfl
set_option maxRecDepth 20000 in
set_option maxHeartbeats 1000000 in
theorem rtimes_ok (xs : List Nat) (v : Value) (x n : Nat) (h : RI w K v xs) (hn : xs.length + n ≤ 1000000) (hx : x ≤ 1000000) :
    Calls Tryd.prog 29 #[v, .int .i64 x, .int .i64 n] w fun en w' => ∃ v', en = .returned v' ∧ RI w' K v' (xs ++ List.replicate n x) ∧ UF K w w' := by
  have H : Hid (RI w K v xs) := h
  clear h
  go_enter Tryd.func29, Tryd.ntmps29
  go_wp2_with fail
  go_loopw [0, 7] (fun v0 v7 wr => ∃ i : Nat, v7 = .int .i64 i ∧ i ≤ n ∧ Hid (RI wr K v0 (xs ++ List.replicate i x) ∧ UF K w wr)) (fun _ v7 _ => n - (intOf v7).toNat)
  case atStart => exact ⟨0, rfl, Nat.zero_le _, by simpa using H.out, UF.refl _ _⟩
  case round =>
    obtain ⟨i, rfl, hi, HS⟩ := hrel
    obtain ⟨ao, cp, hv⟩ := HS.out.1.form
    subst hv
    by_cases hlt : i < n
    · have hlti : (i : Int) < (n : Int) := by omega
      obtain ⟨ys, hys⟩ : ∃ ys, xs ++ List.replicate i x = ys := ⟨_, rfl⟩
      have HY : Hid (xs ++ List.replicate (i + 1) x = ys ++ [x]) := by
        show _ = _
        rw [← hys, List.replicate_succ', List.append_assoc]
      have hyl : ys.length ≤ 1000000 := by rw [← hys]; simp; omega
      rw [hys] at HS ⊢
      clear hys
      obtain ⟨Y, hY⟩ : ∃ Y, ys.length = Y := ⟨_, rfl⟩
      have HYL : Hid (ys.length = Y) := hY
      rw [hY] at HS hyl ⊢
      clear hY
      obtain ⟨i0, hi0, hz0, hz1, hz2⟩ := info_parts infoN
      have HI : Hid (_ ∧ _ ∧ _ ∧ _) := ⟨hi0, hz0, hz1, hz2⟩
      have HA : Hid (∀ o, RI (wr.alloc o) K (.slice ao Y cp) ys) := fun o => HS.out.1.alloc o
      have HO : Hid (∀ o, (wr.alloc o).ownsRow 0 3 1 (.slice ao Y cp) Y (icl ys)) := fun o => by have := (HA.out o).own; rw [HYL.out] at this; exact this
      clear hi0 hz0 hz1 hz2
      go_wp2_with (at_builtin; refine wpList_append_lies _ rfl _ _ 41 rfl 0 3 i0 (.int .i64 0) 1 8 Tryd.underlying41 HI.out.1 HI.out.2.1 HI.out.2.2.1 HI.out.2.2.2 rfl (by decide) (.slice ao Y cp) Y (icl ys) rfl (HO.out _) ⟨wr.heap.size, 0, none⟩ 1 1 [.int .i64 (x : Nat)] rfl rfl (newB wr _ _) (one1 _) (by decide) (by unfold maxLen; omega) (by omega) (Nat.zero_le _) _ rfl ?_; intro g3 cap3 wc hown hgrow hat hgl; have HZ : Hid (RI wc K (.slice (some ⟨g3, 0, none⟩) (Y + 1) cap3) (ys ++ [x]) ∧ UF K w wc) := (by have hz := (HA.out (.cells #[.int .i64 (x : Nat)] 3)).grow1 (x := x) (g := g3) (cap := cap3) (by rw [HYL.out]; exact hown) hgrow hat rfl; rw [HYL.out] at hz; exact ⟨hz.1, (HS.out.2.trans (UF.below ((Below.refl _ _).alloc (Nat.le_refl _) _) HS.out.1.kb)).trans hz.2⟩); clear hown hgrow hat hgl)
      exact ⟨⟨i + 1, by go_num, by omega, by rw [HY.out]; exact HZ.out⟩, by simp [intOf]; omega⟩
    · have hlti : ¬ (i : Int) < (n : Int) := by omega
      obtain rfl : i = n := by omega
      have HE : Hid (RI wr K (.slice ao (xs.length + i) cp) (xs ++ List.replicate i x) ∧ UF K w wr) := by
        have := HS.out
        rw [List.length_append, List.length_replicate] at this
        exact this
      go_wp2
      go_ret
      exact ⟨_, rfl, HE.out⟩
end Go.Proofs.YtlbadjfcffoakaaDoor
namespace Go.Proofs.YtlbadjfcffoakaaDoor
open Go.RowKit
set_option linter.unusedVariables false
set_option maxRecDepth 20000

theorem nsOf_inN (ns : List Nat) : nsOf (inN ns) = ns := nsOf_ints ns
theorem wholeB_share (xs : List Int) : wholeB xs = decide (shareV xs = 32768) := by
  unfold wholeB shareV
  cases may xs with
  | true =>
    simp only [if_true, Bool.true_and]
    by_cases e : ew (nsOf xs) 15 = 32768
    · rw [decide_eq_true e, decide_eq_true (by omega)]
    · rw [decide_eq_false e, decide_eq_false (by omega)]
  | false => rfl
set_option maxRecDepth 20000 in
theorem rfull_ok (xs : List Int) (a : Option Addr) (c N : Nat) (w : World) (hN : xs.length = N) (hrow : IRow w a xs) (hlen : N ≤ 9223372036854775807) :
    Calls Tryd.prog 33 #[.slice a N c] w fun e w' => e = .returned (.bool (wholeB xs)) ∧ w' = w := by
  have hs := share_ok xs a c N w hN hrow hlen
  have hc := wholeB_share xs
  obtain ⟨V, hV⟩ : ∃ V, shareV xs = V := ⟨_, rfl⟩
  rw [hV] at hs hc
  have HS : Hid (∀ _ : Unit, Calls Tryd.prog 54 #[.slice a N c] w fun e w' => e = .returned (.int .i64 V) ∧ w' = w) := fun _ => hs
  have HC : Hid (wholeB xs = decide (V = 32768)) := hc
  clear hs hV hN hrow hc
  go_enter Tryd.func33, Tryd.ntmps33
  by_cases h0 : V = 32768
  · subst h0
    go_wp2_with (go_at_call 54; refine (HS.out ()).mono ?_; rintro e w1 ⟨rfl, hw⟩; obtain rfl := hw.symm)
    go_ret
    exact ⟨by rw [HC.out]; rfl, rfl⟩
  · have hb : (V == 32768) = false := by simpa using h0
    go_wp2_with (go_at_call 54; refine (HS.out ()).mono ?_; rintro e w1 ⟨rfl, hw⟩; obtain rfl := hw.symm)
    go_ret
    exact ⟨by rw [HC.out]; simp [h0], rfl⟩
def MadeEnd (w : World) (a : Option Addr) (N c : Nat) (xs : List Int) (en : Ending) (w' : World) : Prop :=
  Below w.heap.size w w' ∧ ∃ ya yn yc, en = .returned (.agg #[.slice a N c, .slice ya yn yc]) ∧ (may xs = true → ew (nsOf xs) 15 ≤ 32768 → ∃ L, ya = some ⟨L, 0, none⟩ ∧ yn = N ∧ yc = N ∧ LB w' L N (cw (nsOf xs)) ∧ w.heap.size ≤ L)
theorem results_two {fn : Func} {p q : Tmp} {ty : TypeId} (h : fn.results = #[.cell p ty, .cell q ty]) (tmps : Array Value) (P : Program) (w : World) :
    (results fn tmps).run P w = ((asAddr (tmps.getD p undef)).run P w).andThen fun a w₁ => ((loadVar ty a).run P w₁).andThen fun v w₂ => ((asAddr (tmps.getD q undef)).run P w₂).andThen fun b w₃ => ((loadVar ty b).run P w₃).andThen fun u w₄ => .ok (.tuple #[v, u]) w₄ := by
  simp only [results, h]
  simp [Sem.run_bind, Result.andThen]
theorem code_blk {w : World} {g : Nat} {x y : Value} (h : w.heap[g]? = some (.cells #[x, y] 43 (0, 0))) : w.cell? ⟨g, 0, none⟩ = some x ∧ w.cell? ⟨g, 1, none⟩ = some y ∧ w.frozen? ⟨g, 0, none⟩ = false ∧ w.frozen? ⟨g, 1, none⟩ = false := by
  exact ⟨by simp [World.cell?, h], by simp [World.cell?, h], by simp [World.frozen?, h], by simp [World.frozen?, h]⟩
theorem LB.away {w w' : World} {L n g : Nat} {f : Nat → Nat} (h : LB w L n f) (ho : Only g w w') (hg : L ≠ g) : LB w' L n f := (ho.block L (lt_of_block h) hg).trans h
set_option maxRecDepth 20000 in
set_option maxHeartbeats 1000000 in
theorem rmade_ok (xs : List Int) (a : Option Addr) (c N : Nat) (w : World) (hN : xs.length = N) (hrow : IRow w a xs) (hlen : N ≤ 9223372036854775807) :
    Calls Tryd.prog 30 #[.slice a N c] w fun e w' => MadeEnd w a N c xs e w' := by
  obtain ⟨o, hoo⟩ : ∃ o, Obj.cells #[Value.slice none 0 0, Value.slice none 0 0] 43 = o := ⟨_, rfl⟩
  have hrow0 : IRow (w.alloc o) a xs := by
    rcases hrow with e | ⟨b, off, e, hlt, h⟩
    · exact .inl e
    · exact .inr ⟨b, off, e, by simp; omega, fun i hi => by rw [World.cell?_alloc_past _ _ _ hlt]; exact h i hi⟩
  have HC : Hid (∀ _ : Unit, Calls Tryd.prog 51 #[.slice a N c] (w.alloc o) fun e w' => CodesEnd (w.alloc o) xs e w') := fun _ => refCodes_ok xs a c N (w.alloc o) hN hrow0 hlen
  have HN : Hid (xs.length = N) := hN
  have HB0 : Hid (Below w.heap.size w (w.alloc o) ∧ (w.alloc o).heap[w.heap.size]? = some o ∧ (w.alloc o).heap.size = w.heap.size + 1) := ⟨(Below.refl _ _).alloc (Nat.le_refl _) _, heap_alloc_new w o, by simp⟩
  obtain ⟨W0, hW0⟩ : ∃ W, w.alloc o = W := ⟨_, rfl⟩
  rw [hW0] at HC HB0
  clear hN hrow hrow0
  go_enter Tryd.func30, Tryd.ntmps30
  go_wp2_with fail
  try rw [hoo]
  try rw [hW0]
  have HOO : Hid (Obj.cells #[Value.slice none 0 0, Value.slice none 0 0] 43 = o) := hoo
  clear hW0 hoo
  refine (HC.out ()).mono ?_
  rintro e w1 ⟨⟨h1, h2, L, rfl, h3, h4⟩ | ⟨h1, rfl⟩, hb⟩
  · rw [HN.out] at h3 ⊢
    have hblk : w1.heap[w.heap.size]? = some (.cells #[Value.slice none 0 0, Value.slice none 0 0] 43) := by
      rw [hb.block _ (by rw [HB0.out.2.2]; omega), HB0.out.2.1, HOO.out]
    obtain ⟨c0, c1, f0, f1⟩ := code_blk hblk
    have HE : Hid (LB w1 L N (cw (nsOf xs)) ∧ W0.heap.size ≤ L ∧ Below w.heap.size w w1) := ⟨h3, h4, HB0.out.1.trans (hb.mono HB0.out.1.size)⟩
    have HEND : Hid (∀ x y, MadeEnd w a N c xs (.returned (.agg #[.slice a N c, .slice (some ⟨L, 0, none⟩) N N])) ((w1.setCell ⟨w.heap.size, 0, none⟩ x).setCell ⟨w.heap.size, 1, none⟩ y)) := fun x y => by
      have hon : Only w.heap.size w1 ((w1.setCell ⟨w.heap.size, 0, none⟩ x).setCell ⟨w.heap.size, 1, none⟩ y) := (Only.setCell _ 0 w1 _).trans (Only.setCell _ 1 _ _)
      have hLn : w.heap.size < L := by have := HE.out.2.1; have := HB0.out.2.2; omega
      refine ⟨HE.out.2.2.trans ⟨hon.os, hon.tape, hon.output, hon.size, fun k hk => hon.block k (Nat.lt_of_lt_of_le hk HE.out.2.2.size) (by omega)⟩, _, _, _, rfl, fun _ _ => ⟨L, rfl, rfl, rfl, HE.out.1.away hon (by omega), by omega⟩⟩
    clear h1 h2 h3 h4 hb HC hblk
    go_wp2
    refine bodyPost_ret (v := .agg #[.slice a N c, .slice (some ⟨L, 0, none⟩) N N]) ?_ rfl ?_
    · rw [results_cell rfl]
      go_simp
    exact HEND.out _ _
  · have hblk : w1.heap[w.heap.size]? = some (.cells #[Value.slice none 0 0, Value.slice none 0 0] 43) := by
      rw [hb.block _ (by rw [HB0.out.2.2]; omega), HB0.out.2.1, HOO.out]
    obtain ⟨c0, c1, f0, f1⟩ := code_blk hblk
    have HE : Hid (¬ (may xs = true ∧ ew (nsOf xs) 15 ≤ 32768) ∧ Below w.heap.size w w1) := ⟨h1, HB0.out.1.trans (hb.mono HB0.out.1.size)⟩
    have HEND : Hid (∀ x y, MadeEnd w a N c xs (.returned (.agg #[.slice a N c, .slice none 0 0])) ((w1.setCell ⟨w.heap.size, 0, none⟩ x).setCell ⟨w.heap.size, 1, none⟩ y)) := fun x y => by
      have hon : Only w.heap.size w1 ((w1.setCell ⟨w.heap.size, 0, none⟩ x).setCell ⟨w.heap.size, 1, none⟩ y) := (Only.setCell _ 0 w1 _).trans (Only.setCell _ 1 _ _)
      exact ⟨HE.out.2.trans ⟨hon.os, hon.tape, hon.output, hon.size, fun k hk => hon.block k (Nat.lt_of_lt_of_le hk HE.out.2.size) (by omega)⟩, _, _, _, rfl, fun a b => (HE.out.1 ⟨a, b⟩).elim⟩
    clear h1 hb HC hblk
    go_wp2
    refine bodyPost_ret (v := .agg #[.slice a N c, .slice none 0 0]) ?_ rfl ?_
    · rw [results_cell rfl]
      go_simp
    exact HEND.out _ _
theorem cw_le {ns : List Nat} (h15 : ∀ i, ns.getD i 0 ≤ 15) (hl : ns.length ≤ 288) (hf : ew ns 15 ≤ 32768) (i : Nat) (hi : i < ns.length) : cw ns i ≤ 32768 := by
  have hm : may (inN ns) = true := may_yes (by rw [inN_length]; exact hl) (fun j hj => by rw [inN_get]; have := h15 j; omega)
  have := cw_fits hm (by rw [nsOf_inN]; exact hf) i (by rw [inN_length]; exact hi)
  rw [nsOf_inN] at this
  have h2 : 2 ^ ns.getD i 0 ≤ 2 ^ 15 := Nat.pow_le_pow_right (by decide) (h15 i)
  omega
theorem may_inN {ns : List Nat} (h15 : ∀ i, ns.getD i 0 ≤ 15) (hl : ns.length ≤ 288) : may (inN ns) = true := may_yes (by rw [inN_length]; exact hl) (fun j hj => by rw [inN_get]; have := h15 j; omega)
theorem MadeEnd.code {w w' : World} {K : Nat → Prop} {a : Option Addr} {c : Nat} {ns : List Nat} {en : Ending} (h : MadeEnd w a ns.length c (inN ns) en w') (hrow : IRow w a (inN ns)) (ha : ∀ b o, a = some ⟨b, o, none⟩ → K b) (h15 : ∀ i, ns.getD i 0 ≤ 15) (hl : ns.length ≤ 288) (hf : ew ns 15 ≤ 32768) (hn : ∀ k, w.heap.size ≤ k → k < w'.heap.size → K k) :
    Below w.heap.size w w' ∧ ∃ cv, en = .returned cv ∧ CodeAt w' K cv ns := by
  obtain ⟨hb, ya, yn, yc, rfl, hy⟩ := h
  obtain ⟨L, rfl, rfl, rfl, hL, hLw⟩ := hy (may_inN h15 hl) (by rw [nsOf_inN]; exact hf)
  rw [nsOf_inN] at hL
  have hLlt : L < w'.heap.size := lt_of_block hL
  refine ⟨hb, _, rfl, a, c, some ⟨L, 0, none⟩, ns.length, rfl, ?_, ?_, ha, ?_, hl, h15, fun i hi => cw_le h15 hl hf i hi⟩
  · rcases hrow with e | ⟨b, off, e, hlt, hc⟩
    · exact .inl e
    · refine .inr ⟨b, off, e, Nat.lt_of_lt_of_le hlt hb.size, fun i hi => ?_⟩
      rw [← hc i hi]
      simp only [World.cell?, hb.block b hlt]
  · have := hL.row
    have e : inN (cwL ns) = (List.range ns.length).map fun i => ((cw ns i : Nat) : Int) := by
      unfold inN cwL
      rw [List.map_map]; rfl
    rw [e]; exact this
  · intro b o e
    cases e
    exact hn L hLw hLlt
theorem RI.row {w : World} {K : Nat → Prop} {ao : Option Addr} {n cp : Nat} {xs : List Nat} (h : RI w K (.slice ao n cp) xs) : IRow w ao (inN xs) ∧ (∀ b o, ao = some ⟨b, o, none⟩ → ¬ K b ∧ b < w.heap.size) := by
  rcases h.own.2 with ⟨e, h0⟩ | ⟨g, cap, cur, e1, e2, e3, e4⟩
  · have hx : xs = [] := List.length_eq_zero_iff.1 h0
    subst hx
    cases e
    exact ⟨.inl rfl, fun b o e => by cases e⟩
  · have ex : ao = some ⟨g, 0, none⟩ := by cases e1; rfl
    subst ex
    refine ⟨.inr ⟨g, 0, rfl, lt_of_block e3, fun i hi => ?_⟩, fun b o e => by cases e; exact ⟨h.ko g rfl, lt_of_block e3⟩⟩
    have hi' : i < xs.length := by rw [inN_length] at hi; exact hi
    have hc := h.own.cells (g := g) rfl i (.int .i64 (xs.getD i 0 : Nat)) (by
      unfold icl
      rw [List.getElem?_map, List.getElem?_eq_getElem hi']
      simp [List.getD_eq_getElem?_getD, List.getElem?_eq_getElem hi'])
    rw [add_zero_addr] at hc
    rw [inN_get, Nat.zero_add]
    exact hc
theorem RI.nil (w : World) (K : Nat → Prop) (hk : ∀ k, K k → k < w.heap.size) : RI w K (.slice none 0 0) [] := ⟨⟨rfl, .inl ⟨rfl, rfl⟩⟩, hk, fun g h => by simp [Value.ownBlock] at h⟩
theorem RI.newer {w w' : World} {K K' : Nat → Prop} {v : Value} {xs : List Nat} (h : RI w K v xs) (hb : Below w.heap.size w w') (hk : ∀ k, K' k → k < w'.heap.size) (ho : ∀ g, v.ownBlock = some g → ¬ K' g) : RI w' K' v xs := by
  refine ⟨⟨h.own.1, ?_⟩, hk, ho⟩
  rcases h.own.2 with e | ⟨g, cap, cur, e1, e2, e3, e4⟩
  · exact .inl e
  · exact .inr ⟨g, cap, cur, e1, e2, by rw [hb.block g (lt_of_block e3)]; exact e3, e4⟩
end Go.Proofs.YtlbadjfcffoakaaDoor
