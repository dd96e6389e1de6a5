/- What Inflate looks at: bits that lie ahead of where it ends, and no others. -/
/- What Inflate looks at: told codes, blocks, all of it. -/
/- Inflate with less room. -/
import Derived.Test.YtchjnfckcfikkaaDoorVZ
import Derived.Test.YtchjnfckcfikkaaDoorZp
namespace Go.Proofs.YtchjnfckcfikkaaDoor
open Go.RowKit
set_option linter.unusedVariables false

/-- s and t have the same bits ahead of Q. -/
structure Alike (s t : ByteArray) (Q : Nat) : Prop where
  l : Q ≤ 8 * s.size
  r : Q ≤ 8 * t.size
  bit : ∀ i, i < Q → bitAt t i = bitAt s i
/-- b is what a is, where a ends at Q or ahead of it; else, where there is nothing behind Q, b is too short. -/
def Loc {α : Type} (Q S : Nat) (a b : Nat × Nat × α) : Prop := a.1 = 0 → (a.2.1 ≤ Q → b = a) ∧ (Q < a.2.1 → S = Q → b.1 = 5)
variable {s t : ByteArray} {Q : Nat}
theorem Alike.num (A : Alike s t Q) (p : Nat) : ∀ n, p + n ≤ Q → num t p n = num s p n
  | 0, _ => rfl
  | n + 1, h => by
    show Go.Proofs.YtchjnfckcfikkaaDoor.num t p n + bitAt t (p + n) * 2 ^ n = Go.Proofs.YtchjnfckcfikkaaDoor.num s p n + bitAt s (p + n) * 2 ^ n
    rw [A.num p n (by omega), A.bit (p + n) (by omega)]
theorem ub_loc (A : Alike s t Q) (p n : Nat) : Loc Q (8 * t.size) (ub s p n) (ub t p n) := by
  intro h
  have hl := A.l
  have hr := A.r
  unfold ub at h ⊢
  by_cases a : 8 * s.size < p + n
  · rw [if_pos a] at h; simp at h
  · rw [if_neg a]
    refine ⟨fun h1 => ?_, fun h1 h2 => ?_⟩
    · have h1 : p + n ≤ Q := h1
      rw [if_neg (by omega), A.num p n h1]
    · have h1 : Q < p + n := h1
      rw [if_pos (by omega)]
theorem rdS_loc (A : Alike s t Q) (ns : List Nat) (hn : ns.length ≤ 288) (p : Nat) : ∀ (k l x : Nat), p + l ≤ Q → (rdS ns s p k l x).2.2 = 0 → (p + (rdS ns s p k l x).2.1 ≤ Q → rdS ns t p k l x = rdS ns s p k l x) ∧ (Q < p + (rdS ns s p k l x).2.1 → 8 * t.size = Q → (rdS ns t p k l x).2.2 = 5)
  | 0, l, x, hl, h => by simp [rdS] at h
  | k + 1, l, x, hl, h => by
    have hA := A.l
    have hB := A.r
    have hmono := (rdS_ok ns s p hn k (l + 1) (2 * x + bitAt s (p + l)))
    unfold rdS at h ⊢
    by_cases a1 : x < ew ns l
    · rw [if_pos a1, if_pos a1]
      exact ⟨fun _ => rfl, fun h1 => by have h1 : Q < p + l := h1; omega⟩
    · rw [if_neg a1] at h ⊢
      rw [if_neg a1]
      by_cases a2 : ew ns 15 ≤ x * 2 ^ (15 - l)
      · rw [if_pos a2] at h; simp at h
      · rw [if_neg a2] at h ⊢
        rw [if_neg a2]
        by_cases a3 : 8 * s.size ≤ p + l
        · rw [if_pos a3] at h; simp at h
        · rw [if_neg a3] at h ⊢
          obtain ⟨_, m2, _, _⟩ := hmono h
          by_cases a4 : p + l < Q
          · rw [if_neg (by omega), A.bit (p + l) a4]
            exact rdS_loc A ns hn p k (l + 1) _ (by omega) h
          · refine ⟨fun h1 => by omega, fun h1 h2 => ?_⟩
            rw [if_pos (by omega)]
theorem usym_loc (A : Alike s t Q) (ns : List Nat) (hn : ns.length ≤ 288) (p : Nat) (hp : p ≤ Q) : Loc Q (8 * t.size) (usym ns s p) (usym ns t p) := by
  intro h
  have hz : (rd ns s p).2.2 = 0 := by
    unfold usym at h
    by_cases a : (rd ns s p).2.2 = 30
    · rw [if_pos a] at h; simp at h
    · rw [if_neg a] at h
      by_cases b : (rd ns s p).2.2 = 0
      · exact b
      · rw [if_neg b] at h; exact h
  have hL := rdS_loc A ns hn p 16 0 0 (by omega) hz
  have e : usym ns s p = (0, p + (rd ns s p).2.1, (rd ns s p).1) := by unfold usym; rw [if_neg (by omega), if_pos hz]
  rw [e]
  refine ⟨fun h1 => ?_, fun h1 h2 => ?_⟩
  · have : rd ns t p = rd ns s p := hL.1 h1
    unfold usym
    rw [this, if_neg (by omega), if_pos hz]
  · have : (rd ns t p).2.2 = 5 := hL.2 h1 h2
    unfold usym
    rw [this]; rfl
theorem ustep_loc (A : Alike s t Q) (p y st : Nat) (hp : p ≤ Q) : Loc Q (8 * t.size) (ustep s p y st) (ustep t p y st) := by
  unfold ustep
  by_cases a : y < st
  · rw [if_pos a, if_pos a]
    exact fun _ => ⟨fun _ => rfl, fun h => by have h : Q < p := h; omega⟩
  · rw [if_neg a, if_neg a]
    intro h
    obtain ⟨h1, h2⟩ := ub_loc A p (y / st - 1) h
    exact ⟨fun h3 => by rw [h1 h3], fun h3 h4 => h2 h3 h4⟩
set_option maxRecDepth 20000 in
theorem ulen_loc (A : Alike s t Q) (p y : Nat) (hp : p ≤ Q) : Loc Q (8 * t.size) (ulen s p y) (ulen t p y) := by
  unfold ulen
  by_cases a : 285 < y
  · rw [if_pos a]; intro h; simp at h
  · rw [if_neg a, if_neg a]
    by_cases b : y = 285
    · rw [if_pos b, if_pos b]
      exact fun _ => ⟨fun _ => rfl, fun h => by have h : Q < p := h; omega⟩
    · rw [if_neg b, if_neg b]
      intro h
      obtain ⟨h1, h2⟩ := ustep_loc A p (y - 257) 4 hp h
      exact ⟨fun h3 => by rw [h1 h3], fun h3 h4 => h2 h3 h4⟩
theorem udist_loc (A : Alike s t Q) (ns : List Nat) (hn : ns.length ≤ 288) (p : Nat) (hp : p ≤ Q) : Loc Q (8 * t.size) (udist ns s p) (udist ns t p) := by
  intro h
  have hU := usym_loc A ns hn p hp
  unfold udist at h ⊢
  by_cases a : (usym ns s p).1 ≠ 0
  · rw [if_pos a] at h; exact (a h).elim
  · rw [if_neg a] at h ⊢
    have hz : (usym ns s p).1 = 0 := by omega
    obtain ⟨u1, u2⟩ := hU hz
    by_cases b : 29 < (usym ns s p).2.2
    · rw [if_pos b] at h; simp at h
    · rw [if_neg b] at h ⊢
      have hm := ustep_mono (s := s) (p := (usym ns s p).2.1) (y := (usym ns s p).2.2) (st := 2) h
      by_cases c : (usym ns s p).2.1 ≤ Q
      · rw [u1 c, if_neg a, if_neg b]
        obtain ⟨h1, h2⟩ := ustep_loc A (usym ns s p).2.1 (usym ns s p).2.2 2 c h
        exact ⟨fun h3 => by rw [h1 h3], fun h3 h4 => h2 h3 h4⟩
      · refine ⟨fun h3 => ?_, fun h3 h4 => ?_⟩
        · have h3 : (ustep s (usym ns s p).2.1 (usym ns s p).2.2 2).2.1 ≤ Q := h3
          omega
        · have h5 := u2 (by omega) h4
          rw [if_pos (by omega)]; exact h5
theorem packF_loc (A : Alike s t Q) (c d : List Nat) (hc : c.length ≤ 288) (hd : d.length ≤ 288) (most : Nat) : ∀ (k k' p : Nat) (l : List Nat), p ≤ Q → l.length ≤ most → 8 * t.size + 1 - p ≤ k' → Loc Q (8 * t.size) (packF c d s most k p l) (packF c d t most k' p l)
  | 0, k', p, l, hp, hl, hk => fun h => by simp [packF] at h
  | k + 1, 0, p, l, hp, hl, hk => by have := A.r; omega
  | k + 1, k' + 1, p, l, hp, hl, hk => fun h => by
    have hA := A.l
    have hB := A.r
    have hU := usym_loc A c hc p hp
    unfold packF at h ⊢
    by_cases a1 : (usym c s p).1 ≠ 0
    · rw [if_pos a1] at h; exact (a1 h).elim
    · rw [if_neg a1] at h ⊢
      obtain ⟨b1, b2, b3⟩ := usym_ok' hc (by omega : (usym c s p).1 = 0)
      have b3 := b3 (by omega)
      obtain ⟨u1, u2⟩ := hU (by omega)
      -- where the symbol itself passes Q
      have pass : Q < (usym c s p).2.1 → 8 * t.size = Q → (if (usym c t p).1 ≠ 0 then ((usym c t p).1, p, l) else if (usym c t p).2.2 < 256 then (if most < l.length + 1 then (4, p, l) else packF c d t most k' (usym c t p).2.1 (l ++ [(usym c t p).2.2]))
          else if (usym c t p).2.2 = 256 then (0, (usym c t p).2.1, l)
          else if (ulen t (usym c t p).2.1 (usym c t p).2.2).1 ≠ 0 then ((ulen t (usym c t p).2.1 (usym c t p).2.2).1, p, l)
          else if (udist d t (ulen t (usym c t p).2.1 (usym c t p).2.2).2.1).1 ≠ 0 then ((udist d t (ulen t (usym c t p).2.1 (usym c t p).2.2).2.1).1, p, l)
          else if (repF 0 l most (ulen t (usym c t p).2.1 (usym c t p).2.2).2.2 (udist d t (ulen t (usym c t p).2.1 (usym c t p).2.2).2.1).2.2).1 ≠ 0 then
            ((repF 0 l most (ulen t (usym c t p).2.1 (usym c t p).2.2).2.2 (udist d t (ulen t (usym c t p).2.1 (usym c t p).2.2).2.1).2.2).1, p, l)
          else packF c d t most k' (udist d t (ulen t (usym c t p).2.1 (usym c t p).2.2).2.1).2.1 (repF 0 l most (ulen t (usym c t p).2.1 (usym c t p).2.2).2.2 (udist d t (ulen t (usym c t p).2.1 (usym c t p).2.2).2.1).2.2).2.2).1 = 5 := fun h1 h2 => by
        have h5 := u2 h1 h2
        rw [if_pos (by omega)]; exact h5
      by_cases hq : (usym c s p).2.1 ≤ Q
      · rw [u1 hq]
        obtain ⟨⟨e1, p1, y⟩, hu⟩ : ∃ r, usym c s p = r := ⟨_, rfl⟩
        rw [hu] at b1 b2 b3 h a1 hq ⊢
        have b2 : p < p1 := b2
        have b3 : p1 ≤ 8 * s.size := b3
        have hq : p1 ≤ Q := hq
        rw [if_neg a1]
        clear u1 u2 pass hU
        by_cases a2 : y < 256
        · rw [if_pos a2] at h ⊢
          rw [if_pos a2]
          by_cases a3 : most < l.length + 1
          · rw [if_pos a3] at h; simp at h
          · rw [if_neg a3] at h ⊢
            rw [if_neg a3]
            exact packF_loc A c d hc hd most k k' p1 (l ++ [y]) hq (by rw [List.length_append, List.length_singleton]; omega) (by omega) h
        · rw [if_neg a2] at h ⊢
          rw [if_neg a2]
          by_cases a4 : y = 256
          · rw [if_pos a4, if_pos a4]
            exact ⟨fun _ => rfl, fun h1 => by have h1 : Q < p1 := h1; omega⟩
          · rw [if_neg a4] at h ⊢
            rw [if_neg a4]
            have hum := ulen_mono (s := s) (p := p1) (y := y)
            have hlo := ulen_loc A p1 y hq
            obtain ⟨⟨e2, p2, n⟩, hn⟩ : ∃ r, ulen s p1 y = r := ⟨_, rfl⟩
            obtain ⟨N2, hN2⟩ : ∃ r, ulen t p1 y = r := ⟨_, rfl⟩
            have hn' : ulen s (e1, p1, y).2.1 (e1, p1, y).2.2 = (e2, p2, n) := hn
            have hN2' : ulen t (e1, p1, y).2.1 (e1, p1, y).2.2 = N2 := hN2
            rw [hn'] at h ⊢
            rw [hN2']
            rw [hn, hN2] at hlo
            rw [hn] at hum
            by_cases a5 : e2 ≠ 0
            · rw [if_pos a5] at h; exact (a5 h).elim
            · rw [if_neg a5] at h ⊢
              obtain ⟨c1, c2⟩ := hum (by show e2 = 0; omega)
              obtain ⟨n1, n2⟩ := hlo (by show e2 = 0; omega)
              have c1 : p1 ≤ p2 := c1
              have c2 : p2 ≤ 8 * s.size := c2 b3
              have hdm := udist_mono (s := s) (p := p2) hd
              have hdl := udist_loc A d hd p2
              obtain ⟨⟨e3, p3, x⟩, ht⟩ : ∃ r, udist d s p2 = r := ⟨_, rfl⟩
              have ht' : udist d s (e2, p2, n).2.1 = (e3, p3, x) := ht
              rw [ht'] at h ⊢
              rw [ht] at hdm hdl
              by_cases a6 : e3 ≠ 0
              · rw [if_pos a6] at h; exact (a6 h).elim
              · rw [if_neg a6] at h ⊢
                obtain ⟨d1, d2⟩ := hdm (by show e3 = 0; omega)
                have d1 : p2 ≤ p3 := d1
                have d2 : p3 ≤ 8 * s.size := d2 c2
                have hrl := repF_len (p := 0) (l := l) (most := most) (n := n) (d := x)
                obtain ⟨⟨e4, p4, m⟩, hr⟩ : ∃ r, repF 0 l most n x = r := ⟨_, rfl⟩
                have hr' : repF 0 l most (e2, p2, n).2.2 (e3, p3, x).2.2 = (e4, p4, m) := hr
                rw [hr'] at h ⊢
                rw [hr] at hrl
                by_cases a7 : e4 ≠ 0
                · rw [if_pos a7] at h; exact (a7 h).elim
                · rw [if_neg a7] at h ⊢
                  have hml : m.length ≤ most := (hrl (by show e4 = 0; omega)).1
                  obtain ⟨g1, g2, _⟩ := packF_mono c d s most hc hd k p3 m d2 hml h
                  have g1 : p3 ≤ (packF c d s most k p3 m).2.1 := g1
                  by_cases q2 : p2 ≤ Q
                  · rw [n1 q2, if_neg a5]
                    obtain ⟨D2, hD2⟩ : ∃ r, udist d t p2 = r := ⟨_, rfl⟩
                    have hD2' : udist d t (e2, p2, n).2.1 = D2 := hD2
                    rw [hD2']
                    have hdl := hdl q2
                    rw [hD2] at hdl
                    obtain ⟨m1, m2⟩ := hdl (by show e3 = 0; omega)
                    by_cases q3 : p3 ≤ Q
                    · rw [m1 q3, if_neg a6, hr', if_neg a7]
                      exact packF_loc A c d hc hd most k k' p3 m q3 hml (by omega) h
                    · refine ⟨fun h1 => ?_, fun h1 h2 => ?_⟩
                      · have h1 : (packF c d s most k p3 m).2.1 ≤ Q := h1
                        omega
                      · have h5 := m2 (by show Q < p3; omega) h2
                        rw [if_pos (by omega)]; exact h5
                  · refine ⟨fun h1 => ?_, fun h1 h2 => ?_⟩
                    · have h1 : (packF c d s most k p3 m).2.1 ≤ Q := h1
                      omega
                    · have h5 := n2 (by show Q < p2; omega) h2
                      rw [if_pos (by omega)]; exact h5
      · have gm := packF_mono c d s most hc hd (k + 1) p l (by omega) hl
        unfold packF at gm
        rw [if_neg a1] at gm
        refine ⟨fun h1 => ?_, fun h1 h2 => pass (by omega) h2⟩
        exfalso
        -- the end lies behind the symbol
        have e1 := gm h
        clear gm pass u1 u2 hU
        obtain ⟨⟨e1', p1, y⟩, hu⟩ : ∃ r, usym c s p = r := ⟨_, rfl⟩
        rw [hu] at b1 b2 b3 h hq h1
        have hq : ¬ p1 ≤ Q := hq
        have b3 : p1 ≤ 8 * s.size := b3
        by_cases a2 : y < 256
        · rw [if_pos a2] at h h1
          by_cases a3 : most < l.length + 1
          · rw [if_pos a3] at h; simp at h
          · rw [if_neg a3] at h h1
            obtain ⟨g1, _, _⟩ := packF_mono c d s most hc hd k p1 (l ++ [y]) b3 (by rw [List.length_append, List.length_singleton]; omega) h
            have h1 : (packF c d s most k p1 (l ++ [y])).2.1 ≤ Q := h1
            omega
        · rw [if_neg a2] at h h1
          by_cases a4 : y = 256
          · rw [if_pos a4] at h1
            exact hq h1
          · rw [if_neg a4] at h h1
            have hum := ulen_mono (s := s) (p := p1) (y := y)
            obtain ⟨⟨e2, p2, n⟩, hn⟩ : ∃ r, ulen s p1 y = r := ⟨_, rfl⟩
            have hn' : ulen s (e1', p1, y).2.1 (e1', p1, y).2.2 = (e2, p2, n) := hn
            rw [hn'] at h h1
            rw [hn] at hum
            by_cases a5 : e2 ≠ 0
            · rw [if_pos a5] at h; exact (a5 h).elim
            · rw [if_neg a5] at h h1
              obtain ⟨c1, c2⟩ := hum (by show e2 = 0; omega)
              have c1 : p1 ≤ p2 := c1
              have c2 : p2 ≤ 8 * s.size := c2 b3
              have hdm := udist_mono (s := s) (p := p2) hd
              obtain ⟨⟨e3, p3, x⟩, ht⟩ : ∃ r, udist d s p2 = r := ⟨_, rfl⟩
              have ht' : udist d s (e2, p2, n).2.1 = (e3, p3, x) := ht
              rw [ht'] at h h1
              rw [ht] at hdm
              by_cases a6 : e3 ≠ 0
              · rw [if_pos a6] at h; exact (a6 h).elim
              · rw [if_neg a6] at h h1
                obtain ⟨d1, d2⟩ := hdm (by show e3 = 0; omega)
                have d1 : p2 ≤ p3 := d1
                have d2 : p3 ≤ 8 * s.size := d2 c2
                have hrl := repF_len (p := 0) (l := l) (most := most) (n := n) (d := x)
                obtain ⟨⟨e4, p4, m⟩, hr⟩ : ∃ r, repF 0 l most n x = r := ⟨_, rfl⟩
                have hr' : repF 0 l most (e2, p2, n).2.2 (e3, p3, x).2.2 = (e4, p4, m) := hr
                rw [hr'] at h h1
                rw [hr] at hrl
                by_cases a7 : e4 ≠ 0
                · rw [if_pos a7] at h; exact (a7 h).elim
                · rw [if_neg a7] at h h1
                  obtain ⟨g1, _, _⟩ := packF_mono c d s most hc hd k p3 m d2 (hrl (by show e4 = 0; omega)).1 h
                  have h1 : (packF c d s most k p3 m).2.1 ≤ Q := h1
                  have g1 : p3 ≤ (packF c d s most k p3 m).2.1 := g1
                  omega
end Go.Proofs.YtchjnfckcfikkaaDoor
namespace Go.Proofs.YtchjnfckcfikkaaDoor
open Go.RowKit
set_option linter.unusedVariables false

variable {s t : ByteArray} {Q : Nat}
theorem runF_loc (A : Alike s t Q) (ns : List Nat) (hn : ns.length ≤ 288) (p : Nat) (L : List Nat) (hp : p ≤ Q) : Loc Q (8 * t.size) (runF ns s p L) (runF ns t p L) := by
  intro h
  have hU := usym_loc A ns hn p hp
  unfold runF at h ⊢
  by_cases a : (usym ns s p).1 ≠ 0
  · rw [if_pos a] at h; exact (a h).elim
  · rw [if_neg a] at h ⊢
    obtain ⟨u1, u2⟩ := hU (by omega)
    by_cases c : (usym ns s p).2.1 ≤ Q
    · rw [u1 c, if_neg a]
      obtain ⟨⟨e1, p1, y⟩, hu⟩ : ∃ r, usym ns s p = r := ⟨_, rfl⟩
      rw [hu] at h c ⊢
      have c : p1 ≤ Q := c
      have key : ∀ m (F : Nat → Nat × Nat), (ub s p1 m).1 = 0 → ((ub s p1 m).2.1 ≤ Q → ((ub t p1 m).1, (ub t p1 m).2.1, F (ub t p1 m).2.2) = ((ub s p1 m).1, (ub s p1 m).2.1, F (ub s p1 m).2.2)) ∧ (Q < (ub s p1 m).2.1 → 8 * t.size = Q → (ub t p1 m).1 = 5) := fun m F h0 => by
        obtain ⟨g1, g2⟩ := ub_loc A p1 m h0
        exact ⟨fun h3 => by rw [g1 h3], fun h3 h4 => g2 h3 h4⟩
      by_cases y16 : y = 16
      · rw [if_pos y16] at h ⊢
        rw [if_pos y16]
        by_cases hL : L = []
        · rw [if_pos hL] at h; simp at h
        · rw [if_neg hL] at h ⊢
          rw [if_neg hL]
          exact key 2 (fun z => (L.getLastD 0, 3 + z)) h
      · rw [if_neg y16] at h ⊢
        rw [if_neg y16]
        by_cases y17 : y = 17
        · rw [if_pos y17] at h ⊢
          rw [if_pos y17]
          exact key 3 (fun z => (0, 3 + z)) h
        · rw [if_neg y17] at h ⊢
          rw [if_neg y17]
          by_cases y18 : y = 18
          · rw [if_pos y18] at h ⊢
            rw [if_pos y18]
            exact key 7 (fun z => (0, 11 + z)) h
          · rw [if_neg y18, if_neg y18]
            exact ⟨fun _ => rfl, fun h1 => by have h1 : Q < p1 := h1; omega⟩
    · have hm := runF_ok (ns := ns) (s := s) (p := p) (L := L) hn
      refine ⟨fun h1 => ?_, fun h1 h2 => ?_⟩
      · exfalso
        obtain ⟨⟨e1, p1, y⟩, hu⟩ : ∃ r, usym ns s p = r := ⟨_, rfl⟩
        rw [hu] at h c h1
        have c : ¬ p1 ≤ Q := c
        have key : ∀ m, (ub s p1 m).1 = 0 → (ub s p1 m).2.1 ≤ Q → False := fun m h0 h1 => by
          obtain ⟨c1, c2⟩ := ub_le h0
          omega
        by_cases y16 : y = 16
        · rw [if_pos y16] at h h1
          by_cases hL : L = []
          · rw [if_pos hL] at h; simp at h
          · rw [if_neg hL] at h h1
            exact key 2 h h1
        · rw [if_neg y16] at h h1
          by_cases y17 : y = 17
          · rw [if_pos y17] at h h1
            exact key 3 h h1
          · rw [if_neg y17] at h h1
            by_cases y18 : y = 18
            · rw [if_pos y18] at h h1
              exact key 7 h h1
            · rw [if_neg y18] at h1
              exact c h1
      · have h5 := u2 (by omega) h2
        rw [if_pos (by omega)]; exact h5
theorem lensF_loc (A : Alike s t Q) (ns : List Nat) (hn : ns.length ≤ 288) (n : Nat) : ∀ (k p : Nat) (L : List Nat), p ≤ Q → L.length ≤ n → Loc Q (8 * t.size) (lensF ns s n k p L) (lensF ns t n k p L)
  | 0, p, L, hp, hl => fun h => by simp [lensF] at h
  | k + 1, p, L, hp, hl => fun h => by
    have hR := runF_loc A ns hn p L hp
    unfold lensF at h ⊢
    by_cases a1 : n ≤ L.length
    · rw [if_pos a1, if_pos a1]
      exact ⟨fun _ => rfl, fun h1 => by have h1 : Q < p := h1; omega⟩
    · rw [if_neg a1] at h ⊢
      rw [if_neg a1]
      by_cases a2 : (runF ns s p L).1 ≠ 0
      · rw [if_pos a2] at h; exact (a2 h).elim
      · rw [if_neg a2] at h ⊢
        obtain ⟨r1, r2⟩ := hR (by omega)
        by_cases a3 : n - L.length < (runF ns s p L).2.2.2
        · rw [if_pos a3] at h; simp at h
        · rw [if_neg a3] at h ⊢
          have hl2 : (L ++ List.replicate (runF ns s p L).2.2.2 (runF ns s p L).2.2.1).length ≤ n := by rw [List.length_append, List.length_replicate]; omega
          by_cases c : (runF ns s p L).2.1 ≤ Q
          · rw [r1 c, if_neg a2, if_neg a3]
            exact lensF_loc A ns hn n k _ _ c hl2 h
          · obtain ⟨_, g2, _⟩ := lensF_size hn k _ _ hl2 h
            refine ⟨fun h1 => by omega, fun h1 h2 => ?_⟩
            have h5 := r2 (by omega) h2
            rw [if_pos (by omega)]; exact h5
theorem fcOf_loc (A : Alike s t Q) (p : Nat) : ∀ n, p + 3 * n ≤ Q → fcOf t p n = fcOf s p n
  | 0, _ => rfl
  | n + 1, h => by
    funext i
    show (if i = ordL.getD n 0 then num t (p + 3 * n) 3 else fcOf t p n i) = if i = ordL.getD n 0 then num s (p + 3 * n) 3 else fcOf s p n i
    rw [fcOf_loc A p n (by omega), A.num (p + 3 * n) 3 (by omega)]
theorem toldF_loc (A : Alike s t Q) (p : Nat) (hp : p ≤ Q) : Loc Q (8 * t.size) (toldF s p) (toldF t p) := by
  intro h
  have hA := A.l
  have hB := A.r
  have hm := toldF_ok s p (by omega) h
  unfold toldF at h ⊢
  by_cases a1 : 8 * s.size < p + 14
  · rw [if_pos a1] at h; simp at h
  · rw [if_neg a1] at h ⊢
    by_cases a2 : 29 < num s p 5 ∨ 29 < num s (p + 5) 5
    · rw [if_pos a2] at h; simp at h
    · rw [if_neg a2] at h ⊢
      by_cases a3 : 8 * s.size < p + 14 + 3 * (4 + num s (p + 10) 4)
      · rw [if_pos a3] at h; simp at h
      · rw [if_neg a3] at h ⊢
        by_cases a4 : wholeB ((List.range 19).map fun i => (fcOf s (p + 14) (4 + num s (p + 10) 4) i : Int)) = false
        · rw [if_pos a4] at h; simp at h
        · rw [if_neg a4] at h ⊢
          have hsz := lensF_size (ns := fcL s (p + 14) (4 + num s (p + 10) 4)) (s := s) (n := 258 + num s p 5 + num s (p + 5) 5) (by simp [fcL]) (258 + num s p 5 + num s (p + 5) 5 + 1) (p + 14 + 3 * (4 + num s (p + 10) 4)) [] (Nat.zero_le _)
          have e : lensF (fcL s (p + 14) (4 + num s (p + 10) 4)) s (258 + num s p 5 + num s (p + 5) 5) (258 + num s p 5 + num s (p + 5) 5 + 1) (p + 14 + 3 * (4 + num s (p + 10) 4)) [] = toldL s p (num s p 5) (num s (p + 5) 5) (num s (p + 10) 4) := rfl
          rw [e] at hsz
          have hloc : p + 14 + 3 * (4 + num s (p + 10) 4) ≤ Q → Loc Q (8 * t.size) (toldL s p (num s p 5) (num s (p + 5) 5) (num s (p + 10) 4)) (toldL t p (num s p 5) (num s (p + 5) 5) (num s (p + 10) 4)) := fun hq => by
            have h1 := lensF_loc A (fcL s (p + 14) (4 + num s (p + 10) 4)) (by simp [fcL]) (258 + num s p 5 + num s (p + 5) 5) (258 + num s p 5 + num s (p + 5) 5 + 1) (p + 14 + 3 * (4 + num s (p + 10) 4)) [] hq (Nat.zero_le _)
            have h2 : fcL t (p + 14) (4 + num s (p + 10) 4) = fcL s (p + 14) (4 + num s (p + 10) 4) := by unfold fcL; rw [fcOf_loc A _ _ hq]
            unfold toldL
            rw [h2]
            exact h1
          -- what told codes end at
          have hend : (toldE (toldL s p (num s p 5) (num s (p + 5) 5) (num s (p + 10) 4)) p (num s p 5) (num s (p + 5) 5)).2.1 = (toldL s p (num s p 5) (num s (p + 5) 5) (num s (p + 10) 4)).2.1 ∧ (toldL s p (num s p 5) (num s (p + 5) 5) (num s (p + 10) 4)).1 = 0 := by
            unfold toldE at h ⊢
            split at h
            · rename_i b; exact (b h).elim
            · rename_i b
              rw [if_neg b]
              split at h
              · simp at h
              · rename_i b2
                rw [if_neg b2]
                split at h
                · simp at h
                · rename_i b3
                  rw [if_neg b3]
                  split at h
                  · simp at h
                  · rename_i b4
                    rw [if_neg b4]
                    exact ⟨rfl, by omega⟩
          obtain ⟨hend, hL0⟩ := hend
          obtain ⟨_, c2, _⟩ := hsz hL0
          rw [hend]
          by_cases q1 : p + 14 ≤ Q
          · rw [if_neg (by omega), A.num p 5 (by omega), A.num (p + 5) 5 (by omega), A.num (p + 10) 4 (by omega), if_neg a2]
            by_cases q2 : p + 14 + 3 * (4 + num s (p + 10) 4) ≤ Q
            · have hfc := fcOf_loc A (p + 14) (4 + num s (p + 10) 4) q2
              rw [if_neg (by omega), hfc, if_neg a4]
              obtain ⟨l1, l2⟩ := hloc q2 hL0
              refine ⟨fun h1 => by rw [l1 h1], fun h1 h2 => ?_⟩
              have h5 := l2 h1 h2
              unfold toldE
              rw [if_pos (by omega)]; exact h5
            · refine ⟨fun h1 => by omega, fun h1 h2 => ?_⟩
              rw [if_pos (by omega)]
          · refine ⟨fun h1 => by omega, fun h1 h2 => ?_⟩
            rw [if_pos (by omega)]
theorem byte_alike (A : Alike s t Q) (i : Nat) (h : 8 * i + 8 ≤ Q) : byteAt t i = byteAt s i := by
  have hl := A.l
  have hr := A.r
  have e1 := num_byte s i
  have e2 := num_byte t i
  rw [← e1, ← e2]
  exact A.num (8 * i) 8 (by omega)
theorem ext_alike (A : Alike s t Q) (a n : Nat) (h : 8 * (a + n) ≤ Q) : (t.extract a (a + n)).data.toList.map UInt8.toNat = (s.extract a (a + n)).data.toList.map UInt8.toNat := by
  have hl := A.l
  have hr := A.r
  apply List.ext_getElem
  · rw [List.length_map, List.length_map]
    show (t.extract a (a + n)).size = (s.extract a (a + n)).size
    rw [ByteArray.size_extract, ByteArray.size_extract]; omega
  · intro i h1 h2
    rw [List.length_map] at h1 h2
    have h1' : i < (t.extract a (a + n)).size := h1
    have h2' : i < (s.extract a (a + n)).size := h2
    rw [ByteArray.size_extract] at h1' h2'
    have hb := byte_alike A (a + i) (by omega)
    unfold byteAt at hb
    simp only [List.getElem_map, ByteArray.data_extract, Array.getElem_toList, Array.getElem_extract]
    have g1 : a + i < t.size := by omega
    have g2 : a + i < s.size := by omega
    simpa [List.getD_eq_getElem?_getD, g1, g2] using hb
theorem storedF_loc (A : Alike s t Q) (p : Nat) (l : List Nat) (most : Nat) : Loc Q (8 * t.size) (storedF s p l most) (storedF t p l most) := by
  intro h
  have hA := A.l
  have hB := A.r
  unfold storedF at h ⊢
  simp only at h ⊢
  obtain ⟨q, hq⟩ : ∃ q, (p + 7) / 8 * 8 = q := ⟨_, rfl⟩
  rw [hq] at h ⊢
  by_cases a1 : 8 * s.size < q + 16
  · rw [if_pos a1] at h; simp at h
  · rw [if_neg a1] at h ⊢
    by_cases a2 : 8 * s.size < q + 32
    · rw [if_pos a2] at h; simp at h
    · rw [if_neg a2] at h ⊢
      by_cases a3 : num s q 16 ^^^ num s (q + 16) 16 ≠ 65535
      · rw [if_pos a3] at h; simp at h
      · rw [if_neg a3] at h ⊢
        by_cases a4 : most < l.length + num s q 16
        · rw [if_pos a4] at h; simp at h
        · rw [if_neg a4] at h ⊢
          by_cases a5 : 8 * s.size < q + 32 + 8 * num s q 16
          · rw [if_pos a5] at h; simp at h
          · rw [if_neg a5]
            by_cases c1 : q + 32 ≤ Q
            · rw [if_neg (by omega), if_neg (by omega), A.num q 16 (by omega), A.num (q + 16) 16 (by omega), if_neg a3, if_neg a4]
              refine ⟨fun h1 => ?_, fun h1 h2 => ?_⟩
              · have h1 : q + 32 + 8 * num s q 16 ≤ Q := h1
                rw [if_neg (by omega), ext_alike A ((q + 32) / 8) (num s q 16) (by omega)]
              · have h1 : Q < q + 32 + 8 * num s q 16 := h1
                rw [if_pos (by omega)]
            · refine ⟨fun h1 => ?_, fun h1 h2 => ?_⟩
              · have h1 : q + 32 + 8 * num s q 16 ≤ Q := h1
                omega
              · by_cases c2 : 8 * t.size < q + 16
                · rw [if_pos c2]
                · rw [if_neg c2, if_pos (by omega)]
theorem blockF_loc (A : Alike s t Q) (most p : Nat) (l : List Nat) (hp : p ≤ Q) (hl : l.length ≤ most) : Loc Q (8 * t.size) (blockF (toldF s) s most p l) (blockF (toldF t) t most p l) := by
  intro h
  have hA := A.l
  have hB := A.r
  have hm := blockF_mono (toldF_ok s) hl h
  unfold blockF at h hm ⊢
  by_cases a1 : 8 * s.size < p + 1
  · rw [if_pos a1] at h; simp at h
  · rw [if_neg a1] at h hm ⊢
    by_cases a2 : 8 * s.size < p + 3
    · rw [if_pos a2] at h; simp at h
    · rw [if_neg a2] at h hm ⊢
      by_cases q1 : p + 3 ≤ Q
      · rw [if_neg (show ¬ 8 * t.size < p + 1 by omega), if_neg (show ¬ 8 * t.size < p + 3 by omega), A.num (p + 1) 2 (by omega)]
        by_cases a3 : num s (p + 1) 2 = 0
        · rw [if_pos a3] at h ⊢
          rw [if_pos a3]
          exact storedF_loc A (p + 3) l most h
        · rw [if_neg a3] at h ⊢
          rw [if_neg a3]
          by_cases a4 : num s (p + 1) 2 = 1
          · rw [if_pos a4] at h ⊢
            rw [if_pos a4]
            exact packF_loc A fixS fixD (by rw [fixS_len]; omega) (by rw [fixD_len]; omega) most _ _ (p + 3) l q1 hl (Nat.le_refl _) h
          · rw [if_neg a4] at h hm ⊢
            rw [if_neg a4]
            by_cases a5 : num s (p + 1) 2 = 2
            · rw [if_pos a5] at h ⊢
              rw [if_pos a5]
              by_cases a6 : (toldF s (p + 3)).1 ≠ 0
              · rw [if_pos a6] at h; exact (a6 h).elim
              · rw [if_neg a6] at h ⊢
                obtain ⟨c1, c2, c3, c4⟩ := toldF_ok s (p + 3) (by omega) (by omega)
                obtain ⟨t1, t2⟩ := toldF_loc A (p + 3) q1 (by omega)
                by_cases q2 : (toldF s (p + 3)).2.1 ≤ Q
                · rw [t1 q2, if_neg a6]
                  exact packF_loc A _ _ c3 c4 most _ _ _ l q2 hl (Nat.le_refl _) h
                · obtain ⟨g1, _, _⟩ := packF_mono _ _ s most c3 c4 _ (toldF s (p + 3)).2.1 l c2 hl h
                  refine ⟨fun h1 => by omega, fun h1 h2 => ?_⟩
                  have h5 := t2 (by omega) h2
                  rw [if_pos (by omega)]; exact h5
            · rw [if_neg a5] at h; simp at h
      · refine ⟨fun h1 => ?_, fun h1 h2 => ?_⟩
        · exfalso
          by_cases a3 : num s (p + 1) 2 = 0
          · rw [if_pos a3] at h h1
            have := storedF_mono h
            omega
          · rw [if_neg a3] at h h1
            by_cases a4 : num s (p + 1) 2 = 1
            · rw [if_pos a4] at h h1
              have := packF_mono fixS fixD s most (by rw [fixS_len]; omega) (by rw [fixD_len]; omega) _ (p + 3) l (by omega) hl h
              omega
            · rw [if_neg a4] at h h1
              by_cases a5 : num s (p + 1) 2 = 2
              · rw [if_pos a5] at h h1
                by_cases a6 : (toldF s (p + 3)).1 ≠ 0
                · rw [if_pos a6] at h; exact (a6 h).elim
                · rw [if_neg a6] at h h1
                  obtain ⟨c1, c2, c3, c4⟩ := toldF_ok s (p + 3) (by omega) (by omega)
                  have := packF_mono _ _ s most c3 c4 _ (toldF s (p + 3)).2.1 l c2 hl h
                  omega
              · rw [if_neg a5] at h; simp at h
        · by_cases c2 : 8 * t.size < p + 1
          · rw [if_pos c2]
          · rw [if_neg c2, if_pos (by omega)]
theorem blocksF_loc (A : Alike s t Q) (most : Nat) : ∀ (k k' p : Nat) (l : List Nat), p ≤ Q → l.length ≤ most → 8 * t.size + 1 - p ≤ k' → Loc Q (8 * t.size) (blocksF (toldF s) s most k p l) (blocksF (toldF t) t most k' p l)
  | 0, k', p, l, hp, hl, hk => fun h => by simp [blocksF] at h
  | k + 1, 0, p, l, hp, hl, hk => by have := A.r; omega
  | k + 1, k' + 1, p, l, hp, hl, hk => fun h => by
    have hA := A.l
    have hB := A.r
    have hb := blockF_loc A most p l hp hl
    have hs : ∀ k p l, l.length ≤ most → (blocksF (toldF s) s most k p l).1 = 0 → p ≤ (blocksF (toldF s) s most k p l).2.1 := by
      intro k
      induction k with
      | zero => intro p l _ h; simp [blocksF] at h
      | succ k ih =>
        intro p l hl h
        unfold blocksF at h ⊢
        by_cases b1 : (blockF (toldF s) s most p l).1 ≠ 0
        · rw [if_pos b1] at h; exact (b1 h).elim
        · rw [if_neg b1] at h ⊢
          obtain ⟨m1, m2, m3⟩ := blockF_mono (toldF_ok s) hl (by omega : (blockF (toldF s) s most p l).1 = 0)
          by_cases b2 : num s p 1 = 1
          · rw [if_pos b2]; exact Nat.le_of_lt m1
          · rw [if_neg b2] at h ⊢
            have := ih _ _ m3 h
            omega
    unfold blocksF at h ⊢
    by_cases a1 : (blockF (toldF s) s most p l).1 ≠ 0
    · rw [if_pos a1] at h; exact (a1 h).elim
    · rw [if_neg a1] at h ⊢
      obtain ⟨m1, m2, m3⟩ := blockF_mono (toldF_ok s) hl (by omega : (blockF (toldF s) s most p l).1 = 0)
      obtain ⟨u1, u2⟩ := hb (by omega)
      by_cases q1 : (blockF (toldF s) s most p l).2.1 ≤ Q
      · rw [u1 q1, if_neg a1, A.num p 1 (by omega)]
        by_cases a2 : num s p 1 = 1
        · rw [if_pos a2, if_pos a2]
          exact ⟨fun _ => rfl, fun h1 => by have h1 : Q < (blockF (toldF s) s most p l).2.1 := h1; omega⟩
        · rw [if_neg a2] at h ⊢
          rw [if_neg a2]
          exact blocksF_loc A most k k' _ _ q1 m3 (by omega) h
      · refine ⟨fun h1 => ?_, fun h1 h2 => ?_⟩
        · exfalso
          by_cases a2 : num s p 1 = 1
          · rw [if_pos a2] at h1
            exact q1 h1
          · rw [if_neg a2] at h h1
            have := hs _ _ _ m3 h
            omega
        · have h5 := u2 (by omega) h2
          rw [if_pos (by omega)]; exact h5
/-- All of Inflate. -/
theorem infF_loc (A : Alike s t Q) (most : Nat) : Loc Q (8 * t.size) (infF s most) (infF t most) := blocksF_loc A most _ _ 0 [] (Nat.zero_le _) (Nat.zero_le _) (by omega)
theorem blocksF_le (s : ByteArray) (most : Nat) : ∀ (k p : Nat) (l : List Nat), l.length ≤ most → (blocksF (toldF s) s most k p l).1 = 0 → (blocksF (toldF s) s most k p l).2.1 ≤ 8 * s.size ∧ p < (blocksF (toldF s) s most k p l).2.1 ∧ (blocksF (toldF s) s most k p l).2.2.length ≤ most
  | 0, p, l, hl, h => by simp [blocksF] at h
  | k + 1, p, l, hl, h => by
    unfold blocksF at h ⊢
    by_cases a1 : (blockF (toldF s) s most p l).1 ≠ 0
    · rw [if_pos a1] at h; exact (a1 h).elim
    · rw [if_neg a1] at h ⊢
      obtain ⟨m1, m2, m3⟩ := blockF_mono (toldF_ok s) hl (by omega : (blockF (toldF s) s most p l).1 = 0)
      by_cases a2 : num s p 1 = 1
      · rw [if_pos a2]; exact ⟨m2, m1, m3⟩
      · rw [if_neg a2] at h ⊢
        obtain ⟨g1, g2, g3⟩ := blocksF_le s most k _ _ m3 h
        exact ⟨g1, by omega, g3⟩
theorem infF_le (s : ByteArray) (most : Nat) (h : (infF s most).1 = 0) : (infF s most).2.1 ≤ 8 * s.size ∧ 0 < (infF s most).2.1 ∧ (infF s most).2.2.length ≤ most := blocksF_le s most _ 0 [] (Nat.zero_le _) h
end Go.Proofs.YtchjnfckcfikkaaDoor
namespace Go.Proofs.YtchjnfckcfikkaaDoor
open Go.RowKit
set_option linter.unusedVariables false

/-- b, with room for m, is what a is, where that has no more plain bytes than m; else there is too little room. -/
def Room (m : Nat) (a b : Nat × Nat × List Nat) : Prop := a.1 = 0 → (a.2.2.length ≤ m → b = a) ∧ (m < a.2.2.length → b.1 = 4)
variable {s : ByteArray} {most m : Nat}
theorem copyL_longer (d : Nat) : ∀ (n : Nat) (l : List Nat), (copyL d n l).length = l.length + n
  | 0, l => rfl
  | n + 1, l => by
    rw [copyL_succ, List.length_append, copyL_longer d n, List.length_singleton]; omega
theorem repF_grow {p : Nat} {l : List Nat} {n d : Nat} (h : (repF p l most n d).1 = 0) : (repF p l most n d).2.2.length = l.length + n := by
  unfold repF at h ⊢
  split at h
  · simp at h
  · rename_i a
    rw [if_neg a]
    split at h
    · simp at h
    · rename_i b
      rw [if_neg b]
      exact copyL_longer d n l
theorem repF_room {p : Nat} {l : List Nat} {n d : Nat} : Room m (repF p l most n d) (repF p l m n d) := by
  intro h
  have hg := repF_grow h
  rw [hg]
  unfold repF at h ⊢
  by_cases a : l.length < d
  · rw [if_pos a] at h; simp at h
  · rw [if_neg a] at h ⊢
    rw [if_neg a]
    by_cases b : most < l.length + n
    · rw [if_pos b] at h; simp at h
    · rw [if_neg b]
      exact ⟨fun h1 => by rw [if_neg (by omega)], fun h1 => by rw [if_pos h1]⟩
theorem packF_grow (c d : List Nat) (s : ByteArray) (most : Nat) : ∀ (k p : Nat) (l : List Nat), (packF c d s most k p l).1 = 0 → l.length ≤ (packF c d s most k p l).2.2.length
  | 0, p, l, h => by simp [packF] at h
  | k + 1, p, l, h => by
    unfold packF at h ⊢
    by_cases a1 : (usym c s p).1 ≠ 0
    · rw [if_pos a1] at h; exact (a1 h).elim
    · rw [if_neg a1] at h ⊢
      by_cases a2 : (usym c s p).2.2 < 256
      · rw [if_pos a2] at h ⊢
        by_cases a3 : most < l.length + 1
        · rw [if_pos a3] at h; simp at h
        · rw [if_neg a3] at h ⊢
          have := packF_grow c d s most k _ _ h
          rw [List.length_append, List.length_singleton] at this
          omega
      · rw [if_neg a2] at h ⊢
        by_cases a4 : (usym c s p).2.2 = 256
        · rw [if_pos a4]; exact Nat.le_refl _
        · rw [if_neg a4] at h ⊢
          obtain ⟨u, hu⟩ : ∃ u, ulen s (usym c s p).2.1 (usym c s p).2.2 = u := ⟨_, rfl⟩
          rw [hu] at h ⊢
          by_cases a5 : u.1 ≠ 0
          · rw [if_pos a5] at h; exact (a5 h).elim
          · rw [if_neg a5] at h ⊢
            obtain ⟨v, hv⟩ : ∃ v, udist d s u.2.1 = v := ⟨_, rfl⟩
            rw [hv] at h ⊢
            by_cases a6 : v.1 ≠ 0
            · rw [if_pos a6] at h; exact (a6 h).elim
            · rw [if_neg a6] at h ⊢
              have hr := repF_grow (most := most) (p := 0) (l := l) (n := u.2.2) (d := v.2.2)
              obtain ⟨r, hr'⟩ : ∃ r, repF 0 l most u.2.2 v.2.2 = r := ⟨_, rfl⟩
              rw [hr'] at h hr ⊢
              by_cases a7 : r.1 ≠ 0
              · rw [if_pos a7] at h; exact (a7 h).elim
              · rw [if_neg a7] at h ⊢
                have h1 := hr (by omega)
                have h2 := packF_grow c d s most k _ _ h
                omega
theorem packF_room (c d : List Nat) (s : ByteArray) (most m : Nat) : ∀ (k p : Nat) (l : List Nat), l.length ≤ m → Room m (packF c d s most k p l) (packF c d s m k p l)
  | 0, p, l, hl => fun h => by simp [packF] at h
  | k + 1, p, l, hl => fun h => by
    unfold packF at h ⊢
    by_cases a1 : (usym c s p).1 ≠ 0
    · rw [if_pos a1] at h; exact (a1 h).elim
    · rw [if_neg a1] at h ⊢
      rw [if_neg a1]
      by_cases a2 : (usym c s p).2.2 < 256
      · rw [if_pos a2] at h ⊢
        rw [if_pos a2]
        by_cases a3 : most < l.length + 1
        · rw [if_pos a3] at h; simp at h
        · rw [if_neg a3] at h ⊢
          have hg := packF_grow c d s most k _ _ h
          rw [List.length_append, List.length_singleton] at hg
          by_cases a8 : m < l.length + 1
          · rw [if_pos a8]
            exact ⟨fun h1 => by omega, fun _ => rfl⟩
          · rw [if_neg a8]
            exact packF_room c d s most m k _ _ (by rw [List.length_append, List.length_singleton]; omega) h
      · rw [if_neg a2] at h ⊢
        rw [if_neg a2]
        by_cases a4 : (usym c s p).2.2 = 256
        · rw [if_pos a4, if_pos a4]
          exact ⟨fun _ => rfl, fun h1 => by have h1 : m < l.length := h1; omega⟩
        · rw [if_neg a4] at h ⊢
          rw [if_neg a4]
          obtain ⟨u, hu⟩ : ∃ u, ulen s (usym c s p).2.1 (usym c s p).2.2 = u := ⟨_, rfl⟩
          rw [hu] at h ⊢
          by_cases a5 : u.1 ≠ 0
          · rw [if_pos a5] at h; exact (a5 h).elim
          · rw [if_neg a5] at h ⊢
            rw [if_neg a5]
            obtain ⟨v, hv⟩ : ∃ v, udist d s u.2.1 = v := ⟨_, rfl⟩
            rw [hv] at h ⊢
            by_cases a6 : v.1 ≠ 0
            · rw [if_pos a6] at h; exact (a6 h).elim
            · rw [if_neg a6] at h ⊢
              rw [if_neg a6]
              have hg := repF_grow (most := most) (p := 0) (l := l) (n := u.2.2) (d := v.2.2)
              have hro := repF_room (most := most) (m := m) (p := 0) (l := l) (n := u.2.2) (d := v.2.2)
              obtain ⟨r, hr'⟩ : ∃ r, repF 0 l most u.2.2 v.2.2 = r := ⟨_, rfl⟩
              rw [hr'] at h hg hro ⊢
              by_cases a7 : r.1 ≠ 0
              · rw [if_pos a7] at h; exact (a7 h).elim
              · rw [if_neg a7] at h ⊢
                obtain ⟨r1, r2⟩ := hro (by omega)
                have hk := packF_grow c d s most k _ _ h
                by_cases a8 : r.2.2.length ≤ m
                · rw [r1 a8, if_neg a7]
                  exact packF_room c d s most m k _ _ a8 h
                · have h4 := r2 (by omega)
                  refine ⟨fun h1 => by omega, fun h1 => ?_⟩
                  rw [if_pos (by omega)]; exact h4
theorem storedF_room (s : ByteArray) (p : Nat) (l : List Nat) : Room m (storedF s p l most) (storedF s p l m) := by
  intro h
  unfold storedF at h ⊢
  simp only at h ⊢
  obtain ⟨q, hq⟩ : ∃ q, (p + 7) / 8 * 8 = q := ⟨_, rfl⟩
  rw [hq] at h ⊢
  by_cases a1 : 8 * s.size < q + 16
  · rw [if_pos a1] at h; simp at h
  · rw [if_neg a1] at h ⊢
    rw [if_neg a1]
    by_cases a2 : 8 * s.size < q + 32
    · rw [if_pos a2] at h; simp at h
    · rw [if_neg a2] at h ⊢
      rw [if_neg a2]
      by_cases a3 : num s q 16 ^^^ num s (q + 16) 16 ≠ 65535
      · rw [if_pos a3] at h; simp at h
      · rw [if_neg a3] at h ⊢
        rw [if_neg a3]
        by_cases a4 : most < l.length + num s q 16
        · rw [if_pos a4] at h; simp at h
        · rw [if_neg a4] at h ⊢
          by_cases a5 : 8 * s.size < q + 32 + 8 * num s q 16
          · rw [if_pos a5] at h; simp at h
          · rw [if_neg a5]
            have hlen : (l ++ (s.extract ((q + 32) / 8) ((q + 32) / 8 + num s q 16)).data.toList.map UInt8.toNat).length = l.length + num s q 16 := by
              rw [List.length_append, List.length_map]
              have : (s.extract ((q + 32) / 8) ((q + 32) / 8 + num s q 16)).data.toList.length = num s q 16 := by
                show (s.extract ((q + 32) / 8) ((q + 32) / 8 + num s q 16)).size = _
                rw [ByteArray.size_extract]; omega
              rw [this]
            refine ⟨fun h1 => ?_, fun h1 => ?_⟩
            · have h1 : (l ++ (s.extract ((q + 32) / 8) ((q + 32) / 8 + num s q 16)).data.toList.map UInt8.toNat).length ≤ m := h1
              rw [if_neg (by omega)]
            · have h1 : m < (l ++ (s.extract ((q + 32) / 8) ((q + 32) / 8 + num s q 16)).data.toList.map UInt8.toNat).length := h1
              rw [if_pos (by omega)]
theorem storedF_grow (s : ByteArray) (p : Nat) (l : List Nat) (h : (storedF s p l most).1 = 0) : l.length ≤ (storedF s p l most).2.2.length := by
  unfold storedF at h ⊢
  simp only at h ⊢
  obtain ⟨q, hq⟩ : ∃ q, (p + 7) / 8 * 8 = q := ⟨_, rfl⟩
  rw [hq] at h ⊢
  split at h
  · simp at h
  · rename_i a1
    rw [if_neg a1]
    split at h
    · simp at h
    · rename_i a2
      rw [if_neg a2]
      split at h
      · simp at h
      · rename_i a3
        rw [if_neg a3]
        split at h
        · simp at h
        · rename_i a4
          rw [if_neg a4]
          split at h
          · simp at h
          · rename_i a5
            rw [if_neg a5]
            show l.length ≤ (l ++ _).length
            rw [List.length_append]; omega
theorem blockF_room (told : Nat → Nat × Nat × List Nat × List Nat) (p : Nat) (l : List Nat) (hl : l.length ≤ m) : Room m (blockF told s most p l) (blockF told s m p l) := by
  intro h
  unfold blockF at h ⊢
  by_cases a1 : 8 * s.size < p + 1
  · rw [if_pos a1] at h; simp at h
  · rw [if_neg a1] at h ⊢
    rw [if_neg a1]
    by_cases a2 : 8 * s.size < p + 3
    · rw [if_pos a2] at h; simp at h
    · rw [if_neg a2] at h ⊢
      rw [if_neg a2]
      by_cases a3 : num s (p + 1) 2 = 0
      · rw [if_pos a3] at h ⊢
        rw [if_pos a3]
        exact storedF_room s (p + 3) l h
      · rw [if_neg a3] at h ⊢
        rw [if_neg a3]
        by_cases a4 : num s (p + 1) 2 = 1
        · rw [if_pos a4] at h ⊢
          rw [if_pos a4]
          exact packF_room fixS fixD s most m _ (p + 3) l hl h
        · rw [if_neg a4] at h ⊢
          rw [if_neg a4]
          by_cases a5 : num s (p + 1) 2 = 2
          · rw [if_pos a5] at h ⊢
            rw [if_pos a5]
            by_cases a6 : (told (p + 3)).1 ≠ 0
            · rw [if_pos a6] at h; exact (a6 h).elim
            · rw [if_neg a6] at h ⊢
              rw [if_neg a6]
              exact packF_room _ _ s most m _ _ l hl h
          · rw [if_neg a5] at h; simp at h
theorem blockF_grow (told : Nat → Nat × Nat × List Nat × List Nat) (p : Nat) (l : List Nat) (h : (blockF told s most p l).1 = 0) : l.length ≤ (blockF told s most p l).2.2.length := by
  unfold blockF at h ⊢
  by_cases a1 : 8 * s.size < p + 1
  · rw [if_pos a1] at h; simp at h
  · rw [if_neg a1] at h ⊢
    by_cases a2 : 8 * s.size < p + 3
    · rw [if_pos a2] at h; simp at h
    · rw [if_neg a2] at h ⊢
      by_cases a3 : num s (p + 1) 2 = 0
      · rw [if_pos a3] at h ⊢
        exact storedF_grow s (p + 3) l h
      · rw [if_neg a3] at h ⊢
        by_cases a4 : num s (p + 1) 2 = 1
        · rw [if_pos a4] at h ⊢
          exact packF_grow fixS fixD s most _ (p + 3) l h
        · rw [if_neg a4] at h ⊢
          by_cases a5 : num s (p + 1) 2 = 2
          · rw [if_pos a5] at h ⊢
            by_cases a6 : (told (p + 3)).1 ≠ 0
            · rw [if_pos a6] at h; exact (a6 h).elim
            · rw [if_neg a6] at h ⊢
              exact packF_grow _ _ s most _ _ l h
          · rw [if_neg a5] at h; simp at h
theorem blocksF_grow (told : Nat → Nat × Nat × List Nat × List Nat) : ∀ (k p : Nat) (l : List Nat), (blocksF told s most k p l).1 = 0 → l.length ≤ (blocksF told s most k p l).2.2.length
  | 0, p, l, h => by simp [blocksF] at h
  | k + 1, p, l, h => by
    unfold blocksF at h ⊢
    by_cases a1 : (blockF told s most p l).1 ≠ 0
    · rw [if_pos a1] at h; exact (a1 h).elim
    · rw [if_neg a1] at h ⊢
      have hg := blockF_grow told p l (by omega : (blockF told s most p l).1 = 0)
      by_cases a2 : num s p 1 = 1
      · rw [if_pos a2]; exact hg
      · rw [if_neg a2] at h ⊢
        exact Nat.le_trans hg (blocksF_grow told k _ _ h)
theorem blocksF_room (told : Nat → Nat × Nat × List Nat × List Nat) : ∀ (k p : Nat) (l : List Nat), l.length ≤ m → Room m (blocksF told s most k p l) (blocksF told s m k p l)
  | 0, p, l, hl => fun h => by simp [blocksF] at h
  | k + 1, p, l, hl => fun h => by
    have hb := blockF_room (s := s) (most := most) told p l hl
    unfold blocksF at h ⊢
    by_cases a1 : (blockF told s most p l).1 ≠ 0
    · rw [if_pos a1] at h; exact (a1 h).elim
    · rw [if_neg a1] at h ⊢
      obtain ⟨b1, b2⟩ := hb (by omega)
      by_cases a3 : (blockF told s most p l).2.2.length ≤ m
      · rw [b1 a3, if_neg a1]
        by_cases a2 : num s p 1 = 1
        · rw [if_pos a2, if_pos a2]
          exact ⟨fun _ => rfl, fun h1 => by have h1 : m < (blockF told s most p l).2.2.length := h1; omega⟩
        · rw [if_neg a2] at h ⊢
          rw [if_neg a2]
          exact blocksF_room told k _ _ a3 h
      · have h4 := b2 (by omega)
        refine ⟨fun h1 => ?_, fun h1 => by rw [if_pos (by omega)]; exact h4⟩
        exfalso
        by_cases a2 : num s p 1 = 1
        · rw [if_pos a2] at h1
          exact a3 h1
        · rw [if_neg a2] at h h1
          have := blocksF_grow told k _ _ h
          omega
theorem infF_room (s : ByteArray) (most m : Nat) : Room m (infF s most) (infF s m) := blocksF_room (toldF s) _ 0 [] (Nat.zero_le _)
end Go.Proofs.YtchjnfckcfikkaaDoor
