/- The document's reader: copies. -/
import Derived.Test.YtlbadjfcffoakaaDoorV28
import Derived.Deep.DeepCutAuto
namespace Go.Proofs.YtlbadjfcffoakaaDoor
open Go.RowKit
set_option linter.unusedVariables false
set_option maxRecDepth 20000

variable {w w' : World} {K : Nat → Prop} {r : Nat} {s : ByteArray} {p : Nat} {l : List Nat} {most e : Nat} {v : Value}
def RDone (K : Nat → Prop) (r : Nat) (s : ByteArray) (most : Nat) (w : World) (x : Nat × Nat × List Nat) (en : Ending) (w' : World) : Prop :=
  en = .returned (.tuple #[]) ∧ UF K w w' ∧ ∃ p' l' v', RR w' K r s p' l' most x.1 v' ∧ (x.1 = 0 → p' = x.2.1 ∧ l' = x.2.2)
def copF (d : List Nat) (s : ByteArray) (most p k : Nat) (l : List Nat) : Nat × Nat × List Nat :=
  if (ulen s p k).1 ≠ 0 then ((ulen s p k).1, p, l)
  else if (udist d s (ulen s p k).2.1).1 ≠ 0 then ((udist d s (ulen s p k).2.1).1, p, l)
  else if (repF 0 l most (ulen s p k).2.2 (udist d s (ulen s p k).2.1).2.2).1 ≠ 0 then ((repF 0 l most (ulen s p k).2.2 (udist d s (ulen s p k).2.1).2.2).1, p, l)
  else (0, (udist d s (ulen s p k).2.1).2.1, (repF 0 l most (ulen s p k).2.2 (udist d s (ulen s p k).2.1).2.2).2.2)
theorem RR.plus (h : RR w K r s p l most e v) (o : Obj) : RR (w.alloc o) (fun k => K k ∨ k = w.heap.size) r s p l most e v := by
  have ha := h.alloc o
  refine ⟨ha.blk, ha.own, h.le, h.small, ?_, ?_, ?_⟩
  · rintro k (hk | rfl)
    · exact ha.kb k hk
    · simp
  · rintro (hk | hk)
    · exact h.kr hk
    · have := lt_of_block h.blk; omega
  · rintro g hg (hk | hk)
    · exact h.ko g hg hk
    · subst hk
      rcases h.own.2 with ⟨e, h0⟩ | ⟨g', cap, cur, e1, e2, e3, e4⟩
      · rw [e] at hg; simp [Value.ownBlock] at hg
      · rw [e1] at hg
        have hg' : g' = w.heap.size := by simpa [Value.ownBlock] using hg
        have := lt_of_block e3
        omega
theorem RR.less {K' : Nat → Prop} (h : RR w K' r s p l most e v) (hk : ∀ k, K k → K' k) : RR w K r s p l most e v := ⟨h.blk, h.own, h.le, h.small, fun k a => h.kb k (hk k a), fun a => h.kr (hk _ a), fun g a b => h.ko g a (hk g b)⟩
def CSt (K : Nat → Prop) (r : Nat) (s : ByteArray) (l : List Nat) (most : Nat) (v : Value) (x1 : Nat) (w0 wc : World) (p e : Nat) (G : Prop) : Prop :=
  RR wc K r s p l most e v ∧ UF K w0 wc ∧ (e ≠ 0 → x1 = e) ∧ (e = 0 → G)
theorem rsF_dead {ns : List Nat} {e : Nat} (h : e ≠ 0) : rsF ns s p e = (e, p, 0) := by unfold rsF; rw [if_pos h]
theorem rbF_dead {n e : Nat} (h : e ≠ 0) : rbF s p e n = (e, p, 0) := by unfold rbF; rw [if_pos h]
theorem rbF_ub (n : Nat) : rbF s p 0 n = ub s p n := by unfold rbF ub; rw [if_neg (by simp)]
theorem rsF_usym {ns : List Nat} (h15 : ∀ i, ns.getD i 0 ≤ 15) (hz : zer ns ns.length = false) : rsF ns s p 0 = usym ns s p := by
  have h0 : 0 < ew ns 15 := by
    rcases Nat.eq_zero_or_pos (ew ns 15) with h | h
    · rw [(zer_ew ns h15).2 h] at hz; simp at hz
    · exact h
  unfold rsF usym
  rw [if_neg (by simp), rs_rd ns s p h0]
  unfold asRef
  by_cases a1 : (rd ns s p).2.2 = 0
  · have a2 : ¬ (rd ns s p).2.2 = 30 := by omega
    simp [a1]
  · by_cases a2 : (rd ns s p).2.2 = 30
    · simp [a2]
    · simp [a1, a2]
theorem rsF_lt {ns : List Nat} (hn : ns.length ≤ 288) (hp : p ≤ 8 * s.size) : (rsF ns s p e).2.2 < 288 := by
  unfold rsF
  split
  · show 0 < 288; omega
  · rcases rsS_shape ns s p hn 15 0 0 (by omega) with h | h | ⟨y, q, h, hy, _⟩
    · rw [h]; simp
    · rw [h]; simp
    · rw [h]; exact hy
theorem rsF_bad {ns : List Nat} (h15 : ∀ i, ns.getD i 0 ≤ 15) : (e = 0 → zer ns ns.length = false → usym ns s p = rsF ns s p e) ∧ (e ≠ 0 → (rsF ns s p e).1 = e) :=
  ⟨fun h hz => by subst h; exact (rsF_usym h15 hz).symm, fun h => by rw [rsF_dead h]⟩
theorem ustep_big {y st m : Nat} (h : st ≤ y) (hm : y / st - 1 = m) : ustep s p y st = ((ub s p m).1, (ub s p m).2.1, (st + y % st) * 2 ^ m + (ub s p m).2.2) := by
  unfold ustep; rw [if_neg (by omega), hm]
theorem ub_lt16 (n : Nat) (hn : n ≤ 16) : (ub s p n).2.2 < 65536 := by
  unfold ub
  split
  · show 0 < 65536; omega
  · exact Nat.lt_of_lt_of_le (num_lt s p n) (Nat.pow_le_pow_right (by omega) (show n ≤ 16 by omega))
theorem sum_int (c : Nat) {T y n1 : Nat} (h : c + (T + y) = n1) : (c : Int) + (T : Int) + (y : Int) = (n1 : Nat) := by omega
theorem sum_le (c : Nat) {T : Nat} (h : T ≤ 262144) (hc : c ≤ 3) : (c : Int) + (T : Int) ≤ 400000 := by omega
theorem sum_bd (c : Nat) {T y n1 : Nat} (h : c + (T + y) = n1) (hT : T ≤ 262144) (hy : y < 65536) (hc : c ≤ 3) : n1 ≤ 400003 := by omega
theorem sum_wrap (c : Nat) {T y n1 : Nat} (h : c + (T + y) = n1) (hT : T ≤ 262144) (hy : y < 65536) (hc : c ≤ 3) : IntKind.i64.wrap (IntKind.i64.wrap ((c : Int) + (T : Int)) + (y : Int)) = (n1 : Nat) := by
  rw [IntKind.wrap_i64, IntKind.wrap_i64]; omega
theorem ub_shape (n : Nat) : ub s p n = (5, p, 0) ∨ ub s p n = (0, p + n, num s p n) := by
  unfold ub
  split
  · exact .inl rfl
  · exact .inr rfl
set_option maxRecDepth 20000 in
set_option maxHeartbeats 8000000 in
theorem rcopies_ok (h : RR w K r s p l most 0 v) (k : Nat) (hk1 : 256 < k) (hk2 : k < 288) (cv : Value) (ns : List Nat) (hc : CodeAt w K cv ns) (hm : most ≤ 1048576) (hl : l.length ≤ most) :
    Calls Tryd.prog 32 #[.pointer (some ⟨r, 0, none⟩), .int .i64 k, cv] w fun en w' => RDone K r s most w (copF ns s most p k l) en w' := by
  obtain ⟨x, hx⟩ : ∃ x, copF ns s most p k l = x := ⟨_, rfl⟩
  rw [hx]
  have HX : Hid (copF ns s most p k l = x) := hx
  have h15 : ∀ i, ns.getD i 0 ≤ 15 := by obtain ⟨a, ca, c, cc, rfl, r1, r2, k1, k2, hn, h15, hcb⟩ := hc; exact h15
  have H15 : Hid (∀ i, ns.getD i 0 ≤ 15) := h15
  have hc0 := hc
  obtain ⟨a, ca, c, cc, hcv, -⟩ := hc0
  obtain ⟨N, hN⟩ : ∃ N, ns.length = N := ⟨_, rfl⟩
  rw [hN] at hcv
  subst hcv
  have h0 := h.plus (.cells #[.slice a N ca, .slice c N cc] 43)
  have hu0 := h.uf_alloc (.cells #[.slice a N ca, .slice c N cc] 43)
  have hc1 : CodeAt (w.alloc (.cells #[.slice a N ca, .slice c N cc] 43)) (fun k => K k ∨ k = w.heap.size) (.agg #[.slice a N ca, .slice c N cc]) ns := (hc.uf hu0).more (fun k hk => .inl hk)
  have n0 : (w.alloc (.cells #[.slice a N ca, .slice c N cc] 43)).heap[w.heap.size]? = some (.cells #[.slice a N ca, .slice c N cc] 43) := heap_alloc_new _ _
  obtain ⟨w0, hw0⟩ : ∃ w0, (w.alloc (.cells #[.slice a N ca, .slice c N cc] 43)) = w0 := ⟨_, rfl⟩
  have HW0 : Hid ((w.alloc (.cells #[.slice a N ca, .slice c N cc] 43)) = w0) := hw0
  have HU0 : Hid (UF K w w0) := by rw [← hw0]; exact hu0
  rw [hw0] at h0 hc1 n0
  obtain ⟨K', hK'⟩ : ∃ K' : Nat → Prop, (fun k => K k ∨ k = w.heap.size) = K' := ⟨_, rfl⟩
  rw [hK'] at h0 hc1
  have HK : Hid (∀ k, K k → K' k) := fun k hk => by rw [← hK']; exact .inl hk
  have HH : Hid (∀ wc, UF K' w0 wc → CodeAt wc K' (.agg #[.slice a N ca, .slice c N cc]) ns ∧ wc.cell? ⟨w.heap.size, 0, none⟩ = some (.slice a N ca) ∧ wc.cell? ⟨w.heap.size, 1, none⟩ = some (.slice c N cc)) := fun wc hf => by
    have e : wc.heap[w.heap.size]? = some (.cells #[.slice a N ca, .slice c N cc] 43) := (hf.block _ (by rw [← hK']; exact .inr rfl)).trans n0
    exact ⟨hc1.uf hf, by simp [World.cell?, e], by simp [World.cell?, e]⟩
  have H0 : Hid (RR w0 K' r s p l most 0 v) := h0
  have HNL : Hid (ns.length ≤ 288) := by obtain ⟨a, ca, c, cc, _, _, _, _, _, hn, _⟩ := hc; exact hn
  clear h hc hx h15 hN h0 hu0 hc1 n0 hK' hw0
  go_enter Tryd.func32, Tryd.ntmps32
  by_cases h285 : 285 < k
  · have hi : (285 : Int) < (k : Int) := by omega
    have HE : Hid (x = (40, p, l)) := by
      show x = _
      rw [← HX.out]; unfold copF ulen; rw [if_pos h285]; rfl
    have HN : Hid (∀ _ : Unit, Calls Tryd.prog 18 #[.pointer (some ⟨r, 0, none⟩), .int .i64 40] w0 fun en w' => en = .returned (.tuple #[]) ∧ RR w' K' r s p l most 40 v ∧ UF K' w0 w') := fun _ => rends_ok H0.out 40 (by omega)
    go_wp2_with (first | (go_at_call 18; rw [HW0.out]; refine (HN.out ()).mono ?_; rintro e w1 ⟨rfl, hr1, hu1⟩; have HR1 : Hid (RR w1 K' r s p l most 40 v ∧ UF K' w0 w1) := ⟨hr1, hu1⟩; clear hr1 hu1))
    go_end0
    exact ⟨rfl, HU0.out.trans (HR1.out.2.less HK.out), _, _, _, by rw [HE.out]; exact HR1.out.1.less HK.out, by rw [HE.out]; simp⟩
  · have hi : ¬ (285 : Int) < (k : Int) := by omega
    obtain ⟨tb, htb⟩ : ∃ tb, decide (265 ≤ k ∧ k < 285) = tb := ⟨_, rfl⟩
    go_upto_region 4 with fail
    go_cut [23] (fun v23 wc => v23 = .bool tb ∧ wc = w0)
    case first =>
      as_aux_lemma =>
        by_cases h265 : 265 ≤ k
        · have h265i : (265 : Int) ≤ (k : Int) := by omega
          by_cases h284 : k < 285
          · have h284i : (k : Int) < 285 := by omega
            have HB : Hid (tb = true) := by show tb = true; rw [← htb]; simp [h265, h284]
            clear htb
            go_wp2_with fail
            go_meet
            case rel => exact ⟨by rw [HB.out], HW0.out⟩
          · have h284i : ¬ (k : Int) < 285 := by omega
            have HB : Hid (tb = false) := by show tb = false; rw [← htb]; simp [h284]
            clear htb
            go_wp2_with fail
            go_meet
            case rel => exact ⟨by rw [HB.out], HW0.out⟩
        · have h265i : ¬ (265 : Int) ≤ (k : Int) := by omega
          have HB : Hid (tb = false) := by show tb = false; rw [← htb]; simp [h265]
          clear htb
          go_wp2_with fail
          go_meet
          case rel => exact ⟨by rw [HB.out], HW0.out⟩
    case rest =>
      obtain ⟨rfl, hwc⟩ := hcut
      obtain rfl := hwc.symm
      have HTB : Hid (decide (265 ≤ k ∧ k < 285) = tb) := htb
      clear htb HW0
      go_upto_if 23 with fail
      go_cut [6] (fun v6 wc => ∃ (n1 p1 e1 : Nat), v6 = .int .i64 (n1 : Nat) ∧ n1 ≤ 400003 ∧ Hid (CSt K' r s l most v x.1 w0 wc p1 e1 (ulen s p k = (0, p1, n1) ∨ (k = 285 ∧ p1 = p))))
      case first =>
        as_aux_lemma =>
          cases tb with
          | false =>
            have hd := of_decide_eq_false HTB.out
            have HF : Hid (ulen s p k = (0, p, k - 254) ∨ k = 285) := by
              show _ ∨ _
              rcases Nat.lt_or_ge k 265 with hlt | hge
              · left
                unfold ulen
                rw [if_neg (by omega), if_neg (by omega)]
                unfold ustep
                by_cases h4 : k - 257 < 4
                · rw [if_pos h4]; simp; omega
                · rw [if_neg h4]
                  have e1 : (k - 257) / 4 - 1 = 0 := by omega
                  have e2 : 4 + (k - 257) % 4 = k - 257 := by omega
                  have e3 : ub s p 0 = (0, p, 0) := by
                    have := H0.out.le
                    unfold ub; rw [if_neg (by omega)]; rfl
                  rw [e1, e2, e3]
                  simp; omega
              · right; omega
            obtain ⟨n1, hn1⟩ : ∃ n1, k - 254 = n1 := ⟨_, rfl⟩
            rw [hn1] at HF
            have hn1i : (k : Int) - 254 = (n1 : Nat) := by omega
            have hn1b : n1 ≤ 400003 := by omega
            clear hd hn1
            go_wp2_with fail
            go_meet
            case rel => exact ⟨n1, p, 0, by rw [← hn1i], hn1b, H0.out, UF.refl _ _, fun h => absurd rfl h, fun _ => HF.out.imp id fun h => ⟨h, rfl⟩⟩
          | true =>
            obtain ⟨h265, h284⟩ := of_decide_eq_true HTB.out
            obtain ⟨d, hd⟩ : ∃ d, k - 261 = d := ⟨_, rfl⟩
            have hdi : (k : Int) - 261 = (d : Nat) := by omega
            obtain ⟨m, hm'⟩ : ∃ m, d / 4 = m := ⟨_, rfl⟩
            have hmb : m ≤ 5 := by omega
            have hdb : d ≤ 24 := by omega
            have hmi : (d : Int) / 4 = (m : Nat) := by omega
            have hmt : Int.tdiv (d : Int) 4 = (m : Nat) := by rw [Int.tdiv_eq_ediv_of_nonneg (by omega)]; exact hmi
            obtain ⟨md, hmd⟩ : ∃ md, d % 4 = md := ⟨_, rfl⟩
            have hmdi : (d : Int) % 4 = (md : Nat) := by omega
            have hmdt : Int.tmod (d : Int) 4 = (md : Nat) := by rw [Int.tmod_eq_emod_of_nonneg (by omega)]; exact hmdi
            obtain ⟨A, hA⟩ : ∃ A, 4 + md = A := ⟨_, rfl⟩
            have hAi : (4 : Int) + (md : Int) = (A : Nat) := by omega
            have hA8 : A ≤ 8 := by omega
            have hP : A * 2 ^ m ≤ 262144 := Nat.le_trans (Nat.mul_le_mul hA8 (Nat.pow_le_pow_right (by decide) (show m ≤ 15 by omega))) (by decide)
            obtain ⟨T, hT⟩ : ∃ T, A * 2 ^ m = T := ⟨_, rfl⟩
            rw [hT] at hP
            have HT : Hid (A * 2 ^ m = T) := hT
            clear hT
            have hus : ulen s p k = ((ub s p m).1, (ub s p m).2.1, 3 + (T + (ub s p m).2.2)) := by
              unfold ulen
              rw [if_neg (by omega), if_neg (by omega), ustep_big (y := k - 257) (st := 4) (m := m) (by omega) (by omega), show 4 + (k - 257) % 4 = A by omega, HT.out]
            have HU := rbits_ok (H0.out.drewN 1) m (by omega)
            rw [rbF_ub] at HU
            have hlt := ub_lt16 (s := s) (p := p) m (by omega)
            obtain ⟨⟨er, q, y⟩, hub⟩ : ∃ z, ub s p m = z := ⟨_, rfl⟩
            rw [hub] at hus HU hlt
            have hlt : y < 65536 := hlt
            obtain ⟨n1, hn1⟩ : ∃ n1, 3 + (T + y) = n1 := ⟨_, rfl⟩
            have hn1i := sum_int 3 hn1
            have HUS : Hid (ulen s p k = (er, q, n1)) := by rw [← hn1]; exact hus
            have HUU : Hid (∀ _ : Unit, Calls Tryd.prog 13 #[.pointer (some ⟨r, 0, none⟩), .int .i64 m] w0.drew fun en w' => en = .returned (.int .i64 (y : Nat)) ∧ Hid (RR w' K' r s q l most er v ∧ UF K' w0 w')) := fun _ => HU.mono fun en w' hh => ⟨hh.1, hh.2.1, (UF.drewN _ _ 1).trans hh.2.2⟩
            have HBAD : Hid (er ≠ 0 → x.1 = er) := fun he => by
              rw [← HX.out]; unfold copF; rw [HUS.out, if_pos he]
            have h3T := sum_le 3 hP (by decide)
            have hn1b := sum_bd 3 hn1 hP hlt (by decide)
            have hTw := wrapN T (Nat.le_trans hP (by decide))
            have hTw2 := wrapN64 T (Nat.le_trans hP (by decide))
            have e2 : ((A : Int) * 2 ^ m) = (T : Int) := by rw [← HT.out]; simp
            have HV : Hid (IntKind.i64.wrap (IntKind.i64.wrap (3 + IntKind.i64.wrap (IntKind.i64.wrap (4 + (IntKind.i64.wrap (d : Int)).tmod 4) * 2 ^ m)) + (y : Int)) = (n1 : Nat)) := by
              show _ = _
              rw [wrapN d (Nat.le_trans hdb (by decide)), hmdt, hAi, wrapN A (Nat.le_trans hA8 (by decide)), e2, hTw]
              exact sum_wrap 3 hn1 hP hlt (by decide)
            clear hus HU hub hn1 hA hmd hm' hd h265 h284
            go_wp2_with fail
            go_region_held_law (fun w' => True) (trivial) (first | (go_at_call 13; refine (HUU.out ()).mono ?_; rintro e w1 ⟨rfl, HN⟩; have KS := True.intro))
            all_goals
              go_wp2_with fail
              go_meet
              case rel => exact ⟨n1, q, er, congrArg (Value.int .i64) HV.out, hn1b, HN.out.1, HN.out.2, HBAD.out, fun he => .inl (by rw [HUS.out, he])⟩
      case rest =>
        obtain ⟨n1, p1, e1, rfl, hn1, HS⟩ := hcut
        obtain ⟨wA, hwA⟩ : ∃ wA, wA = wc := ⟨_, rfl⟩
        subst hwA
        go_upto_if 39 with fail
        obtain ⟨t5, ht5⟩ : ∃ t5, ((k : Int) == 285) = t5 := ⟨_, rfl⟩
        rw [ht5]
        have HT5 : Hid (((k : Int) == 285) = t5) := ht5
        clear ht5
        go_cut [6] (fun v6 wd => ∃ (n2 : Nat), v6 = .int .i64 (n2 : Nat) ∧ n2 ≤ 400003 ∧ wd = wA ∧ Hid (CSt K' r s l most v x.1 w0 wA p1 e1 (ulen s p k = (0, p1, n2))))
        case first =>
          as_aux_lemma =>
            cases t5 with
            | true =>
              have HG : Hid (CSt K' r s l most v x.1 w0 wA p1 e1 (ulen s p k = (0, p1, 258))) := ⟨HS.out.1, HS.out.2.1, HS.out.2.2.1, fun he => by
                have h5 : k = 285 := by have := HT5.out; simp at this; omega
                have h3 : ulen s p k = (0, p, 258) := by unfold ulen; rw [if_neg h285, if_pos h5]
                rcases HS.out.2.2.2 he with h | ⟨_, h⟩
                · rw [h3] at h ⊢; cases h; rfl
                · rw [h3, h]⟩
              go_wp2_with fail
              go_meet
              case rel => exact ⟨258, rfl, by decide, rfl, HG⟩
            | false =>
              have HG : Hid (CSt K' r s l most v x.1 w0 wA p1 e1 (ulen s p k = (0, p1, n1))) := ⟨HS.out.1, HS.out.2.1, HS.out.2.2.1, fun he => by
                rcases HS.out.2.2.2 he with h | ⟨h, _⟩
                · exact h
                · have := HT5.out; simp at this; omega⟩
              go_wp2_with fail
              go_meet
              case rel => exact ⟨n1, rfl, hn1, rfl, HG⟩
        case rest =>
          obtain ⟨n2, rfl, hn2, hwd, HS2⟩ := hcut
          obtain rfl := hwd.symm
          clear HS hn1 n1
          obtain ⟨hCA, cA0, cA1⟩ := HH.out wA HS2.out.2.1
          have HNO : Hid (∀ _ : Unit, Calls Tryd.prog 53 #[.agg #[.slice a N ca, .slice c N cc]] wA fun en w' => en = .returned (.bool (zer ns ns.length)) ∧ Below wA.heap.size wA w') := fun _ => rnone_ok _ ns hCA
          obtain ⟨zb, hzb⟩ : ∃ zb, zer ns ns.length = zb := ⟨_, rfl⟩
          rw [hzb] at HNO
          have HZB : Hid (zer ns ns.length = zb) := hzb
          clear hzb hCA
          go_upto_if 41 with (first | (go_at_call 53; refine (HNO.out ()).mono ?_; rintro en wB ⟨rfl, hbB⟩; have HS3 : Hid (CSt K' r s l most v x.1 w0 wB p1 e1 (ulen s p k = (0, p1, n2))) := ⟨HS2.out.1.below hbB, HS2.out.2.1.trans (HS2.out.1.uf hbB), HS2.out.2.2⟩; clear hbB))
          go_cut [] (fun wd => ∃ (e2 : Nat), Hid (CSt K' r s l most v x.1 w0 wd p1 e2 (ulen s p k = (0, p1, n2) ∧ zer ns ns.length = false)))
          case first =>
            as_aux_lemma =>
              cases zb with
              | true =>
                have HEN : Hid (∀ _ : Unit, Calls Tryd.prog 18 #[.pointer (some ⟨r, 0, none⟩), .int .i64 40] wB fun en w' => en = .returned (.tuple #[]) ∧ RR w' K' r s p1 l most (if e1 = 0 then 40 else e1) v ∧ UF K' wB w') := fun _ => rends_ok HS3.out.1 40 (by omega)
                go_wp2_with (first | (go_at_call 18; refine (HEN.out ()).mono ?_; rintro en wC ⟨rfl, hrC, huC⟩; have HR1 : Hid (RR wC K' r s p1 l most (if e1 = 0 then 40 else e1) v ∧ UF K' wB wC) := ⟨hrC, huC⟩; clear hrC huC))
                go_meet
                case rel =>
                  refine ⟨_, HR1.out.1, HS3.out.2.1.trans HR1.out.2, ?_, ?_⟩
                  · intro hne
                    by_cases he : e1 = 0
                    · rw [if_pos he] at hne ⊢
                      rw [← HX.out]
                      have hu := HS3.out.2.2.2 he
                      unfold copF
                      rw [hu, if_neg (by simp)]
                      have hd : udist ns s p1 = (40, p1, 0) := by
                        have h0 : ew ns 15 = 0 := (zer_ew ns H15.out).1 HZB.out
                        have hr : rd ns s p1 = (0, 0, 30) := by
                          unfold rd; simp only [rdS]
                          rw [if_neg (by simp [ew]), if_pos (by rw [h0]; simp)]
                        unfold udist usym; rw [hr]; rfl
                      show (if (udist ns s p1).1 ≠ 0 then _ else _ : Nat × Nat × List Nat).1 = 40
                      rw [hd]; rfl
                    · rw [if_neg he] at hne ⊢
                      exact HS3.out.2.2.1 he
                  · intro h0
                    by_cases he : e1 = 0
                    · rw [if_pos he] at h0; simp at h0
                    · rw [if_neg he] at h0; exact absurd h0 he
              | false =>
                go_wp2_with fail
                go_meet
                case rel => exact ⟨e1, HS3.out.1, HS3.out.2.1, HS3.out.2.2.1, fun he => ⟨HS3.out.2.2.2 he, HZB.out⟩⟩
          case rest =>
            obtain ⟨e2, HS4⟩ := hcut
            obtain ⟨wD, hwD⟩ : ∃ wD, wD = wc := ⟨_, rfl⟩
            subst hwD
            obtain ⟨hCA, cD0, cD1⟩ := HH.out wD HS4.out.2.1
            have HSY := rsymbol_ok HS4.out.1 _ ns hCA
            have hrl := rsF_lt (s := s) (p := p1) (e := e2) HNL.out HS4.out.1.le
            have hbad := rsF_bad (s := s) (p := p1) (e := e2) (ns := ns) H15.out
            obtain ⟨⟨e3, p3, j⟩, hrs⟩ : ∃ z, rsF ns s p1 e2 = z := ⟨_, rfl⟩
            rw [hrs] at HSY hrl hbad
            have hj : j < 288 := hrl
            have HS5 : Hid (∀ wE, RR wE K' r s p3 l most e3 v → UF K' wD wE → CSt K' r s l most v x.1 w0 wE p3 e3 (ulen s p k = (0, p1, n2) ∧ usym ns s p1 = (0, p3, j))) := fun wE hr hu => by
              refine ⟨hr, HS4.out.2.1.trans hu, fun h3 => ?_, fun h3 => ?_⟩
              · by_cases h2 : e2 = 0
                · obtain ⟨hul, hz⟩ := HS4.out.2.2.2 h2
                  have hus := hbad.1 h2 hz
                  rw [← HX.out]
                  unfold copF
                  rw [hul, if_neg (by simp)]
                  have hd : udist ns s p1 = (e3, p3, j) := by unfold udist; rw [hus, if_pos (by exact h3)]
                  show (if (udist ns s p1).1 ≠ 0 then _ else _ : Nat × Nat × List Nat).1 = e3
                  rw [hd, if_pos (by exact h3)]
                · have h4 := hbad.2 h2
                  have h5 : e3 = e2 := h4
                  rw [h5]; exact HS4.out.2.2.1 h2
              · have h2 : e2 = 0 := by
                  apply Classical.byContradiction
                  intro h2
                  have h5 : e3 = e2 := hbad.2 h2
                  omega
                obtain ⟨hul, hz⟩ := HS4.out.2.2.2 h2
                have hus := hbad.1 h2 hz
                exact ⟨hul, by rw [hus, h3]⟩
            have HSYM : Hid (∀ _ : Unit, Calls Tryd.prog 31 #[.pointer (some ⟨r, 0, none⟩), .agg #[.slice a N ca, .slice c N cc]] wD fun en w' => en = .returned (.int .i64 (j : Nat)) ∧ RR w' K' r s p3 l most e3 v ∧ UF K' wD w') := fun _ => HSY
            clear hCA HSY hrl hbad hrs
            go_upto_if 48 with (first | (go_at_call 31; refine (HSYM.out ()).mono ?_; rintro en wE ⟨rfl, hrE, huE⟩; have HS6 : Hid (CSt K' r s l most v x.1 w0 wE p3 e3 (ulen s p k = (0, p1, n2) ∧ usym ns s p1 = (0, p3, j))) := HS5.out _ hrE huE; clear hrE huE))
            clear HS5 HSYM cD0 cD1
            go_cut [] (fun wd => ∃ (e4 : Nat), Hid (CSt K' r s l most v x.1 w0 wd p3 e4 (ulen s p k = (0, p1, n2) ∧ usym ns s p1 = (0, p3, j) ∧ j ≤ 29)))
            case first =>
              as_aux_lemma =>
                by_cases h29 : 29 < j
                · have h29i : (29 : Int) < (j : Int) := by omega
                  have HEN : Hid (∀ _ : Unit, Calls Tryd.prog 18 #[.pointer (some ⟨r, 0, none⟩), .int .i64 40] wE fun en w' => en = .returned (.tuple #[]) ∧ RR w' K' r s p3 l most (if e3 = 0 then 40 else e3) v ∧ UF K' wE w') := fun _ => rends_ok HS6.out.1 40 (by omega)
                  go_wp2_with (first | (go_at_call 18; refine (HEN.out ()).mono ?_; rintro en wC ⟨rfl, hrC, huC⟩; have HR1 : Hid (RR wC K' r s p3 l most (if e3 = 0 then 40 else e3) v ∧ UF K' wE wC) := ⟨hrC, huC⟩; clear hrC huC))
                  go_meet
                  case rel =>
                    refine ⟨_, HR1.out.1, HS6.out.2.1.trans HR1.out.2, ?_, ?_⟩
                    · intro hne
                      by_cases he : e3 = 0
                      · rw [if_pos he] at hne ⊢
                        obtain ⟨hul, hus⟩ := HS6.out.2.2.2 he
                        rw [← HX.out]
                        unfold copF
                        rw [hul, if_neg (by simp)]
                        have hd : udist ns s p1 = (40, p1, 0) := by unfold udist; rw [hus, if_neg (by simp), if_pos (by exact h29)]
                        show (if (udist ns s p1).1 ≠ 0 then _ else _ : Nat × Nat × List Nat).1 = 40
                        rw [hd]; rfl
                      · rw [if_neg he] at hne ⊢
                        exact HS6.out.2.2.1 he
                    · intro h0
                      by_cases he : e3 = 0
                      · rw [if_pos he] at h0; simp at h0
                      · rw [if_neg he] at h0; exact absurd h0 he
                · have h29i : ¬ (29 : Int) < (j : Int) := by omega
                  go_wp2_with fail
                  go_meet
                  case rel => exact ⟨e3, HS6.out.1, HS6.out.2.1, HS6.out.2.2.1, fun he => ⟨(HS6.out.2.2.2 he).1, (HS6.out.2.2.2 he).2, by omega⟩⟩
            case rest =>
              obtain ⟨e4, HS7⟩ := hcut
              obtain ⟨wF, hwF⟩ : ∃ wF, wF = wc := ⟨_, rfl⟩
              subst hwF
              clear HS6 HS4 HS2 HNO HZB
              obtain ⟨f0, f1, f2, f3, f4⟩ := HS7.out.1.cells
              obtain ⟨tE, htE⟩ : ∃ tE, decide (4 ≤ j ∧ e4 = 0) = tE := ⟨_, rfl⟩
              have HTE : Hid (decide (4 ≤ j ∧ e4 = 0) = tE) := htE
              clear htE
              obtain ⟨j1, hj1⟩ : ∃ j1, j + 1 = j1 := ⟨_, rfl⟩
              have hj1i : (j : Int) + 1 = (j1 : Nat) := by omega
              go_upto_region 15 with fail
              go_cut [61] (fun v61 wd => v61 = .bool tE ∧ wd = wF)
              case first =>
                as_aux_lemma =>
                  clear hj1i
                  by_cases h4 : 4 ≤ j
                  · have h4i : (4 : Int) ≤ (j : Int) := by omega
                    by_cases he : e4 = 0
                    · subst he
                      have HB : Hid (tE = true) := by show tE = true; rw [← HTE.out]; simp [h4]
                      go_wp2_with fail
                      go_meet
                      case rel => exact ⟨by rw [HB.out], rfl⟩
                    · have HB : Hid (tE = false) := by show tE = false; rw [← HTE.out]; simp [he]
                      have hei : ¬ (e4 : Int) = 0 := by omega
                      have heb : ((e4 : Int) == 0) = false := by simp; omega
                      go_wp2_with fail
                      go_meet
                      case rel => exact ⟨by rw [HB.out], rfl⟩
                  · have HB : Hid (tE = false) := by show tE = false; rw [← HTE.out]; simp [h4]
                    have h4i : ¬ (4 : Int) ≤ (j : Int) := by omega
                    go_wp2_with fail
                    go_meet
                    case rel => exact ⟨by rw [HB.out], rfl⟩
              case rest =>
                obtain ⟨rfl, hwd⟩ := hcut
                obtain rfl := hwd.symm
                clear f0 f1 f2 f3 f4
                go_upto_if 61 with fail
                go_cut [9] (fun v9 wd => ∃ (f e5 p5 : Nat), v9 = .int .i64 (f : Nat) ∧ f ≤ 400003 ∧ 1 ≤ f ∧ Hid (CSt K' r s l most v x.1 w0 wd p5 e5 (ulen s p k = (0, p1, n2) ∧ udist ns s p1 = (0, p5, f))))
                case first =>
                  as_aux_lemma =>
                    cases tE with
                    | false =>
                      have HG : Hid (CSt K' r s l most v x.1 w0 wF p3 e4 (ulen s p k = (0, p1, n2) ∧ udist ns s p1 = (0, p3, j1))) := ⟨HS7.out.1, HS7.out.2.1, HS7.out.2.2.1, fun he => by
                        obtain ⟨hul, hus, h29⟩ := HS7.out.2.2.2 he
                        have h4 := of_decide_eq_false HTE.out
                        refine ⟨hul, ?_⟩
                        unfold udist
                        rw [hus, if_neg (by simp), if_neg (by show ¬ 29 < j; omega)]
                        show ((ustep s p3 j 2).1, (ustep s p3 j 2).2.1, 1 + (ustep s p3 j 2).2.2) = (0, p3, j1)
                        have hst : ustep s p3 j 2 = (0, p3, j) := by
                          unfold ustep
                          by_cases h2 : j < 2
                          · rw [if_pos h2]
                          · rw [if_neg h2]
                            have e1 : j / 2 - 1 = 0 := by omega
                            have e2 : 2 + j % 2 = j := by omega
                            have e3 : ub s p3 0 = (0, p3, 0) := by
                              have := HS7.out.1.le
                              unfold ub; rw [if_neg (by omega)]; rfl
                            rw [e1, e2, e3]
                            simp
                        rw [hst, ← hj1]
                        simp; omega⟩
                      have hj1b : j1 ≤ 400003 := by omega
                      have hj11 : 1 ≤ j1 := by omega
                      go_wp2_with fail
                      go_meet
                      case rel => exact ⟨j1, e4, p3, rfl, hj1b, hj11, HG⟩
                    | true =>
                      obtain ⟨h4, he⟩ := of_decide_eq_true HTE.out
                      subst he
                      obtain ⟨hul, hus, h29⟩ := HS7.out.2.2.2 rfl
                      obtain ⟨m1, hm1⟩ : ∃ m1, j / 2 = m1 := ⟨_, rfl⟩
                      obtain ⟨m, hm'⟩ : ∃ m, m1 - 1 = m := ⟨_, rfl⟩
                      have hmb : m ≤ 13 := by omega
                      have hm1i : (j : Int) / 2 = (m1 : Nat) := by omega
                      have hm1t : Int.tdiv (j : Int) 2 = (m1 : Nat) := by rw [Int.tdiv_eq_ediv_of_nonneg (by omega)]; exact hm1i
                      have hmi : (m1 : Int) - 1 = (m : Nat) := by omega
                      obtain ⟨md, hmd⟩ : ∃ md, j % 2 = md := ⟨_, rfl⟩
                      have hmdi : (j : Int) % 2 = (md : Nat) := by omega
                      have hmdt : Int.tmod (j : Int) 2 = (md : Nat) := by rw [Int.tmod_eq_emod_of_nonneg (by omega)]; exact hmdi
                      obtain ⟨A, hA⟩ : ∃ A, 2 + md = A := ⟨_, rfl⟩
                      have hAi : (2 : Int) + (md : Int) = (A : Nat) := by omega
                      have hA8 : A ≤ 8 := by omega
                      have hP : A * 2 ^ m ≤ 262144 := Nat.le_trans (Nat.mul_le_mul hA8 (Nat.pow_le_pow_right (by decide) (show m ≤ 15 by omega))) (by decide)
                      obtain ⟨T, hT⟩ : ∃ T, A * 2 ^ m = T := ⟨_, rfl⟩
                      rw [hT] at hP
                      have HT : Hid (A * 2 ^ m = T) := hT
                      clear hT
                      have hud : udist ns s p1 = ((ub s p3 m).1, (ub s p3 m).2.1, 1 + (T + (ub s p3 m).2.2)) := by
                        unfold udist
                        rw [hus, if_neg (by simp), if_neg (by show ¬ 29 < j; omega)]
                        show ((ustep s p3 j 2).1, (ustep s p3 j 2).2.1, 1 + (ustep s p3 j 2).2.2) = _
                        rw [ustep_big (y := j) (st := 2) (m := m) (by omega) (by omega), show 2 + j % 2 = A by omega, HT.out]
                      have HU := rbits_ok (HS7.out.1.drewN 1) m (by omega)
                      rw [rbF_ub] at HU
                      have hlt := ub_lt16 (s := s) (p := p3) m (by omega)
                      obtain ⟨⟨er, q, y⟩, hub⟩ : ∃ z, ub s p3 m = z := ⟨_, rfl⟩
                      rw [hub] at hud HU hlt
                      have hlt : y < 65536 := hlt
                      obtain ⟨f, hf⟩ : ∃ f, 1 + (T + y) = f := ⟨_, rfl⟩
                      have HUD : Hid (udist ns s p1 = (er, q, f)) := by rw [← hf]; exact hud
                      have HUU : Hid (∀ _ : Unit, Calls Tryd.prog 13 #[.pointer (some ⟨r, 0, none⟩), .int .i64 m] wF.drew fun en w' => en = .returned (.int .i64 (y : Nat)) ∧ Hid (RR w' K' r s q l most er v ∧ UF K' w0 w')) := fun _ => HU.mono fun en w' hh => ⟨hh.1, hh.2.1, (HS7.out.2.1.trans (UF.drewN _ _ 1)).trans hh.2.2⟩
                      have HBAD : Hid (er ≠ 0 → x.1 = er) := fun he => by
                        rw [← HX.out]; unfold copF; rw [hul, if_neg (by simp)]
                        show (if (udist ns s p1).1 ≠ 0 then _ else _ : Nat × Nat × List Nat).1 = er
                        rw [HUD.out, if_pos (by exact he)]
                      have h3T := sum_le 1 hP (by decide)
                      have hfb := sum_bd 1 hf hP hlt (by decide)
                      have hf1 : 1 ≤ f := by rw [← hf]; exact Nat.le_add_right _ _
                      have hjw := wrapN j (Nat.le_trans (Nat.le_of_lt hj) (by decide))
                      have hTw := wrapN T (Nat.le_trans hP (by decide))
                      have hTw2 := wrapN64 T (Nat.le_trans hP (by decide))
                      have e2 : ((A : Int) * 2 ^ m) = (T : Int) := by rw [← HT.out]; simp
                      have HV : Hid (IntKind.i64.wrap (IntKind.i64.wrap (1 + IntKind.i64.wrap (IntKind.i64.wrap (2 + (j : Int).tmod 2) * 2 ^ m)) + (y : Int)) = (f : Nat)) := by
                        show _ = _
                        rw [hmdt, hAi, wrapN A (Nat.le_trans hA8 (by decide)), e2, hTw]
                        exact sum_wrap 1 hf hP hlt (by decide)
                      have HV2 : Hid (IntKind.i64.wrap (IntKind.i64.wrap (1 + IntKind.i64.wrap (IntKind.i64.wrap (A : Int) * 2 ^ m)) + (y : Int)) = (f : Nat)) := by
                        show _ = _
                        rw [wrapN A (Nat.le_trans hA8 (by decide)), e2, hTw]
                        exact sum_wrap 1 hf hP hlt (by decide)
                      have HUL : Hid (ulen s p k = (0, p1, n2)) := hul
                      clear hud HU hub hf hA hmd hm' hm1 h4 hul hus h29
                      go_wp2_with fail
                      go_region_held_law (fun w' => True) (trivial) (first | (go_at_call 13; refine (HUU.out ()).mono ?_; rintro e w1 ⟨rfl, HN⟩; have KS := True.intro))
                      all_goals
                        go_wp2_with fail
                        go_meet
                        case rel => exact ⟨f, er, q, congrArg (Value.int .i64) (by first | exact HV2.out | exact HV.out), hfb, hf1, HN.out.1, HN.out.2, HBAD.out, fun he => ⟨HUL.out, by rw [HUD.out, he]⟩⟩
                case rest =>
                  obtain ⟨f, e5, p5, rfl, hf, hf1, HS8⟩ := hcut
                  obtain ⟨wG, hwG⟩ : ∃ wG, wG = wc := ⟨_, rfl⟩
                  subst hwG
                  clear HS7 HTE
                  obtain ⟨ao, cp, hv⟩ := HS8.out.1.form
                  obtain ⟨L, hL⟩ : ∃ L, l.length = L := ⟨_, rfl⟩
                  rw [hL] at hv
                  have HL : Hid (l.length = L) := hL
                  have hLm : L ≤ 1048576 := by omega
                  obtain ⟨g0, g1, g2, g3, g4⟩ := HS8.out.1.cells
                  have fz := HS8.out.1.free 4 (by omega)
                  rw [hv] at g3
                  have HVV : Hid (v = .slice ao L cp) := hv
                  have HLL : Hid (l.length ≤ most) := hl
                  clear hL hl hv
                  obtain ⟨tF, htF⟩ : ∃ tF, decide (e5 = 0 ∧ L < f) = tF := ⟨_, rfl⟩
                  have HTF : Hid (decide (e5 = 0 ∧ L < f) = tF) := htF
                  clear htF
                  go_upto_region 18 with fail
                  go_cut [88] (fun v88 wd => v88 = .bool tF ∧ wd = wG)
                  case first =>
                    as_aux_lemma =>
                      by_cases he : e5 = 0
                      · subst he
                        by_cases hLf : L < f
                        · have hLfi : (L : Int) < (f : Int) := by omega
                          have HB : Hid (tF = true) := by show tF = true; rw [← HTF.out]; simp [hLf]
                          go_wp2_with fail
                          go_meet
                          case rel => exact ⟨by rw [HB.out], rfl⟩
                        · have hLfi : ¬ (L : Int) < (f : Int) := by omega
                          have HB : Hid (tF = false) := by show tF = false; rw [← HTF.out]; simp [hLf]
                          go_wp2_with fail
                          go_meet
                          case rel => exact ⟨by rw [HB.out], rfl⟩
                      · have HB : Hid (tF = false) := by show tF = false; rw [← HTF.out]; simp [he]
                        have hei : ¬ (e5 : Int) = 0 := by omega
                        have heb : ((e5 : Int) == 0) = false := by simp; omega
                        go_wp2_with fail
                        go_meet
                        case rel => exact ⟨by rw [HB.out], rfl⟩
                  case rest =>
                    obtain ⟨rfl, hwd⟩ := hcut
                    obtain rfl := hwd.symm
                    go_upto_if 88 with fail
                    go_cut [] (fun wd => ∃ (e6 : Nat), Hid (CSt K' r s l most v x.1 w0 wd p5 e6 (ulen s p k = (0, p1, n2) ∧ udist ns s p1 = (0, p5, f) ∧ f ≤ L)))
                    case first =>
                      as_aux_lemma =>
                        cases tF with
                        | true =>
                          obtain ⟨he, hLf⟩ := of_decide_eq_true HTF.out
                          subst he
                          have HBAD : Hid (x.1 = 40) := by
                            show x.1 = 40
                            obtain ⟨hul, hud⟩ := HS8.out.2.2.2 rfl
                            have hrep : repF 0 l most n2 f = (40, 0, l) := by unfold repF; rw [HL.out, if_pos hLf]
                            rw [← HX.out]
                            unfold copF
                            rw [hul, if_neg (by simp)]
                            show (if (udist ns s p1).1 ≠ 0 then _ else if (repF 0 l most n2 (udist ns s p1).2.2).1 ≠ 0 then _ else _ : Nat × Nat × List Nat).1 = 40
                            rw [hud, if_neg (by simp)]
                            show (if (repF 0 l most n2 f).1 ≠ 0 then _ else _ : Nat × Nat × List Nat).1 = 40
                            rw [hrep, if_pos (by simp)]
                          clear hLf
                          go_wp2_with fail
                          go_meet
                          case rel => exact ⟨40, HS8.out.1.setE 40, HS8.out.2.1.trans (HS8.out.1.uf_set 4 _), fun _ => HBAD.out, fun h => absurd h (by simp)⟩
                        | false =>
                          have HG : Hid (CSt K' r s l most v x.1 w0 wG p5 e5 (ulen s p k = (0, p1, n2) ∧ udist ns s p1 = (0, p5, f) ∧ f ≤ L)) := ⟨HS8.out.1, HS8.out.2.1, HS8.out.2.2.1, fun he => ⟨(HS8.out.2.2.2 he).1, (HS8.out.2.2.2 he).2, by have := of_decide_eq_false HTF.out; omega⟩⟩
                          go_wp2_with fail
                          go_meet
                          case rel => exact ⟨e5, HG⟩
                    case rest =>
                      obtain ⟨e6, HS9⟩ := hcut
                      obtain ⟨wH, hwH⟩ : ∃ wH, wH = wc := ⟨_, rfl⟩
                      subst hwH
                      clear HS8 HTF g0 g1 g2 g3 g4 fz
                      obtain ⟨g0, g1, g2, g3, g4⟩ := HS9.out.1.cells
                      rw [HVV.out] at g3
                      obtain ⟨S, hS⟩ : ∃ S, L + n2 = S := ⟨_, rfl⟩
                      have hSi : (L : Int) + (n2 : Int) = (S : Nat) := by omega
                      have hSw := wrapN S (by omega)
                      obtain ⟨tG, htG⟩ : ∃ tG, decide (e6 = 0 ∧ most < S) = tG := ⟨_, rfl⟩
                      have HTG : Hid (decide (e6 = 0 ∧ most < S) = tG) := htG
                      clear htG
                      go_upto_region 20 with fail
                      go_cut [110] (fun v110 wd => v110 = .bool tG ∧ ∃ q, wd = wH.drewN q)
                      case first =>
                        as_aux_lemma =>
                          by_cases he : e6 = 0
                          · subst he
                            by_cases hLf : most < S
                            · have hLfi : (most : Int) < (S : Int) := by omega
                              have HB : Hid (tG = true) := by show tG = true; rw [← HTG.out]; simp [hLf]
                              go_region
                              all_goals
                                go_wp2_with fail
                                go_meet
                                case rel => exact ⟨by rw [HB.out], 1, rfl⟩
                            · have hLfi : ¬ (most : Int) < (S : Int) := by omega
                              have HB : Hid (tG = false) := by show tG = false; rw [← HTG.out]; simp [hLf]
                              go_region
                              all_goals
                                go_wp2_with fail
                                go_meet
                                case rel => exact ⟨by rw [HB.out], 1, rfl⟩
                          · have HB : Hid (tG = false) := by show tG = false; rw [← HTG.out]; simp [he]
                            have hei : ¬ (e6 : Int) = 0 := by omega
                            have heb : ((e6 : Int) == 0) = false := by simp; omega
                            go_region
                            all_goals
                              go_wp2_with fail
                              go_meet
                              case rel => exact ⟨by rw [HB.out], 1, rfl⟩
                      case rest =>
                        obtain ⟨rfl, q, hwd⟩ := hcut
                        have HSa : Hid (CSt K' r s l most v x.1 w0 wc p5 e6 (ulen s p k = (0, p1, n2) ∧ udist ns s p1 = (0, p5, f) ∧ f ≤ L)) := by
                          rw [hwd]; exact ⟨HS9.out.1.drewN q, HS9.out.2.1.trans (UF.drewN _ _ q), HS9.out.2.2⟩
                        clear hwd HS9 g0 g1 g2 g3 g4
                        obtain ⟨wI, hwI⟩ : ∃ wI, wI = wc := ⟨_, rfl⟩
                        subst hwI
                        obtain ⟨g0, g1, g2, g3, g4⟩ := HSa.out.1.cells
                        have fz := HSa.out.1.free 4 (by omega)
                        go_upto_if 110 with fail
                        go_cut [] (fun wd => ∃ (e7 : Nat), Hid (CSt K' r s l most v x.1 w0 wd p5 e7 (ulen s p k = (0, p1, n2) ∧ udist ns s p1 = (0, p5, f) ∧ f ≤ L ∧ S ≤ most)))
                        case first =>
                          as_aux_lemma =>
                            cases tG with
                            | true =>
                              obtain ⟨he, hLf⟩ := of_decide_eq_true HTG.out
                              subst he
                              have HBAD : Hid (x.1 = 4) := by
                                show x.1 = 4
                                obtain ⟨hul, hud, hfL⟩ := HSa.out.2.2.2 rfl
                                have hrep : repF 0 l most n2 f = (4, 0, l) := by unfold repF; rw [HL.out, if_neg (by omega), if_pos (by omega)]
                                rw [← HX.out]
                                unfold copF
                                rw [hul, if_neg (by simp)]
                                show (if (udist ns s p1).1 ≠ 0 then _ else if (repF 0 l most n2 (udist ns s p1).2.2).1 ≠ 0 then _ else _ : Nat × Nat × List Nat).1 = 4
                                rw [hud, if_neg (by simp)]
                                show (if (repF 0 l most n2 f).1 ≠ 0 then _ else _ : Nat × Nat × List Nat).1 = 4
                                rw [hrep, if_pos (by simp)]
                              clear hLf
                              go_wp2_with fail
                              go_meet
                              case rel => exact ⟨4, HSa.out.1.setE 4, HSa.out.2.1.trans (HSa.out.1.uf_set 4 _), fun _ => HBAD.out, fun h => absurd h (by simp)⟩
                            | false =>
                              have HG : Hid (CSt K' r s l most v x.1 w0 wI p5 e6 (ulen s p k = (0, p1, n2) ∧ udist ns s p1 = (0, p5, f) ∧ f ≤ L ∧ S ≤ most)) := ⟨HSa.out.1, HSa.out.2.1, HSa.out.2.2.1, fun he => ⟨(HSa.out.2.2.2 he).1, (HSa.out.2.2.2 he).2.1, (HSa.out.2.2.2 he).2.2, by have := of_decide_eq_false HTG.out; omega⟩⟩
                              go_wp2_with fail
                              go_meet
                              case rel => exact ⟨e6, HG⟩
                        case rest =>
                          obtain ⟨e7, HSb⟩ := hcut
                          obtain ⟨wJ, hwJ⟩ : ∃ wJ, wJ = wc := ⟨_, rfl⟩
                          subst hwJ
                          clear HSa HTG g0 g1 g2 g3 g4 fz
                          go_wp2_with fail
                          go_loopw [11] (fun v11 wr => ∃ i : Nat, v11 = .int .i64 i ∧ i ≤ n2 ∧ Hid (∃ v', RR wr K' r s p5 (copyL f i l) most e7 v' ∧ UF K' w0 wr ∧ (e7 ≠ 0 → i = 0))) (fun v11 _ => n2 - (intOf v11).toNat)
                          case atStart => exact ⟨0, rfl, Nat.zero_le _, v, HSb.out.1, HSb.out.2.1, fun _ => rfl⟩
                          case round =>
                            obtain ⟨i, rfl, hi, HS⟩ := hrel
                            by_cases he : e7 = 0
                            · subst he
                              by_cases hlt : i < n2
                              · have hlti : (i : Int) < (n2 : Int) := by omega
                                obtain ⟨V, hRS, hF, _⟩ := HS.out
                                obtain ⟨hul, hud, hfL, hSm⟩ := HSb.out.2.2.2 rfl
                                obtain ⟨M, hM⟩ : ∃ M, copyL f i l = M := ⟨_, rfl⟩
                                have hML : M.length = L + i := by rw [← hM, copyL_length, HL.out]
                                rw [hM] at hRS
                                obtain ⟨g, cq, rfl, cb⟩ := hRS.byte (i := M.length - f) (by omega)
                                obtain ⟨q', hq⟩ : ∃ q', M.length - f = q' := ⟨_, rfl⟩
                                have HXC : Hid (copyL f (i + 1) l = M ++ [M.getD q' 0]) := by
                                  show _ = _
                                  rw [copyL_succ, hM, hq]
                                rw [hq] at cb
                                obtain ⟨xb, hxb⟩ : ∃ xb, M.getD q' 0 = xb := ⟨_, rfl⟩
                                rw [hxb] at cb HXC
                                obtain ⟨Q, hQ⟩ : ∃ Q, M.length = Q := ⟨_, rfl⟩
                                have HQ : Hid (M.length = Q) := hQ
                                rw [hQ] at hML
                                have d1 := hRS.cells.2.2.2.1
                                have d4 := hRS.cells.2.2.2.2
                                have d2 := hRS.free 3 (by omega)
                                rw [hQ] at d1
                                have HSS : Hid (RR wr K' r s p5 M most 0 (.slice (some ⟨g, 0, none⟩) Q cq) ∧ UF K' w0 wr) := ⟨by rw [← hQ]; exact hRS, hF⟩
                                have hqi : (Q : Int) - (f : Int) = (q' : Int) := by rw [hQ] at hq; omega
                                have hqQ : (q' : Int) < (Q : Int) := by rw [hQ] at hq; omega
                                have hqw : IntKind.i64.wrap (q' : Int) = (q' : Int) := wrapN q' (by rw [hQ] at hq; omega)
                                have hQb : Q + 1 ≤ 1048577 := by omega
                                have hq0 : (0 : Int) ≤ (q' : Int) := by omega
                                clear hML
                                obtain ⟨i0, hi0, hz0, hz1, hz2⟩ := info_parts infoB
                                have HI : Hid (_ ∧ _ ∧ _ ∧ _) := ⟨hi0, hz0, hz1, hz2⟩
                                have HA : Hid (∀ o, RR (wr.drew.alloc o) K' r s p5 M most 0 (.slice (some ⟨g, 0, none⟩) Q cq)) := fun o => (HSS.out.1.drewN 1).alloc o
                                have HO : Hid (∀ o, (wr.drew.alloc o).ownsRow 0 5 1 (.slice (some ⟨g, 0, none⟩) Q cq) Q (bcells M)) := fun o => by have := (HA.out o).own; rw [HQ.out] at this; exact this
                                have e1 : (wr.alloc (.cells #[.int .u8 (xb : Nat)] 5)).cell? ⟨r, 3, none⟩ = some (.slice (some ⟨g, 0, none⟩) Q cq) := (HA.out _).cells.2.2.2.1
                                have e2 : (wr.alloc (.cells #[.int .u8 (xb : Nat)] 5)).frozen? ⟨r, 3, none⟩ = false := (HA.out _).free 3 (by omega)
                                clear hRS hF hM hq hxb hQ HS hi0 hz0 hz1 hz2 hul hud hfL hSm
                                go_wp2_with fail
                                go_region_law
                                  (refine step_append_lies _ rfl _ _ 23 rfl 0 5 i0 (.int .u8 0) 1 1 Tryd.underlying23 HI.out.1 HI.out.2.1 HI.out.2.2.1 HI.out.2.2.2 rfl (by decide) (.slice (some ⟨g, 0, none⟩) Q cq) Q (bcells M) rfl (by first | exact HO.out _) ⟨wr.heap.size, 0, none⟩ 1 1 [.int .u8 (xb : Nat)] rfl rfl (by first | exact newB wr _ _ | exact newB wr.drew _ _) (oneB _) (by decide) (by unfold maxLen; omega) (by omega) (Nat.zero_le _) _ rfl ?_; intro g3 cap3 wc hown hgrow hat hgl; obtain ⟨z1, z2, z3, z4⟩ := (HA.out (.cells #[.int .u8 (xb : Nat)] 5)).grow1 HQ.out hown hgrow hat rfl; have HZ : Hid _ := (⟨z3, z4⟩ : _ ∧ _); clear z3 z4 hown hgrow hat hgl)
                                all_goals
                                  have hz3 := HZ.out.1
                                  rw [← HXC.out] at hz3
                                  have HN : Hid (∃ v', RR (wc.setCell ⟨r, 3, none⟩ (.slice (some ⟨g3, 0, none⟩) (Q + 1) cap3)) K' r s p5 (copyL f (i + 1) l) most 0 v' ∧ UF K' w0 (wc.setCell ⟨r, 3, none⟩ (.slice (some ⟨g3, 0, none⟩) (Q + 1) cap3)) ∧ (0 ≠ 0 → i + 1 = 0)) := ⟨_, hz3, HSS.out.2.trans ⟨HZ.out.2.os, HZ.out.2.tape, HZ.out.2.output, Nat.le_trans (by simp) HZ.out.2.size, fun k hk => (HZ.out.2.block k hk).trans (heap_alloc_old wr.drew _ (HSS.out.1.kb k hk))⟩, fun h => absurd rfl h⟩
                                  clear hz3
                                  go_wp2
                                  exact ⟨⟨i + 1, by go_num, by omega, HN⟩, by simp [intOf]; omega⟩
                              · have hlti : ¬ (i : Int) < (n2 : Int) := by omega
                                obtain rfl : i = n2 := by omega
                                have HXE : Hid (x = (0, p5, copyL f i l)) := by
                                  show x = _
                                  obtain ⟨hul, hud, hfL, hSm⟩ := HSb.out.2.2.2 rfl
                                  have hrep : repF 0 l most i f = (0, 0, copyL f i l) := by unfold repF; rw [HL.out, if_neg (by omega), if_neg (by omega)]
                                  rw [← HX.out]
                                  unfold copF
                                  rw [hul, if_neg (by simp)]
                                  show (if (udist ns s p1).1 ≠ 0 then _ else if (repF 0 l most i (udist ns s p1).2.2).1 ≠ 0 then _ else (0, (udist ns s p1).2.1, (repF 0 l most i (udist ns s p1).2.2).2.2) : Nat × Nat × List Nat) = _
                                  rw [hud, if_neg (by simp)]
                                  show (if (repF 0 l most i f).1 ≠ 0 then _ else (0, p5, (repF 0 l most i f).2.2) : Nat × Nat × List Nat) = _
                                  rw [hrep, if_neg (by simp)]
                                go_wp2
                                go_end0
                                obtain ⟨v', h1, h2, _⟩ := HS.out
                                exact ⟨rfl, HU0.out.trans (h2.less HK.out), p5, copyL f i l, v', by rw [HXE.out]; exact h1.less HK.out, fun _ => by rw [HXE.out]; exact ⟨rfl, rfl⟩⟩
                            · obtain ⟨v', h1, h2, h3⟩ := HS.out
                              obtain rfl : i = 0 := h3 he
                              have hei : ¬ (e7 : Int) = 0 := by omega
                              have heb : ((e7 : Int) == 0) = false := by simp; omega
                              have HXE : Hid (x.1 = e7 ∧ x.1 ≠ 0) := ⟨HSb.out.2.2.1 he, by rw [HSb.out.2.2.1 he]; exact he⟩
                              have d4 := h1.cells.2.2.2.2
                              clear h1 h2 h3
                              by_cases hn0 : 0 < n2
                              · have hn0i : (0 : Int) < (n2 : Int) := by omega
                                go_wp2
                                go_end0
                                obtain ⟨v', h1, h2, _⟩ := HS.out
                                exact ⟨rfl, HU0.out.trans (h2.less HK.out), p5, _, v', by rw [HXE.out.1]; exact h1.less HK.out, fun h => absurd h HXE.out.2⟩
                              · have hn0i : ¬ (0 : Int) < (n2 : Int) := by omega
                                go_wp2
                                go_end0
                                obtain ⟨v', h1, h2, _⟩ := HS.out
                                exact ⟨rfl, HU0.out.trans (h2.less HK.out), p5, _, v', by rw [HXE.out.1]; exact h1.less HK.out, fun h => absurd h HXE.out.2⟩
end Go.Proofs.YtlbadjfcffoakaaDoor
