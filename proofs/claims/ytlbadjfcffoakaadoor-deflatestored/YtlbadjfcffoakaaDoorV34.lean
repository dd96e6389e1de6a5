/- Layer 5: lengths as pieces. -/
/- Layer 5: lengths that are told by pieces are read as they were. -/
/- Layer 5: a block that tells its codes is read. -/
/- Layer 5: the best lengths, cut behind the last one above 0: what a told block must know of them. -/
/- Layer 5: the best lengths as codes that are told: words of all that come; one that comes alone; codes of two lengths. -/
import Derived.Test.YtlbadjfcffoakaaDoorV33
import Derived.Test.YtlbadjfcffoakaaDoorV17
import Derived.Test.YtlbadjfcffoakaaDoorV13
namespace Go.Proofs.YtlbadjfcffoakaaDoor
open Go.RowKit
set_option linter.unusedVariables false
set_option maxRecDepth 20000

def sameL (f : Nat → Nat) (k : Nat) : Nat → Nat → Nat
  | 0, n => n
  | m + 1, n => if f (k + n) = f k then sameL f k m (n + 1) else n
theorem sameL_b (f : Nat → Nat) (k : Nat) : ∀ m n, n ≤ sameL f k m n ∧ sameL f k m n ≤ n + m ∧ ∀ i, n ≤ i → i < sameL f k m n → f (k + i) = f k
  | 0, n => ⟨Nat.le_refl _, Nat.le_refl _, fun i h1 h2 => by simp [sameL] at h2; omega⟩
  | m + 1, n => by
    unfold sameL
    split
    · rename_i h
      have h1 := sameL_b f k m (n + 1)
      refine ⟨by omega, by omega, fun i hi h2 => ?_⟩
      by_cases e : i = n
      · subst e; exact h
      · exact h1.2.2 i (by omega) h2
    · exact ⟨Nat.le_refl _, by omega, fun i h1 h2 => by omega⟩
def timesAt (f : Nat → Nat) (N k : Nat) : Nat := sameL f k (N - k - 1) 1
theorem timesAt_b {f : Nat → Nat} {N k : Nat} (h : k < N) : 1 ≤ timesAt f N k ∧ k + timesAt f N k ≤ N ∧ ∀ i, i < timesAt f N k → f (k + i) = f k := by
  have h1 := sameL_b f k (N - k - 1) 1
  unfold timesAt
  refine ⟨h1.1, by omega, fun i hi => ?_⟩
  by_cases e : i = 0
  · subst e; rfl
  · exact h1.2.2 i (by omega) hi
def runsL (f : Nat → Nat) (N : Nat) : Nat → Nat → List (Nat × Nat × Nat)
  | 0, _ => []
  | F + 1, k => if k < N then runP (f k) (timesAt f N k) ++ runsL f N F (k + timesAt f N k) else []
theorem runsL_end {f : Nat → Nat} {N F k : Nat} (h : ¬ k < N) : runsL f N F k = [] := by
  cases F with
  | zero => rfl
  | succ F => unfold runsL; rw [if_neg h]
theorem runsL_length (f : Nat → Nat) (N : Nat) : ∀ F k, k ≤ N → (runsL f N F k).length ≤ N - k
  | 0, k, _ => by simp [runsL]
  | F + 1, k, h => by
    unfold runsL
    split
    · rename_i hk
      have h1 := timesAt_b (f := f) hk
      have h2 := runsL_length f N F (k + timesAt f N k) h1.2.1
      have h3 := runP_length (f k) (timesAt f N k) h1.1
      rw [List.length_append]; omega
    · simp
def LR (w : World) (g N : Nat) (f : Nat → Nat) : Prop := ∃ cur m, w.heap[g]? = some (.cells cur 3 m) ∧ ∀ i, i < N → cur[i]? = some (.int .i64 (f i : Nat))
theorem LR.below {w w' : World} {g N : Nat} {f : Nat → Nat} (h : LR w g N f) (hb : Below w.heap.size w w') : LR w' g N f := by
  obtain ⟨cur, m, h1, h2⟩ := h
  exact ⟨cur, m, (hb.block g (lt_of_block h1)).trans h1, h2⟩
theorem LR.cell {w : World} {g N : Nat} {f : Nat → Nat} (h : LR w g N f) {i : Nat} (hi : i < N) : w.cell? ⟨g, i, none⟩ = some (.int .i64 (f i : Nat)) := by
  obtain ⟨cur, m, h1, h2⟩ := h
  simp [World.cell?, h1, h2 i hi]
set_option maxHeartbeats 4000000 in
theorem runs_ok (g N cap : Nat) (f : Nat → Nat) (w : World) (hr : LR w g N f) (hN : N ≤ 1000) (hc : N ≤ cap) (hcb : cap ≤ 9223372036854775807) (hf : ∀ i, f i ≤ 15) :
    Calls Tryd.prog 63 #[.slice (some ⟨g, 0, none⟩) N cap] w fun e w' => ∃ v, e = .returned v ∧ QR w w.heap.size v (runsL f N N 0) w' := by
  obtain ⟨R, hR⟩ : ∃ R, runsL f N N 0 = R := ⟨_, rfl⟩
  rw [hR]
  have HALL : Hid (LR w g N f ∧ (∀ i, f i ≤ 15) ∧ runsL f N N 0 = R ∧ R.length ≤ N) := ⟨hr, hf, hR, by rw [← hR]; have := runsL_length f N N 0 (Nat.zero_le _); omega⟩
  have HA : Hid (∀ (l t : Nat) (v : Value) (P : List (Nat × Nat × Nat)) (W : World), QR w w.heap.size v P W → 1 ≤ t → t ≤ 1000 → P.length ≤ 10000 → l ≤ 15 → Calls Tryd.prog 76 #[v, .int .i64 (l : Nat), .int .i64 (t : Nat)] W fun e w' => ∃ v', e = .returned v' ∧ QR w w.heap.size v' (P ++ runP l t) w') := fun l t v P W h1 h2 h3 h4 h5 => appendRun_ok l t v P w.heap.size w W h1 h2 h3 h4 h5
  have HQ0 : Hid (QR w w.heap.size (.slice none 0 0) [] w) := ⟨World.ownsRow_nil _ _ _ _, Below.refl _ _, Nat.le_refl _⟩
  obtain ⟨B, hB⟩ : ∃ B, w.heap.size = B := ⟨_, rfl⟩
  rw [hB] at HA HQ0
  clear hr hf hR
  go_enter Tryd.func63, Tryd.ntmps63
  go_wp2_with fail
  go_loopw [0, 3] (fun v0 v3 wr => ∃ (a : Option Addr) (k n c : Nat), v0 = .slice a n c ∧ k + n = N ∧ n ≤ c ∧ c ≤ 9223372036854775807 ∧ (0 < n → a = some ⟨g, k, none⟩) ∧ Hid (∃ Q F, QR w B v3 Q wr ∧ Q ++ runsL f N F k = R ∧ n ≤ F)) (fun v0 _ _ => (match v0 with | .slice _ n _ => n | _ => 0))
  case atStart => exact ⟨_, 0, N, cap, rfl, by omega, hc, hcb, fun _ => rfl, [], N, HQ0.out, HALL.out.2.2.1, Nat.le_refl _⟩
  case round =>
    obtain ⟨a, k, n, c, rfl, hkn, hnc, hc1, hav, HS⟩ := hrel
    by_cases h0 : 0 < n
    · have hav' := hav h0
      subst hav'
      clear hav
      have h0i : (0 : Int) < (n : Int) := by omega
      have hkN : k < N := by omega
      have htb := timesAt_b (f := f) hkN
      obtain ⟨T, hT⟩ : ∃ T, timesAt f N k = T := ⟨_, rfl⟩
      have HT : Hid (timesAt f N k = T) := hT
      rw [hT] at htb
      have htb' : 1 ≤ T ∧ T ≤ n := ⟨htb.1, by omega⟩
      have hrow : ∀ i, i < n → wr.cell? ⟨g, k + i, none⟩ = some (.int .i64 (f (k + i) : Nat)) := fun i hi => by
        obtain ⟨Q, F, hq, _⟩ := HS.out
        have hl : LR wr g N f := HALL.out.1.below (by rw [hB]; exact hq.2.1)
        exact hl.cell (i := k + i) (by omega)
      have HROW : Hid (∀ i, i < n → wr.cell? ⟨g, k + i, none⟩ = some (.int .i64 (f (k + i) : Nat))) := hrow
      clear hrow htb hT
      go_upto_block 2 with fail
      go_cut [4] (fun v4 wc => v4 = .int .i64 (T : Nat) ∧ ∃ j, wc = wr.drewN j)
      case first =>
        as_aux_lemma =>
          go_wp2_with fail
          go_loopw [4] (fun v4 ws => ∃ m : Nat, v4 = .int .i64 (m : Nat) ∧ 1 ≤ m ∧ m ≤ n ∧ Hid (sameL f k (n - m) m = T ∧ ∃ j, ws = wr.drewN j)) (fun v4 _ => n - (intOf v4).toNat)
          case atStart => exact ⟨1, rfl, by omega, by omega, by have := HT.out; unfold timesAt at this; rw [show N - k - 1 = n - 1 by omega] at this; exact this, 0, rfl⟩
          case round =>
            obtain ⟨m, rfl, hm1, hmn, HM⟩ := hrel
            obtain ⟨hs, j, hj⟩ := HM.out
            subst hj
            by_cases hlt : m < n
            · have hlti : (m : Int) < (n : Int) := by omega
              have hltb : decide ((m : Int) < (n : Int)) = true := by simp; omega
              have c0 : wr.cell? ⟨g, k, none⟩ = some (.int .i64 (f k : Nat)) := by have := HROW.out 0 h0; rw [Nat.add_zero] at this; exact this
              have c1 : wr.cell? ⟨g, k + m, none⟩ = some (.int .i64 (f (k + m) : Nat)) := HROW.out m hlt
              rw [show n - m = (n - (m + 1)) + 1 by omega, sameL] at hs
              obtain ⟨x, hx⟩ : ∃ x, f k = x := ⟨_, rfl⟩
              obtain ⟨y, hy⟩ : ∃ y, f (k + m) = y := ⟨_, rfl⟩
              rw [hx] at c0 hs
              rw [hy] at c1 hs
              clear hx hy HM
              by_cases hxy : y = x
              · rw [if_pos hxy] at hs
                have hxb : ((y : Int) == (x : Int)) = true := by simp [hxy]
                have HN : Hid (sameL f k (n - (m + 1)) (m + 1) = T) := hs
                clear hs hxy
                go_wp2_with fail
                go_quiet (fail)
                go_wp2
                exact ⟨⟨m + 1, by go_num, by omega, by omega, HN.out, j + nq, by first | rfl | exact World.drewN_drewN _ _ _⟩, by simp [intOf]; omega⟩
              · rw [if_neg hxy] at hs
                subst hs
                have hxb : ((y : Int) == (x : Int)) = false := by simp; omega
                clear hxy
                go_wp2_with fail
                go_quiet (fail)
                go_wp2_with fail
                go_meet
                case rel => exact ⟨rfl, j + nq, by first | rfl | exact World.drewN_drewN _ _ _⟩
            · obtain rfl : m = n := by omega
              have hltb : decide ((m : Int) < (m : Int)) = false := by simp
              rw [Nat.sub_self] at hs
              have hs2 : m = T := hs
              subst hs2
              clear hs HM
              go_wp2_with fail
              go_quiet (fail)
              go_wp2_with fail
              go_meet
              case rel => exact ⟨rfl, j + nq, by first | rfl | exact World.drewN_drewN _ _ _⟩
      case rest =>
        obtain ⟨rfl, j, rfl⟩ := hcut
        have c0 : (wr.drewN j).cell? ⟨g, k, none⟩ = some (.int .i64 (f k : Nat)) := by have := HROW.out 0 h0; rw [Nat.add_zero] at this; exact this
        obtain ⟨Q, F, hq, hQ, hF⟩ := HS.out
        obtain ⟨F, rfl⟩ : ∃ F', F = F' + 1 := ⟨F - 1, by omega⟩
        unfold runsL at hQ
        rw [if_pos hkN, HT.out] at hQ
        have hqd : QR w B u3 Q (wr.drewN j) := hq.quiet ⟨rfl, rfl, rfl, Nat.le_refl _, fun _ _ => rfl⟩
        have hQl : Q.length ≤ 10000 := by
          have h8 := HALL.out.2.2.2
          rw [← hQ, List.length_append] at h8
          omega
        have HC : Hid (∀ _ : Unit, Calls Tryd.prog 76 #[u3, .int .i64 (f k : Nat), .int .i64 (T : Nat)] (wr.drewN j) fun e w' => ∃ v', e = .returned v' ∧ QR w B v' (Q ++ runP (f k) T) w') := fun _ => HA.out (f k) T u3 Q (wr.drewN j) hqd htb'.1 (by omega) hQl (HALL.out.2.1 k)
        obtain ⟨x, hx⟩ : ∃ x, f k = x := ⟨_, rfl⟩
        rw [hx] at c0 HC hQ
        obtain ⟨k2, hk2⟩ : ∃ k2, k + T = k2 := ⟨_, rfl⟩
        obtain ⟨n2, hn2⟩ : ∃ n2, n - T = n2 := ⟨_, rfl⟩
        obtain ⟨c2, hc2⟩ : ∃ c2, c - T = c2 := ⟨_, rfl⟩
        rw [hk2] at hQ
        have HX : Hid ((Q ++ runP x T) ++ runsL f N F k2 = R ∧ n2 ≤ F) := ⟨by rw [List.append_assoc]; exact hQ, by omega⟩
        have hTi : (T : Int) ≤ (n : Int) := by omega
        have hni : (n : Int) - (T : Int) = (n2 : Int) := by omega
        have hci : (c : Int) - (T : Int) = (c2 : Int) := by omega
        have hTc : (T : Int) ≤ (c : Int) := by omega
        clear hq hqd hQ hx hQl HS
        go_wp2_with fail
        refine (HC.out ()).mono ?_
        rintro e w3 ⟨v3, rfl, hq3⟩
        have H3 : Hid (QR w B v3 (Q ++ runP x T) w3) := hq3
        clear hq3 HC c0
        go_wp2
        exact ⟨⟨_, k2, n2, c2, rfl, by omega, by omega, by omega, fun hn => by rw [if_neg (by omega)], Q ++ runP x T, F, H3.out, HX.out.1, HX.out.2⟩, by show n2 < n; omega⟩
    · clear hav
      obtain rfl : n = 0 := by omega
      have h0i : ¬ (0 : Int) < ((0 : Nat) : Int) := by omega
      have HE : Hid (QR w B u3 R wr) := by
        obtain ⟨Q, F, hq, hQ, hF⟩ := HS.out
        rw [runsL_end (by omega), List.append_nil] at hQ
        rw [← hQ]; exact hq
      go_wp2
      go_ret
      exact ⟨_, rfl, by first | exact HE.out | (rw [hB]; exact HE.out)⟩
end Go.Proofs.YtlbadjfcffoakaaDoor
namespace Go.Proofs.YtlbadjfcffoakaaDoor
open Go.RowKit
set_option linter.unusedVariables false
set_option maxRecDepth 20000

def pieB (ns : List Nat) (q : Nat × Nat × Nat) : List Nat := symB ns q.1 ++ bitsOf q.2.1 q.2.2
def pieBits (ns : List Nat) : List (Nat × Nat × Nat) → List Nat
  | [] => []
  | q :: P => pieB ns q ++ pieBits ns P
theorem pieBits_snoc (ns : List Nat) (t : Nat × Nat × Nat) : ∀ T, pieBits ns (T ++ [t]) = pieBits ns T ++ pieB ns t
  | [] => by simp [pieBits]
  | x :: T => by show pieB ns x ++ pieBits ns (T ++ [t]) = (pieB ns x ++ pieBits ns T) ++ pieB ns t; rw [pieBits_snoc ns t T, List.append_assoc]
theorem pieB_length (ns : List Nat) (q : Nat × Nat × Nat) : (pieB ns q).length = ns.getD q.1 0 + q.2.2 := by unfold pieB; rw [List.length_append, symB_length, bitsOf_length]
def PieOK (q : Nat × Nat × Nat) : Prop := (q.1 < 16 ∧ q.2.1 = 0 ∧ q.2.2 = 0) ∨ (q.1 = 16 ∧ q.2.1 < 4 ∧ q.2.2 = 2) ∨ (q.1 = 17 ∧ q.2.1 < 8 ∧ q.2.2 = 3) ∨ (q.1 = 18 ∧ q.2.1 < 128 ∧ q.2.2 = 7)
def tellP (L : List Nat) (q : Nat × Nat × Nat) : List Nat := if q.1 = 16 then List.replicate (3 + q.2.1) (L.getLastD 0) else if q.1 = 17 then List.replicate (3 + q.2.1) 0 else if q.1 = 18 then List.replicate (11 + q.2.1) 0 else List.replicate 1 q.1
def Says : List Nat → List (Nat × Nat × Nat) → List Nat → Prop
  | L, [], L' => L = L'
  | L, q :: P, L' => PieOK q ∧ (q.1 = 16 → L ≠ []) ∧ Says (L ++ tellP L q) P L'
theorem Says.append : ∀ {P Q : List (Nat × Nat × Nat)} {L M N : List Nat}, Says L P M → Says M Q N → Says L (P ++ Q) N
  | [], Q, L, M, N, h, k => by have h : L = M := h; subst h; exact k
  | q :: P, Q, L, M, N, h, k => ⟨h.1, h.2.1, Says.append h.2.2 k⟩
theorem Says.len : ∀ {P : List (Nat × Nat × Nat)} {L M : List Nat}, Says L P M → L.length ≤ M.length
  | [], L, M, h => by have h : L = M := h; subst h; exact Nat.le_refl _
  | q :: P, L, M, h => by have := Says.len h.2.2; rw [List.length_append] at this; omega
theorem Says.ok : ∀ {P : List (Nat × Nat × Nat)} {L M : List Nat}, Says L P M → ∀ q ∈ P, PieOK q
  | [], L, M, h => fun q hq => by simp at hq
  | x :: P, L, M, h => fun q hq => by
    rcases List.mem_cons.1 hq with rfl | hq
    · exact h.1
    · exact Says.ok h.2.2 q hq
theorem PieOK.small {q : Nat × Nat × Nat} (h : PieOK q) : q.1 < 19 ∧ q.2.1 < 2 ^ q.2.2 ∧ q.2.2 ≤ 7 := by
  obtain ⟨a, b, c⟩ := q
  rcases h with ⟨h1, h2, h3⟩ | ⟨h1, h2, h3⟩ | ⟨h1, h2, h3⟩ | ⟨h1, h2, h3⟩ <;> simp only at h1 h2 h3 <;> subst h3
  · subst h2; exact ⟨by simp only; omega, by simp, by simp⟩
  · exact ⟨by simp only; omega, by simp only; omega, by simp⟩
  · exact ⟨by simp only; omega, by simp only; omega, by simp⟩
  · exact ⟨by simp only; omega, by simp only; omega, by simp⟩
theorem run_read {ns : List Nat} {z : ByteArray} {p : Nat} {L : List Nat} {q : Nat × Nat × Nat} (hq : PieOK q) (h16 : q.1 = 16 → L ≠ []) (hc : Cod ns q.1) (hb : BitsAt z p (pieB ns q)) : ∃ x y, runF ns z p L = (0, p + (pieB ns q).length, x, y) ∧ tellP L q = List.replicate y x ∧ 1 ≤ y := by
  obtain ⟨a, b, c⟩ := q
  unfold pieB at hb
  simp only at hc hb h16
  have hu := cod_at hc hb.left
  have hr := hb.right
  rw [symB_length] at hr
  have hlen : (pieB ns (a, b, c)).length = ns.getD a 0 + c := pieB_length ns (a, b, c)
  have hs := hq.small
  have hub := ub_at hr hs.2.1
  rw [hlen]
  unfold runF tellP
  rw [hu, if_neg (by simp)]
  simp only
  rcases hq with ⟨h1, h2, h3⟩ | ⟨h1, h2, h3⟩ | ⟨h1, h2, h3⟩ | ⟨h1, h2, h3⟩ <;> simp only at h1 h2 h3 <;> subst h3
  · rw [if_neg (by omega), if_neg (by omega), if_neg (by omega), if_neg (by omega), if_neg (by omega), if_neg (by omega)]
    exact ⟨a, 1, by rw [Nat.add_zero], rfl, Nat.le_refl _⟩
  · subst h1
    rw [if_pos rfl, if_neg (h16 rfl), if_pos rfl, hub]
    exact ⟨_, _, by rw [Nat.add_assoc], rfl, by omega⟩
  · subst h1
    rw [if_neg (by omega), if_pos rfl, if_neg (by omega), if_pos rfl, hub]
    exact ⟨_, _, by rw [Nat.add_assoc], rfl, by omega⟩
  · subst h1
    rw [if_neg (by omega), if_neg (by omega), if_pos rfl, if_neg (by omega), if_neg (by omega), if_pos rfl, hub]
    exact ⟨_, _, by rw [Nat.add_assoc], rfl, by omega⟩
theorem lens_read {ns : List Nat} {z : ByteArray} {n : Nat} (hn : ns.length ≤ 288) : ∀ (P : List (Nat × Nat × Nat)) (L L' : List Nat) (p : Nat), Says L P L' → L'.length = n → (∀ q ∈ P, Cod ns q.1) → BitsAt z p (pieBits ns P) → lensF ns z n (n + 1 - L.length) p L = (0, p + (pieBits ns P).length, L')
  | [], L, L', p, h, hl, hc, hb => by
    have h : L = L' := h
    subst h
    rw [lens_end hl]; rfl
  | q :: P, L, L', p, h, hl, hc, hb => by
    have hb : BitsAt z p (pieB ns q ++ pieBits ns P) := hb
    obtain ⟨x, y, h1, h2, h3⟩ := run_read (L := L) h.1 h.2.1 (hc q (List.mem_cons_self ..)) hb.left
    have hlen := h.2.2.len
    rw [h2, List.length_append, List.length_replicate, hl] at hlen
    have hs := h.2.2
    rw [h2] at hs
    rw [lens_more hn (by omega) h1 (by omega), lens_read hn P _ L' _ hs hl (fun x hx => hc x (List.mem_cons_of_mem _ hx)) hb.right]
    show _ = (0, p + (pieB ns q ++ pieBits ns P).length, L')
    rw [List.length_append, Nat.add_assoc]
theorem rep_snoc (L : List Nat) (a b x : Nat) : (L ++ List.replicate a x) ++ List.replicate b x = L ++ List.replicate (a + b) x := by rw [List.append_assoc, List.replicate_append_replicate]
theorem says_plain (x : Nat) (hx : x ≤ 15) : ∀ (t : Nat) (L : List Nat), Says L (List.replicate t (x, 0, 0)) (L ++ List.replicate t x)
  | 0, L => by show L = L ++ []; rw [List.append_nil]
  | t + 1, L => by
    rw [List.replicate_succ]
    refine ⟨.inl ⟨by simp only; omega, rfl, rfl⟩, fun h => by simp only at h; omega, ?_⟩
    have e : tellP L (x, 0, 0) = List.replicate 1 x := by unfold tellP; rw [if_neg (by simp only; omega), if_neg (by simp only; omega), if_neg (by simp only; omega)]
    rw [e]
    have := says_plain x hx t (L ++ List.replicate 1 x)
    rw [rep_snoc, Nat.add_comm 1 t] at this
    exact this
theorem last_rep (L : List Nat) (t x : Nat) (h : 0 < t) : (L ++ List.replicate t x).getLastD 0 = x := by
  obtain ⟨t, rfl⟩ : ∃ t', t = t' + 1 := ⟨t - 1, by omega⟩
  rw [List.replicate_succ', ← List.append_assoc]
  simp
theorem rep_says {x t : Nat} {L : List Nat} (hx : x ≤ 15) (ht : 3 ≤ t) (hl : 0 < x → L ≠ [] ∧ L.getLastD 0 = x) : PieOK (repK x t).1 ∧ ((repK x t).1.1 = 16 → L ≠ []) ∧ tellP L (repK x t).1 = List.replicate (repK x t).2 x := by
  unfold repK
  by_cases h0 : 0 < x
  · rw [if_pos h0]
    simp only
    refine ⟨.inr (.inl ⟨rfl, by simp only; omega, rfl⟩), fun _ => (hl h0).1, ?_⟩
    unfold tellP
    rw [if_pos rfl, (hl h0).2]
    congr 1
    simp only; omega
  · rw [if_neg h0]
    have hx0 : x = 0 := by omega
    subst hx0
    by_cases h10 : t ≤ 10
    · rw [if_pos h10]
      simp only
      refine ⟨.inr (.inr (.inl ⟨rfl, by simp only; omega, rfl⟩)), fun h => by omega, ?_⟩
      unfold tellP
      rw [if_neg (by simp only; omega), if_pos rfl]
      congr 1
      simp only; omega
    · rw [if_neg h10]
      simp only
      refine ⟨.inr (.inr (.inr ⟨rfl, by simp only; omega, rfl⟩)), fun h => by omega, ?_⟩
      unfold tellP
      rw [if_neg (by simp only; omega), if_neg (by simp only; omega), if_pos rfl]
      congr 1
      simp only; omega
theorem reps_says {x : Nat} (hx : x ≤ 15) : ∀ (f t : Nat) (L : List Nat), t ≤ f → (0 < x → L ≠ [] ∧ L.getLastD 0 = x) → Says L (reps x f t) (L ++ List.replicate t x)
  | 0, t, L, h, hl => says_plain x hx t L
  | f + 1, t, L, h, hl => by
    unfold reps
    by_cases h3 : 3 ≤ t
    · rw [if_pos h3]
      obtain ⟨a1, a2, a3⟩ := rep_says (t := t) hx h3 hl
      have hb := repK_b x t h3
      refine ⟨a1, a2, ?_⟩
      rw [a3]
      have := reps_says hx f (t - (repK x t).2) (L ++ List.replicate (repK x t).2 x) (by omega) (fun h0 => ⟨by intro e; have := congrArg List.length e; rw [List.length_append, List.length_replicate] at this; simp at this; omega, last_rep _ _ _ (by omega)⟩)
      rw [rep_snoc, show (repK x t).2 + (t - (repK x t).2) = t by omega] at this
      exact this
    · rw [if_neg h3]; exact says_plain x hx t L
theorem runP_says {x t : Nat} (hx : x ≤ 15) (ht : 1 ≤ t) (L : List Nat) : Says L (runP x t) (L ++ List.replicate t x) := by
  unfold runP
  by_cases h0 : 0 < x
  · rw [if_pos h0]
    have h1 := says_plain x hx 1 L
    have h2 := reps_says hx t (t - 1) (L ++ List.replicate 1 x) (by omega) (fun _ => ⟨by intro e; have := congrArg List.length e; rw [List.length_append, List.length_replicate] at this; simp at this, last_rep _ _ _ (by omega)⟩)
    rw [rep_snoc, show 1 + (t - 1) = t by omega] at h2
    exact Says.append (P := [(x, 0, 0)]) h1 h2
  · rw [if_neg h0]
    exact reps_says hx t t L (Nat.le_refl _) (fun h => absurd h h0)
theorem range_rep (f : Nat → Nat) (k : Nat) : ∀ t, (∀ i, i < t → f (k + i) = f k) → (List.range k).map f ++ List.replicate t (f k) = (List.range (k + t)).map f
  | 0, _ => by simp
  | t + 1, h => by
    rw [List.replicate_succ', ← List.append_assoc, range_rep f k t (fun i hi => h i (by omega)), ← Nat.add_assoc, List.range_succ, List.map_append]
    simp [h t (by omega)]
theorem runs_says {f : Nat → Nat} {N : Nat} (hf : ∀ i, f i ≤ 15) : ∀ (F k : Nat), k ≤ N → N - k ≤ F → Says ((List.range k).map f) (runsL f N F k) ((List.range N).map f)
  | 0, k, hk, h => by
    have : k = N := by omega
    subst this; rfl
  | F + 1, k, hk, h => by
    unfold runsL
    by_cases h1 : k < N
    · rw [if_pos h1]
      obtain ⟨a1, a2, a3⟩ := timesAt_b (f := f) h1
      have h2 := runP_says (hf k) a1 ((List.range k).map f)
      rw [range_rep f k _ a3] at h2
      exact h2.append (runs_says hf F _ a2 (by omega))
    · rw [if_neg h1]
      have : k = N := by omega
      subst this; rfl
end Go.Proofs.YtlbadjfcffoakaaDoor
namespace Go.Proofs.YtlbadjfcffoakaaDoor
open Go.RowKit
set_option linter.unusedVariables false
set_option maxRecDepth 20000

def fstB (first : List Nat) : Nat → List Nat
  | 0 => []
  | n + 1 => fstB first n ++ bitsOf (first.getD (ordL.getD n 0) 0) 3
theorem fstB_length (first : List Nat) : ∀ n, (fstB first n).length = 3 * n
  | 0 => rfl
  | n + 1 => by unfold fstB; rw [List.length_append, fstB_length first n, bitsOf_length]; omega
structure TCok (c d first : List Nat) (nf : Nat) (P : List (Nat × Nat × Nat)) : Prop where
  cl : 257 ≤ c.length ∧ c.length ≤ 286
  dl : 1 ≤ d.length ∧ d.length ≤ 30
  whc : wholeB (intsOf c) = true
  whd : wholeB (intsOf d) = true ∨ sumTo (fun i => d.getD i 0) d.length ≤ 1
  c256 : c.getD 256 0 ≠ 0
  fl : first.length = 19
  f8 : ∀ i, first.getD i 0 < 8
  whf : wholeB (intsOf first) = true
  nf4 : 4 ≤ nf ∧ nf ≤ 19
  fz : ∀ j, nf ≤ j → j < 19 → first.getD (ordL.getD j 0) 0 = 0
  says : Says [] P (c ++ d)
  cod : ∀ q ∈ P, Cod first q.1
theorem fc_read {first : List Nat} {z : ByteArray} {p : Nat} (h8 : ∀ i, first.getD i 0 < 8) : ∀ n, BitsAt z p (fstB first n) → ∀ i, (∀ j, j < n → ordL.getD j 0 ≠ i) → fcOf z p n i = 0
  | 0, _, i, _ => rfl
  | n + 1, hb, i, hi => by
    have hb1 := hb
    unfold fstB at hb1
    unfold fcOf
    rw [if_neg (fun e => hi n (by omega) (by exact e.symm ▸ rfl))]
    exact fc_read h8 n hb1.left i (fun j hj => hi j (by omega))
theorem fc_val {first : List Nat} {z : ByteArray} {p : Nat} (h8 : ∀ i, first.getD i 0 < 8) : ∀ n, BitsAt z p (fstB first n) → ∀ j, j < n → fcOf z p n (ordL.getD j 0) = first.getD (ordL.getD j 0) 0
  | 0, _, j, hj => by omega
  | n + 1, hb, j, hj => by
    have hb1 := hb
    unfold fstB at hb1
    have hr := hb1.right
    rw [fstB_length] at hr
    unfold fcOf
    by_cases e : ordL.getD j 0 = ordL.getD n 0
    · rw [if_pos e, num_at hr (by have := h8 (ordL.getD n 0); omega), e]
    · rw [if_neg e]
      exact fc_val h8 n hb1.left j (by
        rcases Nat.lt_or_ge j n with h | h
        · exact h
        · exact absurd (by rw [show j = n by omega]) e)
theorem ord_all : ∀ i : Fin 19, ∃ j : Fin 19, ordL.getD j.val 0 = i.val := by decide +kernel
theorem ord_inj : ∀ i j : Fin 19, ordL.getD i.val 0 = ordL.getD j.val 0 → i = j := by decide +kernel
theorem fcL_read {first : List Nat} {z : ByteArray} {p nf : Nat} (hl : first.length = 19) (h8 : ∀ i, first.getD i 0 < 8) (hn : nf ≤ 19) (hz : ∀ j, nf ≤ j → j < 19 → first.getD (ordL.getD j 0) 0 = 0) (hb : BitsAt z p (fstB first nf)) : fcL z p nf = first := by
  unfold fcL
  refine List.ext_getElem (by simp [hl]) fun i h1 h2 => ?_
  rw [List.getElem_map, List.getElem_range]
  have hi : i < 19 := by rw [hl] at h2; exact h2
  have e2 : first[i] = first.getD i 0 := by rw [List.getD_eq_getElem?_getD, List.getElem?_eq_getElem h2]; rfl
  rw [e2]
  obtain ⟨j, hj⟩ := ord_all ⟨i, hi⟩
  simp only at hj
  rw [← hj]
  by_cases h : j.val < nf
  · exact fc_val h8 nf hb j.val h
  · rw [hz j.val (by omega) j.isLt]
    refine fc_read h8 nf hb _ (fun k hk e => ?_)
    have := ord_inj ⟨k, by omega⟩ j e
    rw [← this] at h
    exact h hk
def toldB (L c d first : List Nat) (nf : Nat) (P T : List (Nat × Nat × Nat)) (last : Bool) : List Nat :=
  ((((((L ++ headB 2 last) ++ bitsOf (c.length - 257) 5) ++ bitsOf (d.length - 1) 5) ++ bitsOf (nf - 4) 4) ++ fstB first nf) ++ pieBits first P) ++ (tokBits c d T ++ symB c 256)
theorem told_read {c d first : List Nat} {nf : Nat} {P : List (Nat × Nat × Nat)} {z : ByteArray} {p : Nat} (h : TCok c d first nf P) (b1 : BitsAt z p (bitsOf (c.length - 257) 5)) (b2 : BitsAt z (p + 5) (bitsOf (d.length - 1) 5)) (b3 : BitsAt z (p + 10) (bitsOf (nf - 4) 4)) (b4 : BitsAt z (p + 14) (fstB first nf)) (b5 : BitsAt z (p + 14 + 3 * nf) (pieBits first P)) :
    toldF z p = (0, p + 14 + 3 * nf + (pieBits first P).length, c, d) := by
  have hc := h.cl
  have hd := h.dl
  have hn := h.nf4
  have m1 := num_at b1 (by omega)
  have m2 := num_at b2 (by omega)
  have m3 := num_at b3 (by omega)
  have s3 := b3.1
  rw [bitsOf_length] at s3
  have s4 := b4.1
  rw [fstB_length] at s4
  have e4 : 4 + (nf - 4) = nf := by omega
  have hfc := fcL_read h.fl h.f8 hn.2 h.fz b4
  have hw : (List.range 19).map (fun i => (fcOf z (p + 14) nf i : Int)) = intsOf first := by
    rw [← hfc]
    unfold fcL intsOf
    rw [List.map_map]
    rfl
  have hlen : (c ++ d).length = 258 + (c.length - 257) + (d.length - 1) := by rw [List.length_append]; omega
  have hL := lens_read (z := z) (by rw [h.fl]; omega) P [] (c ++ d) (p + 14 + 3 * nf) h.says hlen h.cod b5
  have hT : toldL z p (c.length - 257) (d.length - 1) (nf - 4) = (0, p + 14 + 3 * nf + (pieBits first P).length, c ++ d) := by
    unfold toldL
    rw [e4, hfc]
    exact hL
  unfold toldF
  rw [if_neg (by omega), m1, m2, m3, if_neg (by omega), e4, if_neg (by omega), hw, if_neg (by rw [h.whf]; simp), hT]
  unfold toldE
  have ec : (c ++ d).take (257 + (c.length - 257)) = c := by rw [show 257 + (c.length - 257) = c.length by omega]; exact List.take_left
  have ed : (c ++ d).drop (257 + (c.length - 257)) = d := by rw [show 257 + (c.length - 257) = c.length by omega]; exact List.drop_left
  have e256 : (c ++ d).getD 256 0 = c.getD 256 0 := by rw [List.getD_eq_getElem?_getD, List.getD_eq_getElem?_getD, List.getElem?_append_left (by omega)]
  simp only
  rw [if_neg (by simp), e256, if_neg h.c256, ec, ed, if_neg (by rw [h.whc]; simp), if_neg (by
    rintro ⟨a1, a2⟩
    rcases h.whd with a | a
    · rw [a] at a1; simp at a1
    · rw [show 1 + (d.length - 1) = d.length by omega] at a2
      omega)]
theorem told_blk {L c d first : List Nat} {nf : Nat} {P T : List (Nat × Nat × Nat)} {s : ByteArray} {k k' : Nat} {last : Bool} (h : TCok c d first nf P) (hend : Cod c 256) (ht : Tells s k T k') (hk : k ≤ s.size) (hh : ∀ t ∈ T, Has c d t) : Blk L (toldB L c d first nf P T last) ((bytesL s).take k) ((bytesL s).take k') (lastB last) := by
  refine ⟨⟨(((((headB 2 last ++ bitsOf (c.length - 257) 5) ++ bitsOf (d.length - 1) 5) ++ bitsOf (nf - 4) 4) ++ fstB first nf) ++ pieBits first P) ++ (tokBits c d T ++ symB c 256), by unfold toldB; simp only [List.append_assoc]⟩, fun z most hz hm => ?_⟩
  unfold toldB at hz ⊢
  have g7 := hz.mid
  have g6 := hz.left.mid
  have g5 := hz.left.left.mid
  have g4 := hz.left.left.left.mid
  have g3 := hz.left.left.left.left.mid
  have g2 := hz.left.left.left.left.left.mid
  have g1 := hz.left.left.left.left.left.left.mid
  simp only [List.length_append, headB_length, bitsOf_length, fstB_length] at g2 g3 g4 g5 g6 g7
  obtain ⟨n1, n2, n3⟩ := head_at (by omega) g1
  have hkm : k' ≤ most := by
    have h1 := (ht.le.2 hk)
    rw [List.length_take, bytesL_length] at hm
    omega
  have hr := told_read h g2 (by exact g3) (by rw [show L.length + 3 + 10 = L.length + 3 + 5 + 5 by omega]; exact g4) (by rw [show L.length + 3 + 14 = L.length + 3 + 5 + 5 + 4 by omega]; exact g5) (by rw [show L.length + 3 + 14 + 3 * nf = L.length + 3 + 5 + 5 + 4 + 3 * nf by omega]; exact g6)
  refine ⟨?_, n1⟩
  unfold blockF
  rw [if_neg (by omega), if_neg (by omega), n2, if_neg (by omega), if_neg (by omega), if_pos rfl, hr, if_neg (by simp)]
  simp only
  rw [show L.length + 3 + 14 + 3 * nf + (pieBits first P).length = L.length + 3 + 5 + 5 + 4 + 3 * nf + (pieBits first P).length by omega]
  rw [toks_read (by have := h.cl; omega) (by have := h.dl; omega) hend T k k' _ ht hk hh hkm g7]
  congr 2
  simp only [List.length_append, headB_length, bitsOf_length, fstB_length]
end Go.Proofs.YtlbadjfcffoakaaDoor
namespace Go.Proofs.YtlbadjfcffoakaaDoor
open Go.RowKit
set_option linter.unusedVariables false
set_option maxRecDepth 20000

def lrow (c : Nat → Nat) (m : Nat) : List Nat := (List.range m).map c
theorem lrow_length (c : Nat → Nat) (m : Nat) : (lrow c m).length = m := by simp [lrow]
theorem lrow_get (c : Nat → Nat) {m i : Nat} (h : i < m) : (lrow c m).getD i 0 = c i := by
  rw [getD_in (by rw [lrow_length]; exact h)]
  simp [lrow]
theorem lrow_out (c : Nat → Nat) {m i : Nat} (h : m ≤ i) : (lrow c m).getD i 0 = 0 := by
  rw [List.getD_eq_getElem?_getD, List.getElem?_eq_none (by rw [lrow_length]; exact h)]; rfl
theorem intsOf_lrow (c : Nat → Nat) (m : Nat) : intsOf (lrow c m) = lensOf c m := by
  unfold intsOf lrow lensOf
  rw [List.map_map]; rfl
theorem shr_alike {ns ms : List Nat} : ∀ j, (∀ i, i < j → ns.getD i 0 = ms.getD i 0) → shr ns j = shr ms j
  | 0, _ => rfl
  | j + 1, h => by
    simp only [shr]
    rw [shr_alike j (fun i hi => h i (by omega)), h j (by omega)]
theorem shr_zeros {ns : List Nat} {m : Nat} : ∀ d, (∀ i, m ≤ i → i < m + d → ns.getD i 0 = 0) → shr ns (m + d) = shr ns m
  | 0, _ => rfl
  | d + 1, h => by
    rw [← Nat.add_assoc]
    simp only [shr]
    rw [shr_zeros d (fun i a b => h i a (by omega)), if_pos (h (m + d) (by omega) (by omega)), Nat.add_zero]
theorem ew_lens {c : Nat → Nat} {m N : Nat} (hm : m ≤ N) (h15 : ∀ i, i < N → c i ≤ 15) (hz : ∀ i, m ≤ i → i < N → c i = 0) : ew (nsOf (lensOf c m)) 15 = ew (nsOf (lensOf c N)) 15 := by
  have hle : ∀ k, k ≤ N → ∀ i, (nsOf (lensOf c k)).getD i 0 ≤ 15 := fun k hk i => by
    by_cases hi : i < k
    · rw [nsOf_lens c hi]; exact h15 i (by omega)
    · rw [nsOf_get, lensOf_out c (by omega)]; simp
  rw [← shr_ew _ (hle m hm), ← shr_ew _ (hle N (Nat.le_refl _)), nsOf_length, nsOf_length, lensOf_length, lensOf_length]
  rw [show N = m + (N - m) by omega, shr_zeros (N - m) (fun i a b => by rw [nsOf_lens c (by omega)]; exact hz i a (by omega))]
  refine shr_alike m (fun i hi => ?_)
  rw [nsOf_lens c hi, nsOf_lens c (by omega)]
theorem BestL.trim {fs : List Int} {mo m : Nat} {c : Nat → Nat} {W : List Nat} (h : BestL fs mo c W) (hN : fs.length ≤ 288) (hmo : mo ≤ 15) (h2 : 2 ≤ (comes fs fs.length).length) (hm : m ≤ fs.length) (hz : ∀ i, m ≤ i → i < fs.length → c i = 0) : wholeB (intsOf (lrow c m)) = true := by
  have hw : wholeB (lensOf c fs.length) = true := by rw [wholeB_share, h.whole h2]; rfl
  have h15 : ∀ i, i < fs.length → c i ≤ 15 := fun i hi => Nat.le_trans (h.top i hi) hmo
  unfold wholeB at hw ⊢
  rw [Bool.and_eq_true] at hw
  rw [intsOf_lrow, ew_lens hm h15 hz, may_lens (by omega) (fun i hi => h15 i (by omega)), Bool.true_and]
  exact hw.2
theorem sumTo_none {c : Nat → Nat} : ∀ m, (∀ i, i < m → c i = 0) → sumTo c m = 0
  | 0, _ => rfl
  | m + 1, h => by simp only [sumTo]; rw [sumTo_none m (fun i hi => h i (by omega)), h m (by omega)]
theorem sumTo_alike {c d : Nat → Nat} : ∀ m, (∀ i, i < m → c i = d i) → sumTo c m = sumTo d m
  | 0, _ => rfl
  | m + 1, h => by simp only [sumTo]; rw [sumTo_alike m (fun i hi => h i (by omega)), h m (by omega)]
theorem sumTo_one {c : Nat → Nat} {s : Nat} : ∀ m, (∀ i, i < m → i ≠ s → c i = 0) → c s ≤ 1 → sumTo c m ≤ 1
  | 0, _, _ => by simp [sumTo]
  | m + 1, h, h1 => by
    simp only [sumTo]
    by_cases e : m = s
    · rw [sumTo_none m (fun i hi => h i (by omega) (by omega)), e]; omega
    · have := sumTo_one m (fun i hi => h i (by omega)) h1
      rw [h m (by omega) e]; exact this
end Go.Proofs.YtlbadjfcffoakaaDoor
namespace Go.Proofs.YtlbadjfcffoakaaDoor
open Go.RowKit
set_option linter.unusedVariables false
set_option maxRecDepth 20000

theorem nsOf_lrow (c : Nat → Nat) (m : Nat) : nsOf (lensOf c m) = lrow c m := by
  rw [← intsOf_lrow]; exact nsOf_ints _
theorem BestL.isCode0 {fs : List Int} {mo m : Nat} {c : Nat → Nat} {W : List Nat} (h : BestL fs mo c W) (hN : fs.length ≤ 288) (hmo : mo ≤ 15) (hm : m ≤ fs.length) (hz : ∀ i, m ≤ i → i < fs.length → c i = 0) : Go.Proofs.YtlbadjfcffoakaaDoor.isCode0 (lensOf c m) := by
  have h15 : ∀ i, i < fs.length → c i ≤ 15 := fun i hi => Nat.le_trans (h.top i hi) hmo
  have hc := (isCode_iff _).1 h.code
  exact ⟨may_lens (by omega) (fun i hi => h15 i (by omega)), by rw [ew_lens hm h15 hz]; exact hc.2⟩
theorem BestL.cod {fs : List Int} {mo m : Nat} {c : Nat → Nat} {W : List Nat} (h : BestL fs mo c W) (hN : fs.length ≤ 288) (hmo : mo ≤ 15) (hm : m ≤ fs.length) (hz : ∀ i, m ≤ i → i < fs.length → c i = 0) {i : Nat} (hi : i < fs.length) (hf : 0 < fs.getD i 0) : Cod (lrow c m) i := by
  have hc := (h.has i hi).1 hf
  have him : i < m := by
    rcases Nat.lt_or_ge i m with a | a
    · exact a
    · have := hz i a hi; omega
  obtain ⟨k1, k2⟩ := h.isCode0 hN hmo hm hz
  have hw := cw_fits k1 k2 i (by rw [lensOf_length]; exact him)
  rw [nsOf_lrow] at hw
  refine ⟨by rw [lrow_length]; exact him, ?_, ?_, hw⟩
  · rw [lrow_get c him]; exact hc
  · rw [lrow_get c him]; exact Nat.le_trans (h.top i hi) hmo
theorem costTo_ge {fs xs : List Int} {s : Nat} : ∀ N, s < N → frq fs s * (xs.getD s 0).toNat ≤ costTo fs xs N
  | 0, h => by omega
  | N + 1, h => by
    simp only [costTo]
    by_cases e : s = N
    · subst e; exact Nat.le_add_left _ _
    · exact Nat.le_trans (costTo_ge N (by omega)) (Nat.le_add_right _ _)
theorem BestL.lone {fs : List Int} {mo m : Nat} {c : Nat → Nat} {W : List Nat} (h : BestL fs mo c W) (hm : m ≤ fs.length) (h1 : (comes fs fs.length).length ≤ 1) : sumTo (fun i => (lrow c m).getD i 0) m ≤ 1 := by
  rw [sumTo_alike (d := c) m (fun i hi => lrow_get c hi)]
  have hno : ∀ i, i < fs.length → i ∉ comes fs fs.length → c i = 0 := fun i hi hn => by
    have : ¬ 0 < fs.getD i 0 := fun e => hn (mem_comes.2 ⟨hi, e⟩)
    have := h.has i hi
    omega
  have hwl : W.length = (comes fs fs.length).length := by rw [h.perm.length_eq, List.length_map]
  have hws := h.perm.sum_nat
  have hc1 := h.cost1 (by omega)
  match hl : comes fs fs.length with
  | [] =>
    rw [sumTo_none m (fun i hi => hno i (by omega) (by rw [hl]; simp))]; omega
  | [s] =>
    have hs := mem_comes.1 (show s ∈ comes fs fs.length by rw [hl]; simp)
    refine sumTo_one (s := s) m (fun i hi hne => hno i (by omega) (by rw [hl]; simpa using hne)) ?_
    rw [hl] at hws
    simp only [List.map_cons, List.map_nil, List.sum_cons, List.sum_nil, Nat.add_zero] at hws
    have hg := costTo_ge (fs := fs) (xs := lensOf c fs.length) fs.length hs.1
    rw [lensOf_get c hs.1, hc1, hws, Int.toNat_natCast] at hg
    have hf : 0 < frq fs s := by have := hs.2; unfold frq; omega
    rcases Nat.lt_or_ge 1 (c s) with a | a
    · have : frq fs s * 2 ≤ frq fs s * c s := Nat.mul_le_mul_left _ a
      omega
    · exact a
  | a :: b :: r => rw [hl] at h1; simp at h1
end Go.Proofs.YtlbadjfcffoakaaDoor
