/- Layer 18: AuditMoves walked. -/
import Derived.Test.YtbjlnbcnjknheaaUq
import Derived.Test.YtbjlnbcnjknheaaUy
namespace Go.Proofs.Ytbjlnbcnjknheaa
open Go.RowKit Go.Maps
set_option linter.unusedVariables false
set_option maxRecDepth 20000

theorem and_mask (x : Int) (k : Nat) (hk : k ≤ 62) (m : Int) (hm : m = ((2 ^ k - 1 : Nat) : Int)) (h16 : (BitVec.ofInt 64 m).toNat = 2 ^ k - 1) (hp : 2 ^ k ≤ 4611686018427387904) (hd : (18446744073709551616 : Int) % ((2 ^ k : Nat) : Int) = 0) : bits .and .i64 x m = x % ((2 ^ k : Nat) : Int) := by
  have key : (BitVec.ofInt 64 x &&& BitVec.ofInt 64 m).toNat = (x % ((2 ^ 64 : Nat) : Int)).toNat % 2 ^ k := by
    rw [BitVec.toNat_and, BitVec.toNat_ofInt, h16, Nat.and_two_pow_sub_one_eq_mod]
  show IntKind.i64.wrap ((BitVec.ofInt 64 x &&& BitVec.ofInt 64 m).toNat : Nat) = _
  rw [key, IntKind.wrap_i64]
  have h0 : 0 ≤ x % ((2 ^ 64 : Nat) : Int) := Int.emod_nonneg _ (by omega)
  have hdv : (x % ((2 ^ 64 : Nat) : Int)) % ((2 ^ k : Nat) : Int) = x % ((2 ^ k : Nat) : Int) := by
    apply Int.emod_emod_of_dvd
    exact Int.dvd_of_emod_eq_zero hd
  obtain ⟨y, hy⟩ := Int.eq_ofNat_of_zero_le h0
  rw [hy] at hdv ⊢
  rw [← hdv]
  have e : ((y : Int).toNat % 2 ^ k : Nat) = y % 2 ^ k := by simp
  have hpos : 0 < 2 ^ k := Nat.pos_of_ne_zero (by simp)
  have hlt : y % 2 ^ k < 2 ^ k := Nat.mod_lt _ hpos
  rw [e]
  have e2 : (y : Int) % ((2 ^ k : Nat) : Int) = ((y % 2 ^ k : Nat) : Int) := by simp
  rw [e2]
  omega
theorem ackInfo : (Try.prog.info? 38).map (fun i => (i.zero, i.size, i.bytes)) = some (some (.agg #[.int .i64 0, .int .i64 0, .int .i64 0, .int .i64 0, .int .i64 0, .int .i64 0]), 6, 48) := by kernel_rfl
theorem info_split6 {t : TypeId} {z : Option Value} {n m : Nat} (h : (Try.prog.info? t).map (fun i => (i.zero, i.size, i.bytes)) = some (z, n, m)) : ∃ i, Try.prog.info? t = some i ∧ i.zero = z ∧ i.size = n ∧ i.bytes = m := by
  cases e : Try.prog.info? t with
  | none => rw [e] at h; simp at h
  | some i => rw [e] at h; simp at h; exact ⟨i, rfl, h.1, h.2.1, h.2.2⟩
theorem news6 (W : World) (x : Ak) (t : TypeId) : ∀ j u, x.cs[j]? = some u → (W.alloc (.cells #[.int .i64 x.step, .int .i64 x.prod, .int .i64 x.seq, .int .i64 x.err, .int .i64 x.base, .int .i64 x.cnt] t)).cell? ((⟨W.heap.size, 0, none⟩ : Addr).add j) = some u := by
  intro j u h
  match j, h with
  | 0, h => simp [Ak.cs] at h; subst h; simp [Addr.add]
  | 1, h => simp [Ak.cs] at h; subst h; simp [Addr.add]
  | 2, h => simp [Ak.cs] at h; subst h; simp [Addr.add]
  | 3, h => simp [Ak.cs] at h; subst h; simp [Addr.add]
  | 4, h => simp [Ak.cs] at h; subst h; simp [Addr.add]
  | 5, h => simp [Ak.cs] at h; subst h; simp [Addr.add]
theorem one6 (x : Ak) : ∀ u ∈ x.cs, u.oneCell' = true := by
  intro u hu
  simp only [Ak.cs, List.mem_cons, List.not_mem_nil, or_false] at hu
  rcases hu with rfl | rfl | rfl | rfl | rfl | rfl <;> rfl
theorem owns_bel {w w' : World} {B : Nat} {E : TypeId} {size n : Nat} {v : Value} {xs : List Value} (h : w.ownsRow B E size v n xs) (hb : Below w.heap.size w w') : w'.ownsRow B E size v n xs := by
  refine ⟨h.1, ?_⟩
  rcases h.2 with hn | ⟨g, cap, cur, hv, hg, hh, r⟩
  · exact .inl hn
  · exact .inr ⟨g, cap, cur, hv, hg, (hb.block g (lt_of_block hh)).trans hh, r⟩
theorem bel_grown {w w1 : World} {B : Nat} {E : TypeId} {size n : Nat} {v : Value} {xs : List Value} (h : w.ownsRow B E size v n xs) (hg : w.grownBy w1 v.ownBlock) (hB : B ≤ w.heap.size) : Below B w w1 := by
  refine ⟨hg.os, hg.tape, hg.output, hg.size, fun k hk => hg.block k (Nat.lt_of_lt_of_le hk hB) ?_⟩
  rcases h.2 with ⟨rfl, _⟩ | ⟨g, cap, cur, rfl, h1, _⟩
  · simp [Value.ownBlock]
  · intro e
    have e' : k = g := by simpa [Value.ownBlock] using e
    omega
set_option maxHeartbeats 4000000 in
theorem auditMoves_walk (many which by' : Int) (w : World) :
    Calls Try.prog 5 #[.int .i64 many, .int .i64 which, .int .i64 by'] w fun e w' => e = .returned (.bool true) ∧ Below w.heap.size w w' := by
  obtain ⟨x, hx, hx2⟩ : ∃ x : Nat, x ≤ 15 ∧ bits .and .i64 many 15 = ((x : Nat) : Int) := ⟨(many % 16).toNat, by omega, by rw [and_mask many 4 (by omega) 15 rfl (by decide) (by decide) (by decide)]; omega⟩
  obtain ⟨y, hy, hy2⟩ : ∃ y : Nat, y ≤ 255 ∧ bits .and .i64 which 255 = ((y : Nat) : Int) := ⟨(which % 256).toNat, by omega, by rw [and_mask which 8 (by omega) 255 rfl (by decide) (by decide) (by decide)]; omega⟩
  obtain ⟨z, hz, hz2⟩ : ∃ z : Nat, z ≤ 1 ∧ bits .and .i64 by' 1 = ((z : Nat) : Int) := ⟨(by' % 2).toNat, by omega, by rw [and_mask by' 1 (by omega) 1 rfl (by decide) (by decide) (by decide)]; omega⟩
  obtain ⟨n, hn⟩ : ∃ n, 2 + x = n := ⟨_, rfl⟩
  obtain ⟨k, hk⟩ : ∃ k, y % n = k := ⟨_, rfl⟩
  obtain ⟨d, hd⟩ : ∃ d, 1 + z = d := ⟨_, rfl⟩
  have hn' : (2 : Int) + (x : Int) = (n : Int) := by omega
  have hk' : (y : Int) % (n : Int) = (k : Int) := by omega
  have hd' : (1 : Int) + (z : Int) = (d : Int) := by omega
  have hkn : k < n := by rw [← hk]; exact Nat.mod_lt _ (by omega)
  have hnb : 2 ≤ n ∧ n ≤ 17 := by omega
  have hdb : 1 ≤ d ∧ d ≤ 2 := by omega
  clear hn hk hd
  obtain ⟨hn1, hn2⟩ := hnb
  obtain ⟨i0, hi, hz0, hz1, hz3⟩ := info_split6 ackInfo
  have HI : Hid (Try.prog.info? 38 = some i0 ∧ i0.zero = some (.agg #[.int .i64 0, .int .i64 0, .int .i64 0, .int .i64 0, .int .i64 0, .int .i64 0]) ∧ i0.size = 6 ∧ i0.bytes = 48) := ⟨hi, hz0, hz1, hz3⟩
  have HAC : Hid (∀ (W : World) (g c : Nat) (L : List Ak) (m : Nat), L.length = m → m ≤ 1000 → AC W g L → AOk L → Calls Try.prog 7 #[.slice (some ⟨g, 0, none⟩) m c] W fun e w' => e = .returned (resA (fbad [] L)) ∧ Below W.heap.size W w') := fun W g c L m hm hm2 hac hok => by
    subst hm
    exact acks_ok _ c L W hac.ain hok (by omega)
  have H3 : Hid (∀ W, Calls Try.prog 9 #[] W fun e w' => e = .returned (.bool true) ∧ Below W.heap.size W w') := awake18
  clear hi hz0 hz1 hz3
  go_enter Try.func5, Try.ntmps5
  go_upto_region 4 with fail
  try rw [hk']
  clear hk'
  go_wp2_with fail
  go_loopw [10, 11] (fun v i wr => ∃ V I, V = v ∧ i = .int .i64 (I : Nat) ∧ I ≤ n ∧ wr.ownsRow w.heap.size 38 6 V I (acs (mv I)) ∧ Below w.heap.size w wr) (fun _ i _ => n - (intOf i).toNat)
  case atStart => exact ⟨_, 0, rfl, rfl, by omega, World.ownsRow_nil _ _ _ _, Below.refl _ _⟩
  case round =>
    obtain ⟨V, I, rfl, rfl, hIn, hO, hB⟩ := hrel
    have HB : Hid (Below w.heap.size w wr) := hB
    have HO : Hid (wr.ownsRow w.heap.size 38 6 V I (acs (mv I))) := hO
    have hwr : w.heap.size ≤ wr.heap.size := hB.size
    clear hO hB
    by_cases hlt : I < n
    · have hlti : (I : Int) < (n : Int) := by omega
      have HOW : Hid (∀ o, (wr.alloc o).ownsRow w.heap.size 38 6 V I (acs (mv I)) ∧ w.heap.size ≤ (wr.alloc o).heap.size) := fun o => ⟨owns_bel HO.out (below_a _ _), by simp; omega⟩
      go_wp2_with (at_builtin; refine wpList_append_lies _ rfl _ _ 22 rfl w.heap.size 38 i0 (.agg #[.int .i64 0, .int .i64 0, .int .i64 0, .int .i64 0, .int .i64 0, .int .i64 0]) 6 48 Try.underlying22 HI.out.1 HI.out.2.1 HI.out.2.2.1 HI.out.2.2.2 rfl (by decide) V I (acs (mv I)) rfl (HOW.out _).1 ⟨wr.heap.size, 0, none⟩ 1 1 (mvA I).cs rfl rfl ?c1 ?c2 (by decide) ?c3 ?c4 (HOW.out _).2 _ rfl ?_)
      case c1 => exact news6 wr (mvA I) _
      case c2 => exact one6 _
      case c3 => unfold maxLen; omega
      case c4 => omega
      intro g cap w1 hown hgrow hat hgl
      have HE : Hid (w1.ownsRow w.heap.size 38 6 (.slice (some ⟨g, 0, none⟩) (I + 1) cap) (I + 1) (acs (mv (I + 1))) ∧ Below w.heap.size w w1) := by
        rw [mv_succ, acs_snoc]
        exact ⟨hown, HB.out.trans (((below_a wr _).mono hwr).trans (bel_grown (HOW.out _).1 hgrow (HOW.out _).2))⟩
      clear hown hgrow hat hgl
      go_wp2_with fail
      exact ⟨⟨_, I + 1, rfl, by go_num, by omega, HE.out.1, HE.out.2⟩, by simp [intOf]; omega⟩
    · have hIe : n = I := by omega
      subst hIe
      have hnl : ¬ (n : Int) < (n : Int) := by omega
      obtain ⟨g, cap, cur, hv, hg, hbk, hcap, hcm, _⟩ := HO.out.2.resolve_left (fun h => by omega)
      subst hv
      have hAC := AC.of_owns HO.out
      have HC : Hid (AC wr g (mv n)) := hAC
      clear hbk hAC
      have hcapn : n ≤ cap := hcap
      have HOK : Hid (∀ q : Ak, isInt q.prod → isInt q.seq → AOk (mv n ++ [q])) := fun q h1 h2 a ha => by
        rw [List.mem_append, List.mem_singleton] at ha
        rcases ha with ha | rfl
        · obtain ⟨i, hi, rfl⟩ := mv_mem ha
          exact ⟨show isInt 0 from ⟨by omega, by omega⟩, show isInt ((i : Nat) : Int) from ⟨by omega, by omega⟩⟩
        · exact ⟨h1, h2⟩
      have HCA : Hid (Calls Try.prog 7 #[.slice (some ⟨g, 0, none⟩) n cap] wr fun e w' => e = .returned (.tuple #[.int .i64 0, .int .i64 0]) ∧ Below wr.heap.size wr w') := by
        have := HAC.out wr g cap (mv n) n (mv_length n) (by omega) HC.out (fun a ha => by
          obtain ⟨i, hi, rfl⟩ := mv_mem ha
          exact ⟨show isInt 0 from ⟨by omega, by omega⟩, show isInt ((i : Nat) : Int) from ⟨by omega, by omega⟩⟩)
        rw [mv_ok n (by omega)] at this
        exact this
      go_wp2_with fail
      refine HCA.out.mono ?_
      rintro e w1 ⟨rfl, hb1⟩
      have HB1 : Hid (Below w.heap.size w w1 ∧ AC w1 g (mv n)) := ⟨HB.out.trans (hb1.mono hwr), HC.out.below hb1⟩
      clear hb1
      have HCC : Hid (∀ o b, some (⟨g, 0, none⟩ : Addr) = some b → ∀ j u, (acs (mv n))[j]? = some u → (w1.alloc o).cell? (b.add j) = some u) := fun o b hb j u hu => by
        cases hb
        have hj : j < n * 6 := by have := (List.getElem?_eq_some_iff.1 hu).1; rw [acs_length, mv_length] at this; exact this
        have hx : (mv n)[j / 6]? = some (mvA (j / 6)) := by simp [mv, show j / 6 < n by omega]
        have h6 : 6 * (j / 6) + j % 6 = j := by omega
        have hg := acs_get (mv n) (j / 6) _ hx (j % 6) (by omega)
        rw [show j / 6 * 6 + j % 6 = j by omega, hu] at hg
        rw [adz]
        have := (HB1.out.2.below (below_a w1 o)).2.1 (j / 6) _ hx (j % 6) u (by omega) hg.symm
        rw [show j / 6 * 6 + j % 6 = j by omega] at this
        exact this
      go_wp2_with (at_builtin; refine wpList_append_grows _ rfl _ _ 22 rfl 38 i0 (.agg #[.int .i64 0, .int .i64 0, .int .i64 0, .int .i64 0, .int .i64 0, .int .i64 0]) 6 48 Try.underlying22 HI.out.1 HI.out.2.1 HI.out.2.2.1 HI.out.2.2.2 rfl (by decide) (some ⟨g, 0, none⟩) n n (acs (mv n)) rfl ?k0 ?k1 (HCC.out _) ⟨w1.heap.size, 0, none⟩ 1 1 (Ak.cs ⟨0, 0, (k : Nat), 0, 3 * (k : Nat) + (d : Nat), 3⟩) rfl rfl ?k2 ?k3 ?k4 ?k5 ?k6 ?_)
      case k0 => intro h; cases h
      case k1 => rw [acs_length, mv_length]
      case k2 => exact news6 w1 ⟨0, 0, (k : Nat), 0, 3 * (k : Nat) + (d : Nat), 3⟩ _
      case k3 => exact one6 _
      case k4 => omega
      case k5 => unfold maxLen; omega
      case k6 => omega
      intro v2 w2 hown hgrow
      obtain ⟨g2, cap2, cur2, hv2, hg2, hbk2, hcap2, _⟩ := hown.2.resolve_left (fun h => by omega)
      subst hv2
      have h1 : Below w.heap.size w (w1.alloc (.cells #[.int .i64 0, .int .i64 0, .int .i64 (k : Nat), .int .i64 0, .int .i64 (3 * (k : Nat) + (d : Nat)), .int .i64 3] 38)) := bl_alloc (Nat.le_refl _) HB1.out.1
      have hbl2 : Below w.heap.size w w2 := ⟨hgrow.os.trans h1.os, hgrow.tape.trans h1.tape, hgrow.output.trans h1.output, Nat.le_trans h1.size hgrow.size, fun q hq => (hgrow.block q (Nat.lt_of_lt_of_le hq h1.size) (by simp)).trans (h1.block q hq)⟩
      have hg2w : w.heap.size ≤ g2 := by have := HB1.out.1.size; omega
      clear h1
      have HB2 : Hid (Below w.heap.size w w2 ∧ AC w2 g2 (mv n ++ [⟨0, 0, (k : Nat), 0, 3 * (k : Nat) + (d : Nat), 3⟩]) ∧ w.heap.size ≤ g2) := by
        refine ⟨hbl2, ?_, hg2w⟩
        rw [← acs_snoc] at hown
        exact AC.of_owns hown
      clear hown hgrow hbk2 hbl2 hg2 hg2w
      have HC2 : Hid (Calls Try.prog 7 #[.slice (some ⟨g2, 0, none⟩) (n + 1) cap2] w2 fun e w' => e = .returned (.tuple #[.int .i64 110, .int .i64 (n : Nat)]) ∧ Below w2.heap.size w2 w') := by
        have := HAC.out w2 g2 cap2 _ (n + 1) (by rw [List.length_append, mv_length]; rfl) (by omega) HB2.out.2.1 (HOK.out _ (show isInt 0 from ⟨by omega, by omega⟩) (show isInt ((k : Nat) : Int) from ⟨by omega, by omega⟩))
        rw [mv_moved (by omega) hkn hdb.1 hdb.2] at this
        exact this
      go_wp2_with fail
      refine HC2.out.mono ?_
      rintro e w3 ⟨rfl, hb3⟩
      have HB3 : Hid (Below w.heap.size w w3 ∧ AC w3 g2 (mv n ++ [⟨0, 0, (k : Nat), 0, 3 * (k : Nat) + (d : Nat), 3⟩])) := ⟨HB2.out.1.trans (hb3.mono HB2.out.1.size), HB2.out.2.1.below hb3⟩
      clear hb3
      have hcell : w3.cell? ⟨g2, n * 6 + 4, none⟩ = some (.int .i64 (3 * (k : Nat) + (d : Nat))) := by
        have := HB3.out.2.al.last 4 _ rfl
        rw [mv_length] at this
        exact this
      have hfz := HB3.out.2.2.2 (n * 6 + 4)
      have hnc2 : n < cap2 := by omega
      have HB4 : Hid (Below w.heap.size w (w3.setCell ⟨g2, n * 6 + 4, none⟩ (.int .i64 (3 * (k : Nat)))) ∧ AC (w3.setCell ⟨g2, n * 6 + 4, none⟩ (.int .i64 (3 * (k : Nat)))) g2 (mv n ++ [⟨0, 0, (k : Nat), 0, 3 * (k : Nat), 3⟩])) := by
        refine ⟨bl_set HB2.out.2.2 HB3.out.1, AL.ac ?_⟩
        have := HB3.out.2.al.set 4 (by omega) (.int .i64 (3 * (k : Nat)))
        rw [mv_length] at this
        exact this
      go_upto_region 13 with fail
      generalize (w3.setCell ⟨g2, n * 6 + 4, none⟩ (.int .i64 (3 * (k : Nat)))) = w4 at HB4
      clear hcell hfz
      have HC4 : Hid (Calls Try.prog 7 #[.slice (some ⟨g2, 0, none⟩) (n + 1) cap2] w4 fun e w' => e = .returned (.tuple #[.int .i64 0, .int .i64 0]) ∧ Below w4.heap.size w4 w') := by
        have := HAC.out w4 g2 cap2 _ (n + 1) (by rw [List.length_append, mv_length]; rfl) (by omega) HB4.out.2 (HOK.out _ (show isInt 0 from ⟨by omega, by omega⟩) (show isInt ((k : Nat) : Int) from ⟨by omega, by omega⟩))
        rw [mv_again (by omega) hkn] at this
        exact this
      go_wp2_with fail
      refine HC4.out.mono ?_
      rintro e w5 ⟨rfl, hb5⟩
      have HB5 : Hid (Below w.heap.size w w5 ∧ AC w5 g2 (mv n ++ [⟨0, 0, (k : Nat), 0, 3 * (k : Nat), 3⟩])) := ⟨HB4.out.1.trans (hb5.mono HB4.out.1.size), HB4.out.2.below hb5⟩
      clear hb5
      have hl := HB5.out.2.al.last
      rw [mv_length] at hl
      have q0 := hl 0 _ rfl
      have q1 := hl 1 _ rfl
      have q2 := hl 2 _ rfl
      have q3 := hl 3 _ rfl
      have q4 := hl 4 _ rfl
      have q5 := hl 5 _ rfl
      clear hl
      rw [Nat.add_zero] at q0
      have hfz := HB5.out.2.2.2
      have HB6 : Hid (Below w.heap.size w ((((((w5.setCell ⟨g2, n * 6, none⟩ (.int .i64 0)).setCell ⟨g2, n * 6 + 1, none⟩ (.int .i64 0)).setCell ⟨g2, n * 6 + 2, none⟩ (.int .i64 (n : Nat))).setCell ⟨g2, n * 6 + 3, none⟩ (.int .i64 0)).setCell ⟨g2, n * 6 + 4, none⟩ (.int .i64 (3 * (k : Nat) + (d : Nat)))).setCell ⟨g2, n * 6 + 5, none⟩ (.int .i64 1)) ∧ AC ((((((w5.setCell ⟨g2, n * 6, none⟩ (.int .i64 0)).setCell ⟨g2, n * 6 + 1, none⟩ (.int .i64 0)).setCell ⟨g2, n * 6 + 2, none⟩ (.int .i64 (n : Nat))).setCell ⟨g2, n * 6 + 3, none⟩ (.int .i64 0)).setCell ⟨g2, n * 6 + 4, none⟩ (.int .i64 (3 * (k : Nat) + (d : Nat)))).setCell ⟨g2, n * 6 + 5, none⟩ (.int .i64 1)) g2 (mv n ++ [⟨0, 0, (n : Nat), 0, 3 * (k : Nat) + (d : Nat), 1⟩])) := by
        have hw := HB2.out.2.2
        refine ⟨bl_set hw (bl_set hw (bl_set hw (bl_set hw (bl_set hw (bl_set hw HB5.out.1))))), AL.ac ?_⟩
        have := (((((HB5.out.2.al.set 0 (by omega) (.int .i64 0)).set 1 (by omega) (.int .i64 0)).set 2 (by omega) (.int .i64 (n : Nat))).set 3 (by omega) (.int .i64 0)).set 4 (by omega) (.int .i64 (3 * (k : Nat) + (d : Nat)))).set 5 (by omega) (.int .i64 1)
        rw [mv_length, Nat.add_zero] at this
        exact this
      go_upto_region 15 with fail
      clear q0 q1 q2 q3 q4 q5 hfz
      generalize ((((((w5.setCell ⟨g2, n * 6, none⟩ (.int .i64 0)).setCell ⟨g2, n * 6 + 1, none⟩ (.int .i64 0)).setCell ⟨g2, n * 6 + 2, none⟩ (.int .i64 (n : Nat))).setCell ⟨g2, n * 6 + 3, none⟩ (.int .i64 0)).setCell ⟨g2, n * 6 + 4, none⟩ (.int .i64 (3 * (k : Nat) + (d : Nat)))).setCell ⟨g2, n * 6 + 5, none⟩ (.int .i64 1)) = w6 at HB6
      have HC6 : Hid (Calls Try.prog 7 #[.slice (some ⟨g2, 0, none⟩) (n + 1) cap2] w6 fun e w' => e = .returned (.tuple #[.int .i64 110, .int .i64 (n : Nat)]) ∧ Below w6.heap.size w6 w') := by
        have := HAC.out w6 g2 cap2 _ (n + 1) (by rw [List.length_append, mv_length]; rfl) (by omega) HB6.out.2 (HOK.out _ (show isInt 0 from ⟨by omega, by omega⟩) (show isInt ((n : Nat) : Int) from ⟨by omega, by omega⟩))
        rw [mv_other (by omega) hkn hdb.2] at this
        exact this
      go_wp2_with fail
      refine HC6.out.mono ?_
      rintro e w7 ⟨rfl, hb7⟩
      have HB7 : Hid (Below w.heap.size w w7) := HB6.out.1.trans (hb7.mono HB6.out.1.size)
      clear hb7
      go_wp2_with fail
      refine (H3.out _).mono ?_
      rintro e w8 ⟨rfl, hb8⟩
      have HB8 : Hid (Below w.heap.size w w8) := HB7.out.trans (hb8.mono HB7.out.size)
      clear hb8
      go_wp2_with fail
      go_ret
      exact ⟨rfl, HB8.out⟩
end Go.Proofs.Ytbjlnbcnjknheaa
