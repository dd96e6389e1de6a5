/- Layer 18: AuditTells walked. -/
import Derived.Test.YtebfpffilepfaaaKt
import Derived.Laws.IdiomStrings
namespace Go.Proofs.Ytebfpffilepfaaa
open Go.RowKit Go.Maps Go.Shelf
set_option linter.unusedVariables false
set_option maxRecDepth 20000

theorem and_mask (x : Int) (k : Nat) (hk : k ≤ 62) (m : Int) (hm : m = ((2 ^ k - 1 : Nat) : Int)) (h16 : (BitVec.ofInt 64 m).toNat = 2 ^ k - 1) (hp : 2 ^ k ≤ 4611686018427387904) (hd : (18446744073709551616 : Int) % ((2 ^ k : Nat) : Int) = 0) : bits .and .i64 x m = x % ((2 ^ k : Nat) : Int) := by
  have key : (BitVec.ofInt 64 x &&& BitVec.ofInt 64 m).toNat = (x % ((2 ^ 64 : Nat) : Int)).toNat % 2 ^ k := by
    rw [BitVec.toNat_and, BitVec.toNat_ofInt, h16, Nat.and_two_pow_sub_one_eq_mod]
  show IntKind.i64.wrap ((BitVec.ofInt 64 x &&& BitVec.ofInt 64 m).toNat : Nat) = _
  rw [key, IntKind.wrap_i64]
  have h0 : 0 ≤ x % ((2 ^ 64 : Nat) : Int) := Int.emod_nonneg _ (by omega)
  have hdv : (x % ((2 ^ 64 : Nat) : Int)) % ((2 ^ k : Nat) : Int) = x % ((2 ^ k : Nat) : Int) := by
    apply Int.emod_emod_of_dvd
    exact Int.dvd_of_emod_eq_zero hd
  obtain ⟨y, hy⟩ := Int.eq_ofNat_of_zero_le h0
  rw [hy] at hdv ⊢
  rw [← hdv]
  have e : ((y : Int).toNat % 2 ^ k : Nat) = y % 2 ^ k := by simp
  have hpos : 0 < 2 ^ k := Nat.pos_of_ne_zero (by simp)
  have hlt : y % 2 ^ k < 2 ^ k := Nat.mod_lt _ hpos
  rw [e]
  have e2 : (y : Int) % ((2 ^ k : Nat) : Int) = ((y % 2 ^ k : Nat) : Int) := by simp
  rw [e2]
  omega
theorem oneByte (c : Nat) (hc : c < 256) (W : World) : (convert 47 9 (.slice (some ⟨W.heap.size, 0, none⟩) 1 1)).run Try.prog (W.alloc (.cells #[.int .u8 (c : Nat)] 5)) = .ok (.string ⟨#[UInt8.ofNat c]⟩) (W.alloc (.cells #[.int .u8 (c : Nat)] 5)) := by
  have hm : c % 256 = c := Nat.mod_eq_of_lt hc
  have h := run_convert_bytes_back (P := Try.prog) (W.alloc (.cells #[.int .u8 (c : Nat)] 5)) 47 9 5 ⟨W.heap.size, 0, none⟩ 1 [UInt8.ofNat c] Try.underlying47 Try.underlying5 Try.underlying9 (fun j hj => by
    have hj0 : j = 0 := by simpa using hj
    subst hj0
    simp [Addr.add, hm])
  exact h
set_option maxHeartbeats 8000000 in
theorem auditTells_walk (many which : Int) (w : World) :
    Calls Try.prog 4 #[.int .i64 many, .int .i64 which] w fun e w' => e = .returned (.bool true) ∧ Below w.heap.size w w' := by
  obtain ⟨x, hx, hx2⟩ : ∃ x : Nat, x ≤ 31 ∧ bits .and .i64 many 31 = ((x : Nat) : Int) := ⟨(many % 32).toNat, by omega, by rw [and_mask many 5 (by omega) 31 rfl (by decide) (by decide) (by decide)]; omega⟩
  obtain ⟨y, hy, hy2⟩ : ∃ y : Nat, y ≤ 31 ∧ bits .and .i64 which 31 = ((y : Nat) : Int) := ⟨(which % 32).toNat, by omega, by rw [and_mask which 5 (by omega) 31 rfl (by decide) (by decide) (by decide)]; omega⟩
  obtain ⟨n, hn⟩ : ∃ n, 3 + x = n := ⟨_, rfl⟩
  obtain ⟨n2, hn2⟩ : ∃ n2, n - 2 = n2 := ⟨_, rfl⟩
  obtain ⟨z, hz⟩ : ∃ z, y % n2 = z := ⟨_, rfl⟩
  obtain ⟨k, hk⟩ : ∃ k, 1 + z = k := ⟨_, rfl⟩
  have hn' : (3 : Int) + (x : Int) = (n : Int) := by omega
  have hn2' : (n : Int) - 2 = (n2 : Int) := by omega
  have hz' : (y : Int) % (n2 : Int) = (z : Int) := by omega
  have hk' : (1 : Int) + (z : Int) = (k : Int) := by omega
  have hkn : z < n2 := by rw [← hz]; exact Nat.mod_lt _ (by omega)
  have hnb : 3 ≤ n ∧ n ≤ 34 ∧ 1 ≤ k ∧ k + 2 ≤ n := by omega
  have hn20 : ((n2 : Int) == 0) = false := by simp; omega
  clear hn hn2 hz hk
  obtain ⟨i0, hi, hz0, hz1, hz3⟩ := info_of recInfo
  have HI : Hid (Try.prog.info? 36 = some i0 ∧ i0.zero = some zRec ∧ i0.size = 4 ∧ i0.bytes = 48) := ⟨hi, hz0, hz1, hz3⟩
  have H3 : Hid (∀ W, Calls Try.prog 8 #[] W fun e w' => e = .returned (.bool true) ∧ Below W.heap.size W w') := awake18
  clear hi hz0 hz1 hz3
  go_enter Try.func4, Try.ntmps4
  go_wp2_with fail
  clear hn' hn2' hz' hk' hn20 hx2 hy2 hx hy hkn
  obtain ⟨hn1, hn2, hk1, hk2⟩ := hnb
  go_loopw [7, 8, 9] (fun v1 v2 i wr => ∃ V1 V2 I, V1 = v1 ∧ V2 = v2 ∧ i = .int .i64 (I : Nat) ∧ I ≤ n ∧ R2 w wr V1 V2 (lN k I) (bodyN I)) (fun _ _ i _ => n - (intOf i).toNat)
  case atStart => exact ⟨_, _, 0, rfl, rfl, rfl, by omega, ⟨World.ownsRow_nil _ _ _ _, World.ownsRow_nil _ _ _ _, fun k hk => by simp [Value.ownBlock] at hk, Below.refl _ _⟩⟩
  case round =>
    obtain ⟨V1, V2, I, rfl, rfl, rfl, hIn, hR⟩ := hrel
    have HR : Hid (R2 w wr V1 V2 (lN k I) (bodyN I)) := hR
    have hwr : w.heap.size ≤ wr.heap.size := hR.bel.size
    clear hR
    by_cases hlt : I < n
    · have hlti : (I : Int) < (n : Int) := by omega
      obtain ⟨c, hc⟩ : ∃ c, 65 + I = c := ⟨_, rfl⟩
      have h65 : (65 : Int) + (I : Int) = (c : Int) := by omega
      have hc1 : c ≤ 98 := by omega
      have hc2 : 65 ≤ c := by omega
      have HC : Hid (65 + I = c) := hc
      clear hc
      have hcv := oneByte c (by omega) wr
      go_upto_region 9 with fail
      clear hcv h65
      have HBA : Hid (Below wr.heap.size wr ((wr.alloc (.cells #[.int .u8 (c : Nat)] 5)).alloc (.cells #[.int .i64 (I : Nat), .string ⟨#[UInt8.ofNat c]⟩, .string ⟨#[]⟩, .bool false] 36)) ∧ ((wr.alloc (.cells #[.int .u8 (c : Nat)] 5)).alloc (.cells #[.int .i64 (I : Nat), .string ⟨#[UInt8.ofNat c]⟩, .string ⟨#[]⟩, .bool false] 36)).heap[wr.heap.size + 1]? = some (.cells #[.int .i64 (I : Nat), .string ⟨#[UInt8.ofNat c]⟩, .string ⟨#[]⟩, .bool false] 36 (0, 0))) := by
        have hz : (wr.alloc (.cells #[.int .u8 (c : Nat)] 5)).heap.size = wr.heap.size + 1 := by simp
        refine ⟨bl_alloc (Nat.le_refl _) (below_a _ _), ?_⟩
        rw [← hz]; exact heap_alloc_new _ _
      generalize ((wr.alloc (.cells #[.int .u8 (c : Nat)] 5)).alloc (.cells #[.int .i64 (I : Nat), .string ⟨#[UInt8.ofNat c]⟩, .string ⟨#[]⟩, .bool false] 36)) = wa at HBA
      obtain ⟨d0, d1, d2, d3⟩ := cells4 HBA.out.2
      have hre : (⟨(I : Nat), ⟨#[UInt8.ofNat c]⟩, ⟨#[]⟩, false⟩ : Rec) = recA I := by
        unfold recA keyA
        rw [HC.out]
      have HRE : Hid ((⟨(I : Nat), ⟨#[UInt8.ofNat c]⟩, ⟨#[]⟩, false⟩ : Rec) = recA I) := hre
      clear hre
      have HOB : Hid (∀ o, (wa.alloc o).ownsRow w.heap.size 36 4 V2 I (rcs (bodyN I)) ∧ w.heap.size ≤ (wa.alloc o).heap.size) := fun o => by
        have h := ((HR.out.below HBA.out.1).below (below_a wa o)).two
        rw [bodyN_length] at h
        exact ⟨h, Nat.le_trans hwr (Nat.le_trans HBA.out.1.size (below_a wa o).size)⟩
      go_upto_region 10 with (at_builtin; refine wpList_append_lies _ rfl _ _ 24 rfl w.heap.size 36 i0 zRec 4 48 Try.underlying24 HI.out.1 HI.out.2.1 HI.out.2.2.1 HI.out.2.2.2 rfl (by decide) V2 I (rcs (bodyN I)) rfl (HOB.out _).1 ⟨wa.heap.size, 0, none⟩ 1 1 (rc4 ⟨I, ⟨#[UInt8.ofNat c]⟩, ⟨#[]⟩, false⟩) rfl rfl (newsP _ _ _) (one4 _) (by decide) (by unfold maxLen; omega) (by omega) (HOB.out _).2 _ rfl ?_; intro g5 cap5 w5 hown hgrow hat hgl; have HN1 : Hid (R2 w w5 V1 (.slice (some ⟨g5, 0, none⟩) (I + 1) cap5) (lN k I) (bodyN (I + 1)) ∧ w5.heap[wr.heap.size + 1]? = some (.cells #[.int .i64 (I : Nat), .string ⟨#[UInt8.ofNat c]⟩, .string ⟨#[]⟩, .bool false] 36 (0, 0))) := ⟨by have := (HR.out.swap.grow (d := ⟨I, ⟨#[UInt8.ofNat c]⟩, ⟨#[]⟩, false⟩) (HBA.out.1.trans ((below_a wa _).mono HBA.out.1.size)) hgrow (by rw [bodyN_length]; exact hown) hat).swap; rw [bodyN_length, HRE.out, ← bodyN_succ] at this; exact this, (hgrow.block _ (Nat.lt_of_lt_of_le (lt_of_block HBA.out.2) (below_a wa _).size) (fun e => by have := (own_block HR.out.two e.symm).2; omega)).trans (((below_a wa _).block _ (lt_of_block HBA.out.2)).trans HBA.out.2)⟩; clear hown hgrow hat hgl)
      clear d0 d1 d2 d3
      obtain ⟨d0, d1, d2, d3⟩ := cells4 HN1.out.2
      by_cases hik : I = k
      · have hkb : ((I : Int) != (k : Int)) = false := by simp [hik]
        have HE : Hid (R2 w w5 V1 (.slice (some ⟨g5, 0, none⟩) (I + 1) cap5) (lN k (I + 1)) (bodyN (I + 1))) := by
          have := HN1.out.1
          subst hik
          show R2 w w5 V1 _ (lN I (I + 1)) _
          rw [lN_same]; exact this
        go_wp2_with fail
        exact ⟨⟨_, _, I + 1, rfl, rfl, by go_num, by omega, HE.out⟩, by simp [intOf]; omega⟩
      · have hkb : ((I : Int) != (k : Int)) = true := by simp; omega
        obtain ⟨m, hm⟩ : ∃ m, (lN k I).length = m := ⟨_, rfl⟩
        have hm2 : m ≤ 34 := by have := lN_length k I; omega
        have HM : Hid ((lN k I).length = m) := hm
        have HOL : Hid (∀ o, (w5.alloc o).ownsRow w.heap.size 36 4 V1 m (rcs (lN k I)) ∧ w.heap.size ≤ (w5.alloc o).heap.size) := fun o => by
          have h := (HN1.out.1.below (below_a w5 o)).one
          rw [hm] at h
          exact ⟨h, Nat.le_trans HN1.out.1.bel.size (below_a w5 o).size⟩
        clear hm
        go_wp2_with (at_builtin; refine wpList_append_lies _ rfl _ _ 24 rfl w.heap.size 36 i0 zRec 4 48 Try.underlying24 HI.out.1 HI.out.2.1 HI.out.2.2.1 HI.out.2.2.2 rfl (by decide) V1 m (rcs (lN k I)) rfl (HOL.out _).1 ⟨w5.heap.size, 0, none⟩ 1 1 (rc4 ⟨I, ⟨#[UInt8.ofNat c]⟩, ⟨#[]⟩, false⟩) rfl rfl (newsP _ _ _) (one4 _) (by decide) (by unfold maxLen; omega) (by omega) (HOL.out _).2 _ rfl ?_; intro g6 cap6 w6 hown hgrow hat hgl; have HN2 : Hid (R2 w w6 (.slice (some ⟨g6, 0, none⟩) (m + 1) cap6) (.slice (some ⟨g5, 0, none⟩) (I + 1) cap5) (lN k (I + 1)) (bodyN (I + 1))) := (by have := HN1.out.1.grow (d := ⟨I, ⟨#[UInt8.ofNat c]⟩, ⟨#[]⟩, false⟩) (below_a w5 _) hgrow (by rw [HM.out]; exact hown) hat; rw [HM.out, HRE.out, ← lN_succ hik] at this; exact this); clear hown hgrow hat hgl)
        exact ⟨⟨_, _, I + 1, rfl, rfl, by go_num, by omega, HN2.out⟩, by simp [intOf]; omega⟩
    · have hIe : n = I := by omega
      subst hIe
      have hnl : ¬ (n : Int) < (n : Int) := by omega
      obtain ⟨m, hm⟩ : ∃ m, (lN k n).length = m := ⟨_, rfl⟩
      have hmn : m + 1 = n := by rw [← hm]; exact lN_len (by omega)
      have hone := HR.out.one
      have htwo := HR.out.two
      rw [hm] at hone
      rw [bodyN_length] at htwo
      obtain ⟨g1, c1, _, hv1, _, _, hc1, _⟩ := hone.2.resolve_left (fun h => by omega)
      obtain ⟨g2, c2, _, hv2, _, _, hc2, _⟩ := htwo.2.resolve_left (fun h => by omega)
      subst hv1
      subst hv2
      have hr1 : RIn wr (some ⟨g1, 0, none⟩) (lN k n) := row_rin (c := c1) (by rw [hm]; exact hone)
      have hr2 : RIn wr (some ⟨g2, 0, none⟩) (bodyN n) := row_rin (c := c2) (by rw [bodyN_length]; exact htwo)
      have HRR : Hid (RIn wr (some ⟨g1, 0, none⟩) (lN k n) ∧ RIn wr (some ⟨g2, 0, none⟩) (bodyN n) ∧ Below w.heap.size w wr) := ⟨hr1, hr2, HR.out.bel⟩
      have HM : Hid ((lN k n).length = m) := hm
      clear hone htwo hr1 hr2 hm
      obtain ⟨wb, hwb⟩ : ∃ wb, (wr.alloc (.cells #[.int .i64 1, .int .i64 0, .int .i64 0, .int .i64 0, .int .i64 0, .int .i64 (n : Nat)] 33)).alloc (.cells #[.int .i64 0, .int .i64 0, .slice (some ⟨g2, 0, none⟩) n c2] 34) = wb := ⟨_, rfl⟩
      have HW : Hid (AIn wb (some ⟨wr.heap.size, 0, none⟩) [akN n] ∧ SInC wb (some ⟨wr.heap.size + 1, 0, none⟩) [⟨0, 0, bodyN n⟩] ∧ RIn wb (some ⟨g1, 0, none⟩) (lN k n) ∧ Below w.heap.size w wb) := by
        have hz : (wr.alloc (.cells #[.int .i64 1, .int .i64 0, .int .i64 0, .int .i64 0, .int .i64 0, .int .i64 (n : Nat)] 33)).heap.size = wr.heap.size + 1 := by simp
        have hb : Below wr.heap.size wr wb := by rw [← hwb]; exact bl_alloc (Nat.le_refl _) (below_a _ _)
        refine ⟨?_, ?_, HRR.out.1.bel hb, HRR.out.2.2.trans (hb.mono hwr)⟩
        · refine ain_one (t := 33) ?_
          rw [← hwb, (below_a _ _).block _ (by simp)]
          exact heap_alloc_new _ _
        · refine sin_one (t := 34) (ra := some ⟨g2, 0, none⟩) (c := c2) ?_ (by rw [bodyN_length]; exact hc2) (HRR.out.2.1.bel hb)
          rw [← hwb, ← hz, bodyN_length]
          exact heap_alloc_new _ _
      have HT : Hid (∀ (W : World) (f : Fe) (ra : Option Addr) (c l : Nat), Below wb.heap.size wb W → RIn W ra f.rec' → (∀ r ∈ f.rec', ∃ j, j < 100 ∧ r = recA j) → f.rec'.length = l → l ≤ 100 → f.err = 0 → (f.step = 1 ∨ f.step = 2) → Calls Try.prog 7 #[.slice (some ⟨wr.heap.size, 0, none⟩) 1 1, .slice (some ⟨W.heap.size, 0, none⟩) 1 1, .slice (some ⟨wr.heap.size + 1, 0, none⟩) 1 1] (W.alloc (.cells #[.int .i64 f.step, .int .i64 f.node, .int .i64 f.from', .int .i64 f.err, .slice ra l c] 40)) fun e w' => KeepsE (duN n) [f] wb e w') := fun W f ra c l hb hr hrs hl hl2 he hst => by
        subst hl
        exact tell_ok n (by omega) hn2 _ _ ra c f wb W HW.out.1 HW.out.2.1 hb hr hrs hl2 he hst
      have HRS : Hid (∀ r ∈ lN k n, ∃ j, j < 100 ∧ r = recA j) := fun r hr => by
        obtain ⟨j, h1, _, h2⟩ := mem_lN hr
        exact ⟨j, by omega, h2⟩
      have hc1' : m ≤ c1 := hc1
      go_upto_region 14 with fail
      try rw [hwb]
      clear hwb hc1 hc2
      have HC1 : Hid (Calls Try.prog 7 #[.slice (some ⟨wr.heap.size, 0, none⟩) 1 1, .slice (some ⟨wb.heap.size, 0, none⟩) 1 1, .slice (some ⟨wr.heap.size + 1, 0, none⟩) 1 1] (wb.alloc (.cells #[.int .i64 2, .int .i64 0, .int .i64 0, .int .i64 0, .slice (some ⟨g1, 0, none⟩) m c1] 40)) fun e w' => e = .returned (.tuple #[.int .i64 120, .int .i64 0]) ∧ Below wb.heap.size wb w') :=
        (HT.out wb ⟨2, 0, 0, 0, lN k n⟩ (some ⟨g1, 0, none⟩) c1 m (Below.refl _ _) HW.out.2.2.1 HRS.out HM.out (by omega) rfl (.inr rfl)).mono fun e w' h => keeps_one h (lk_whole hk1 (by omega) hn2)
      go_wp2_with fail
      refine HC1.out.mono ?_
      rintro e w1 ⟨rfl, hb1⟩
      have HB1 : Hid (Below wb.heap.size wb w1) := hb1
      have HC2 : Hid (Calls Try.prog 7 #[.slice (some ⟨wr.heap.size, 0, none⟩) 1 1, .slice (some ⟨w1.heap.size, 0, none⟩) 1 1, .slice (some ⟨wr.heap.size + 1, 0, none⟩) 1 1] (w1.alloc (.cells #[.int .i64 1, .int .i64 0, .int .i64 0, .int .i64 0, .slice (some ⟨g1, 0, none⟩) m c1] 40)) fun e w' => e = .returned (.tuple #[.int .i64 0, .int .i64 0]) ∧ Below wb.heap.size wb w') :=
        (HT.out w1 ⟨1, 0, 0, 0, lN k n⟩ (some ⟨g1, 0, none⟩) c1 m hb1 (HW.out.2.2.1.bel hb1) HRS.out HM.out (by omega) rfl (.inl rfl)).mono fun e w' h => keeps_none h (Lk_high fun d hd => by obtain ⟨i, _, rfl⟩ := duN_mem hd; show (1 : Int) ≤ 1; omega)
      clear hb1
      go_wp2_with fail
      refine HC2.out.mono ?_
      rintro e w2 ⟨rfl, hb2⟩
      have HB2 : Hid (Below wb.heap.size wb w2) := hb2
      have hk1' : ((k : Nat) : Int) + 1 = ((k : Nat) : Int) + 1 := rfl
      obtain ⟨l, hl⟩ : ∃ l, m - k = l := ⟨_, rfl⟩
      obtain ⟨cl, hcl⟩ : ∃ cl, c1 - k = cl := ⟨_, rfl⟩
      have HC3 : Hid (Calls Try.prog 7 #[.slice (some ⟨wr.heap.size, 0, none⟩) 1 1, .slice (some ⟨w2.heap.size, 0, none⟩) 1 1, .slice (some ⟨wr.heap.size + 1, 0, none⟩) 1 1] (w2.alloc (.cells #[.int .i64 2, .int .i64 0, .int .i64 ((k : Nat) + 1), .int .i64 0, .slice (some ⟨g1, k * 4, none⟩) (m - k) (c1 - k)] 40)) fun e w' => e = .returned (.tuple #[.int .i64 0, .int .i64 0]) ∧ Below wb.heap.size wb w') := by
        have hd : RIn w2 (some ⟨g1, k * 4, none⟩) ((lN k n).drop k) := by
          have := (HW.out.2.2.1.bel hb2).drop k
          simpa using this
        refine (HT.out w2 ⟨2, 0, (k : Nat) + 1, 0, (lN k n).drop k⟩ (some ⟨g1, k * 4, none⟩) (c1 - k) (m - k) hb2 hd (fun r hr => HRS.out r (List.mem_of_mem_drop hr)) (by show ((lN k n).drop k).length = _; rw [List.length_drop, HM.out]) (by omega) rfl (.inr rfl)).mono fun e w' h => keeps_none h (lk_rest (by omega) hn2)
      clear hb2 hk1' hl hcl
      go_wp2_with fail
      refine HC3.out.mono ?_
      rintro e w3 ⟨rfl, hb3⟩
      have HB3 : Hid (Below w.heap.size w w3) := HW.out.2.2.2.trans (hb3.mono HW.out.2.2.2.size)
      clear hb3
      go_wp2_with fail
      refine (H3.out _).mono ?_
      rintro e w4 ⟨rfl, hb4⟩
      have HB4 : Hid (Below w.heap.size w w4) := HB3.out.trans (hb4.mono HB3.out.size)
      clear hb4
      go_wp2_with fail
      go_ret
      exact ⟨rfl, HB4.out⟩
end Go.Proofs.Ytebfpffilepfaaa
