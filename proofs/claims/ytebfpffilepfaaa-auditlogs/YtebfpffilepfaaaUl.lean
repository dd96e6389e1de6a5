/- Layer 18: goesWith walked. -/
import Derived.Test.YtebfpffilepfaaaUk
namespace Go.Proofs.Ytebfpffilepfaaa
open Go.RowKit Go.Maps
set_option linter.unusedVariables false
set_option maxRecDepth 20000

def eqRB (a b : Rec) : Bool := (a.off == b.off) && ((a.key.toList == b.key.toList) && ((a.val.toList == b.val.toList) && (a.gone == b.gone)))
theorem toList_inj {a b : ByteArray} (h : a.toList = b.toList) : a = b := by
  rw [ByteArray.toList_eq, ByteArray.toList_eq] at h
  exact ba_ext h
theorem eqRB_iff (a b : Rec) : eqRB a b = true ↔ a = b := by
  unfold eqRB
  simp only [Bool.and_eq_true, beq_iff_eq]
  constructor
  · rintro ⟨h1, h2, h3, h4⟩
    obtain ⟨a1, a2, a3, a4⟩ := a
    obtain ⟨b1, b2, b3, b4⟩ := b
    simp only at h1 h2 h3 h4
    rw [h1, toList_inj h2, toList_inj h3, h4]
  · rintro rfl
    exact ⟨rfl, rfl, rfl, rfl⟩
theorem eql_rec (a b : Rec) (w : World) : (Op.equalIn 10000 36 a.v b.v).run Try.prog w = .ok (eqRB a b) w := by
  obtain ⟨a, k, v, g⟩ := a
  obtain ⟨a', k', v', g'⟩ := b
  rw [run_equalIn_struct w 9999 _ _ _ (by kernel_rfl) (by kernel_rfl)]
  simp only [Program.fieldsOf, Try.underlying36]
  simp [Op.eqFields, go_sem]
  unfold eqRB
  by_cases h1 : a = a'
  · by_cases h2 : k.toList = k'.toList
    · by_cases h3 : v.toList = v'.toList
      · by_cases h4 : g = g'
        · simp [h1, h2, h3, h4]
        · simp [h1, h2, h3, h4]
      · simp [h1, h2, h3]
    · simp [h1, h2]
  · simp [h1]
theorem run_neqR (a k v g a' k' v' g') (b : Bool) (w : World) (h : eqRB ⟨a, k, v, g⟩ ⟨a', k', v', g'⟩ = b) : (binOp .neq 36 (.agg #[.int .i64 a, .string k, .string v, .bool g]) (.agg #[.int .i64 a', .string k', .string v', .bool g'])).run Try.prog w = .ok (.bool (!b)) w := by
  rw [run_neq_struct, ← h]
  have := eql_rec ⟨a, k, v, g⟩ ⟨a', k', v', g'⟩ w
  simp only [Rec.v] at this
  rw [this]
  rfl
set_option maxHeartbeats 2000000 in
theorem goesWith_ok (mb n : Nat) (N : List Rec) (ra : Option Addr) (rc : Nat) (M : List Rec) (B : Nat) (w : World) (hB : B ≤ mb) (hA : AtS w mb n N) (hin : RIn w ra M) (hrb : ∀ b off, ra = some ⟨b, off, none⟩ → 0 < M.length → b ≠ mb) (hok : ROk M) (hlen : M.length ≤ 9223372036854775807) (hn : n + M.length ≤ 9223372036854775806) (hup : Up M) (hu : Uni N) :
    Calls Try.prog 13 #[.map (some mb), .slice ra M.length rc] w fun e w' => ∃ b : Bool, e = .returned (.bool b) ∧ (b = true ↔ Fits N M) ∧ (b = true → AtS w' mb (n + M.length) (N ++ M)) ∧ OnlyB mb w w' := by
  have HIN : Hid (RIn w ra M) := hin
  have HA : Hid (AtS w mb n N) := hA
  have HOK : Hid (ROk M) := hok
  have HUP : Hid (Up M) := hup
  have HU : Hid (Uni N) := hu
  have HRB : Hid (∀ b off, ra = some ⟨b, off, none⟩ → 0 < M.length → b ≠ mb) := hrb
  have HN : Hid (n + M.length ≤ 9223372036854775806) := hn
  obtain ⟨ml, hl⟩ : ∃ ml, M.length = ml := ⟨_, rfl⟩
  have HML : Hid (M.length = ml) := hl
  rw [hl] at hlen ⊢
  clear hin hl hA hok hup hu hrb hB hn
  go_enter Try.func13, Try.ntmps13
  go_wp2
  go_loopw [11] (fun i wr => ∃ P R, M = P ++ R ∧ i = .int .i64 (P.length : Nat) ∧ Fits N P ∧ AtS wr mb (n + P.length) (N ++ P) ∧ OnlyB mb w wr) (fun i _ => ml - (intOf i).toNat)
  case atStart => exact ⟨[], M, rfl, rfl, fun r h => by simp at h, by simpa using HA.out, OnlyB.refl _ _⟩
  case round =>
    obtain ⟨P, R, hPR, rfl, hf, hAt, hO⟩ := hrel
    have HO : Hid (OnlyB mb w wr) := hO
    have HF : Hid (Fits N P) := hf
    have HAT : Hid (AtS wr mb (n + P.length) (N ++ P)) := hAt
    have hwr : w.heap.size ≤ wr.heap.size := hO.size
    clear hO hf hAt
    cases R with
    | nil =>
      have hPM : P = M := by rw [hPR, List.append_nil]
      subst hPM
      have hPL : P.length = ml := HML.out
      clear hPR
      go_wp2_with fail
      go_ret
      exact ⟨true, rfl, ⟨fun _ => HF.out, fun _ => rfl⟩, fun _ => by have := HAT.out; rw [hPL] at this; exact this, HO.out⟩
    | cons x R =>
      have hlt : P.length < ml := by have := HML.out; rw [hPR] at this; simp at this; omega
      have hx : M[P.length]? = some x := by rw [hPR]; simp
      obtain ⟨yb, yo, rfl, hyb, c0, c1, c2, c3⟩ := HIN.out _ _ hx
      have hblk : wr.heap[yb]? = w.heap[yb]? := HO.out.block yb hyb (HRB.out yb yo rfl (by have := HML.out; omega))
      obtain ⟨c0, c1, c2, c3⟩ : wr.cell? ⟨yb, yo + P.length * 4, none⟩ = some (.int .i64 x.off) ∧ wr.cell? ⟨yb, yo + P.length * 4 + 1, none⟩ = some (.string x.key) ∧ wr.cell? ⟨yb, yo + P.length * 4 + 2, none⟩ = some (.string x.val) ∧ wr.cell? ⟨yb, yo + P.length * 4 + 3, none⟩ = some (.bool x.gone) := by
        simp only [World.cell?, hblk] at c0 c1 c2 c3 ⊢
        exact ⟨c0, c1, c2, c3⟩
      have HPR : Hid (M = P ++ x :: R) := hPR
      have HXO : Hid x.ok := HOK.out x (by rw [hPR]; simp)
      have hnb : n + P.length < 9223372036854775807 := by have := HN.out; rw [HML.out] at this; omega
      clear hPR hx hblk
      obtain ⟨o, k, v, g⟩ := x
      simp only at c0 c1 c2 c3
      obtain ⟨U, hU⟩ : ∃ U, wr.heap.size = U := ⟨_, rfl⟩
      have HB4 : Hid (Below wr.heap.size wr (wr.alloc (.cells #[.int .i64 o, .string k, .string v, .bool g] 36)) ∧ (wr.alloc (.cells #[.int .i64 o, .string k, .string v, .bool g] 36)).heap[U]? = some (.cells #[.int .i64 o, .string k, .string v, .bool g] 36 (0, 0))) := ⟨below_a _ _, by rw [← hU]; exact heap_alloc_new _ _⟩
      go_upto_region 4 with fail
      clear hU
      generalize (wr.alloc (.cells #[.int .i64 o, .string k, .string v, .bool g] 36)) = w4 at HB4
      clear c0 c1 c2 c3
      obtain ⟨d0, d1, d2, d3⟩ := cells4 HB4.out.2
      have hl := (HAT.out.below HB4.out.1).look o HXO.out.1
      obtain ⟨U7, hU7⟩ : ∃ U7, w4.heap.size = U7 := ⟨_, rfl⟩
      cases hq : atOff (N ++ P) o with
      | none =>
        have HQ : Hid (atOff (N ++ P) o = none) := hq
        rw [hq] at hl
        simp only [Option.getD_none, Option.isSome_none, Rec.v, rec0] at hl
        clear hq
        have HB7 : Hid (Below wr.heap.size wr (w4.alloc (.cells #[.int .i64 0, .string ⟨#[]⟩, .string ⟨#[]⟩, .bool false] 36)) ∧ (w4.alloc (.cells #[.int .i64 0, .string ⟨#[]⟩, .string ⟨#[]⟩, .bool false] 36)).heap[U]? = some (.cells #[.int .i64 o, .string k, .string v, .bool g] 36 (0, 0))) :=
          ⟨HB4.out.1.trans ((below_a _ _).mono HB4.out.1.size), ((below_a w4 _).block U (lt_of_block HB4.out.2)).trans HB4.out.2⟩
        go_upto_region 5 with fail
        generalize (w4.alloc (.cells #[.int .i64 0, .string ⟨#[]⟩, .string ⟨#[]⟩, .bool false] 36)) = w7 at HB7
        clear d0 d1 d2 d3 hU7
        obtain ⟨d0, d1, d2, d3⟩ := cells4 HB7.out.2
        obtain ⟨w', hup, hA', hg'⟩ := (HAT.out.below HB7.out.1).put (x := ⟨o, k, v, g⟩) HXO.out.1 hnb
        have HE : Hid (AtS w' mb (n + P.length + 1) ((N ++ P) ++ [⟨o, k, v, g⟩]) ∧ OnlyB mb w w' ∧ Fits N (P ++ [⟨o, k, v, g⟩])) := by
          refine ⟨hA', HO.out.trans ((OnlyB.of_below HB7.out.1).trans (OnlyB.grown hg')), fun r hr q hq e => ?_⟩
          rw [List.mem_append, List.mem_singleton] at hr
          rcases hr with hr | rfl
          · exact HF.out r hr q hq e
          · exact absurd e (atOff_none HQ.out q (by simp [hq]))
        simp only [Rec.v] at hup
        clear hA' hg'
        go_wp2_with fail
        exact ⟨⟨P ++ [⟨o, k, v, g⟩], R, by rw [HPR.out, List.append_assoc]; rfl, by simp, HE.out.2.2, by have := HE.out.1; rw [List.append_assoc] at this; simpa [Nat.add_assoc] using this, HE.out.2.1⟩, by simp [intOf]; omega⟩
      | some q =>
        have hqs := atOff_some hq
        have hqN : q ∈ N := by
          rcases List.mem_append.1 hqs.1 with h | h
          · exact h
          · have hup2 := HUP.out
            rw [HPR.out] at hup2
            have := (List.pairwise_append.1 hup2).2.2 q h ⟨o, k, v, g⟩ (by simp)
            simp only at this
            have := hqs.2
            omega
        have HQ : Hid (q ∈ N ∧ q.off = o) := ⟨hqN, hqs.2⟩
        rw [hq] at hl
        obtain ⟨o', k', v', g'⟩ := q
        simp only [Option.getD_some, Option.isSome_some, Rec.v] at hl
        clear hq hqs hqN
        have HB7 : Hid (Below wr.heap.size wr (w4.alloc (.cells #[.int .i64 o', .string k', .string v', .bool g'] 36)) ∧ (w4.alloc (.cells #[.int .i64 o', .string k', .string v', .bool g'] 36)).heap[U]? = some (.cells #[.int .i64 o, .string k, .string v, .bool g] 36 (0, 0)) ∧ (w4.alloc (.cells #[.int .i64 o', .string k', .string v', .bool g'] 36)).heap[U7]? = some (.cells #[.int .i64 o', .string k', .string v', .bool g'] 36 (0, 0))) := by
          refine ⟨HB4.out.1.trans ((below_a _ _).mono HB4.out.1.size), ((below_a w4 _).block U (lt_of_block HB4.out.2)).trans HB4.out.2, ?_⟩
          rw [← hU7]; exact heap_alloc_new _ _
        go_upto_region 5 with fail
        generalize (w4.alloc (.cells #[.int .i64 o', .string k', .string v', .bool g'] 36)) = w7 at HB7
        clear d0 d1 d2 d3 hU7 hl
        obtain ⟨d0, d1, d2, d3⟩ := cells4 HB7.out.2.1
        obtain ⟨z0, z1, z2, z3⟩ := cells4 HB7.out.2.2
        by_cases he : (⟨o', k', v', g'⟩ : Rec) = ⟨o, k, v, g⟩
        · have hne := run_neqR o' k' v' g' o k v g true w7 ((eqRB_iff _ _).2 he)
          simp only [Rec.mk.injEq] at he
          obtain ⟨rfl, rfl, rfl, rfl⟩ := he
          obtain ⟨w', hup, hA', hg'⟩ := (HAT.out.below HB7.out.1).put (x := ⟨o', k', v', g'⟩) HXO.out.1 hnb
          have HE : Hid (AtS w' mb (n + P.length + 1) ((N ++ P) ++ [⟨o', k', v', g'⟩]) ∧ OnlyB mb w w' ∧ Fits N (P ++ [⟨o', k', v', g'⟩])) := by
            refine ⟨hA', HO.out.trans ((OnlyB.of_below HB7.out.1).trans (OnlyB.grown hg')), fun r hr q hq e => ?_⟩
            rw [List.mem_append, List.mem_singleton] at hr
            rcases hr with hr | rfl
            · exact HF.out r hr q hq e
            · exact HU.out q hq _ HQ.out.1 e
          simp only [Rec.v] at hup
          simp only [Bool.not_true] at hne
          clear hA' hg'
          go_wp2_with fail
          exact ⟨⟨P ++ [⟨o', k', v', g'⟩], R, by rw [HPR.out, List.append_assoc]; rfl, by simp, HE.out.2.2, by have := HE.out.1; rw [List.append_assoc] at this; simpa [Nat.add_assoc] using this, HE.out.2.1⟩, by simp [intOf]; omega⟩
        · have HD : Hid (o' = o → k'.toList = k.toList → v'.toList = v.toList → g' = g → False) := fun h1 h2 h3 h4 => he (by rw [h1, toList_inj h2, toList_inj h3, h4])
          have HE : Hid (¬ Fits N M) := fun h => he (h ⟨o, k, v, g⟩ (by rw [HPR.out]; simp) _ HQ.out.1 HQ.out.2)
          have HO7 : Hid (OnlyB mb w w7) := HO.out.trans (OnlyB.of_below HB7.out.1)
          clear he
          go_wp2_with fail
          all_goals first
            | exact (HD.out ‹_› ‹_› ‹_› ‹_›).elim
            | (go_ret
               exact .inl ⟨rfl, HE.out, HO7.out⟩)
end Go.Proofs.Ytebfpffilepfaaa
