/- Layer 6: Pack. -/
import Derived.Test.YtbncfpbehahidaaYu
namespace Go.Proofs.Ytbncfpbehahidaa
open Go.RowKit Go.Maps
set_option linter.unusedVariables false
set_option maxRecDepth 20000

theorem BW.keep {w w' : World} {B b : Nat} {l : List Nat} {v : Value} (h : BW w B b l v) (hk : ∀ k, B ≤ k → k < w.heap.size → w'.heap[k]? = w.heap[k]?) : BW w' B b l v := by
  refine ⟨(hk b h.hB (lt_of_block h.blk)).trans h.blk, ⟨h.own.1, ?_⟩, h.hB⟩
  rcases h.own.2 with e | ⟨g, cap, cur, e1, e2, e3, e4⟩
  · exact .inl e
  · exact .inr ⟨g, cap, cur, e1, e2, (hk g e2 (lt_of_block e3)).trans e3, e4⟩
/-- A packer's state: the finder met k places, the block's bytes are l. -/
structure PK (w0 w : World) (h : Nat) (s : ByteArray) (k : Nat) (l : List Nat) (v : Value) : Prop where
  fs : FS w (h + 2) h (h + 1) s k
  bw : BW w (h + 3) (h + 3) l v
  bel : Below h w0 w
theorem PK.quiet {w0 w w' : World} {h : Nat} {s : ByteArray} {k : Nat} {l : List Nat} {v : Value} (p : PK w0 w h s k l v) (hb : Below w.heap.size w w') : PK w0 w' h s k l v :=
  ⟨p.fs.below hb, p.bw.keep (fun i _ hi => hb.block i hi), p.bel.trans (hb.mono (Nat.le_of_lt (by have := p.fs.lt.2.1; exact this)))⟩
theorem PK.met {w0 w w' : World} {h : Nat} {s : ByteArray} {k : Nat} {l : List Nat} {v : Value} (p : PK w0 w h s k l v) (hf : FS w' (h + 2) h (h + 1) s (k + 1)) (ht : TF h (h + 1) w w') : PK w0 w' h s (k + 1) l v :=
  ⟨hf, p.bw.keep (fun i h1 hi => ht.block i hi (by omega) (by omega)), p.bel.trans ⟨ht.os, ht.tape, ht.output, ht.size, fun i hi => ht.block i (by have := p.fs.lt.2.1; omega) (by omega) (by omega)⟩⟩
theorem PK.wrote {w0 w w' : World} {h : Nat} {s : ByteArray} {k : Nat} {l l' : List Nat} {v v' : Value} (p : PK w0 w h s k l v) (hb : BW w' (h + 3) (h + 3) l' v') (hf : Below (h + 3) w w') : PK w0 w' h s k l' v' :=
  ⟨p.fs.kept (hf.block _ (by omega)) (hf.block _ (by omega)) (hf.block _ (by omega)), hb, p.bel.trans (hf.mono (by omega))⟩
theorem pk_start (w : World) (s : ByteArray) (hs : s.size ≤ 1048576) : PK w ((((w.alloc (.map #[] 0)).alloc (.cells (madeCells #[.int .i32 0] s.size) 21)).alloc (.cells #[.string s, .map (some w.heap.size), .slice (some ⟨w.heap.size + 1, 0, none⟩) s.size s.size] 70)).alloc (.cells #[.slice none 0 0] 72)) w.heap.size s 0 [] (.slice none 0 0) := by
  obtain ⟨w1, e1⟩ : ∃ w1, w.alloc (.map #[] 0) = w1 := ⟨_, rfl⟩
  have s1 : w1.heap.size = w.heap.size + 1 := by rw [← e1]; simp
  have m1 : w1.ownsMap Try.prog 88 (plainElem Try.prog 21) w.heap.size 0 (.map [] : DataW Unit) := by rw [← e1]; exact World.ownsMap_made w _ _ _
  have b1 : Below w.heap.size w w1 := by rw [← e1]; exact (Below.refl _ _).alloc (Nat.le_refl _) _
  rw [e1]
  obtain ⟨w2, e2⟩ : ∃ w2, w1.alloc (.cells (madeCells #[.int .i32 0] s.size) 21) = w2 := ⟨_, rfl⟩
  have s2 : w2.heap.size = w.heap.size + 2 := by rw [← e2]; simp [s1]
  have o2 : w2.heap[w.heap.size + 1]? = some (.cells (madeCells #[.int .i32 0] s.size) 21 (0, 0)) := by rw [← e2, ← s1]; exact heap_alloc_new _ _
  have m2 : w2.ownsMap Try.prog 88 (plainElem Try.prog 21) w.heap.size 0 (.map [] : DataW Unit) := by rw [← e2]; exact m1.alloc _
  have b2 : Below w.heap.size w w2 := by rw [← e2]; exact b1.alloc (by omega) _
  rw [e2]
  obtain ⟨w3, e3⟩ : ∃ w3, w2.alloc (.cells #[.string s, .map (some w.heap.size), .slice (some ⟨w.heap.size + 1, 0, none⟩) s.size s.size] 70) = w3 := ⟨_, rfl⟩
  have s3 : w3.heap.size = w.heap.size + 3 := by rw [← e3]; simp [s2]
  have f3 : w3.heap[w.heap.size + 2]? = some (.cells #[.string s, .map (some w.heap.size), .slice (some ⟨w.heap.size + 1, 0, none⟩) s.size s.size] 70 (0, 0)) := by rw [← e3, ← s2]; exact heap_alloc_new _ _
  have o3 : w3.heap[w.heap.size + 1]? = some (.cells (madeCells #[.int .i32 0] s.size) 21 (0, 0)) := by rw [← e3, heap_alloc_old _ _ (by omega)]; exact o2
  have m3 : w3.ownsMap Try.prog 88 (plainElem Try.prog 21) w.heap.size 0 (.map [] : DataW Unit) := by rw [← e3]; exact m2.alloc _
  have b3 : Below w.heap.size w w3 := by rw [← e3]; exact b2.alloc (by omega) _
  rw [e3]
  refine ⟨⟨?_, ⟨_, m3.alloc _, mapOK_nil s, isMap_empty⟩, ⟨madeCells #[.int .i32 0] s.size, ?_, ?_, fun i hi => by omega⟩, hs⟩, ⟨?_, World.ownsRow_nil _ _ _ _, Nat.le_refl _⟩, b3.alloc (by omega) _⟩
  · rw [heap_alloc_old _ _ (by omega)]; exact f3
  · rw [heap_alloc_old _ _ (by omega)]; exact o3
  · simp [madeCells]
  · rw [← s3]; exact heap_alloc_new _ _
theorem headL_bytes {p : List Nat} {c : Nat} (h : Bytes p) : Bytes (headL p c) := by
  unfold headL
  refine Bytes.append (Bytes.append (fun x hx => ?_) (moreL_bytes _)) h
  rw [List.mem_singleton.1 hx]; omega
theorem copyS_bytes {p : List Nat} {d n : Nat} (h : Bytes p) (hd : d ≤ 65535) : Bytes (copyS p d n) := by
  unfold copyS
  refine Bytes.append (Bytes.append (headL_bytes h) (fun x hx => ?_)) (moreL_bytes _)
  simp at hx; omega
theorem packF_bytes (s : ByteArray) : ∀ (f k told : Nat) (l : List Nat), Bytes l → True → Bytes (packF s f k told l)
  | 0, k, told, l, h, _ => h.append (headL_bytes (bytesOf_bytes _))
  | f + 1, k, told, l, h, _ => by
    unfold packF
    split
    · exact h.append (headL_bytes (bytesOf_bytes _))
    · rename_i hk
      split
      · exact packF_bytes s f _ _ _ h trivial
      · rename_i hn
        have hok := (copyAt_spec (s := s) (k := k) (by omega)).resolve_left hn
        exact packF_bytes s f _ _ _ (h.append (copyS_bytes (bytesOf_bytes _) hok.2.2.2.2.1)) trivial
theorem pack_long (s : ByteArray) (w : World) (h : 1048576 < s.size) : Calls Try.prog 45 #[.string s] w fun e w' => e = .returned (.tuple #[.string ⟨#[]⟩, .int .i64 4]) ∧ Below w.heap.size w w' := by
  have hi : (1048576 : Int) < (s.size : Int) := by omega
  go_enter Try.func45, Try.ntmps45
  go_wp2
  go_ret2
  exact ⟨rfl, Below.refl _ _⟩
set_option maxRecDepth 20000 in
set_option maxHeartbeats 4000000 in
theorem pack_ok (s : ByteArray) (w : World) (hs : s.size ≤ 1048576) : Calls Try.prog 45 #[.string s] w fun e w' => e = .returned (.tuple #[.string (toBA (packF s s.size 0 0 [])), .int .i64 0]) ∧ Below w.heap.size w w' := by
  obtain ⟨r, hr⟩ : ∃ r, packF s s.size 0 0 [] = r := ⟨_, rfl⟩
  rw [hr]
  have HR : Hid (packF s s.size 0 0 [] = r) := hr
  have HRB : Hid (Bytes r) := by show Bytes _; rw [← hr]; exact packF_bytes s _ _ _ _ (fun x hx => by simp at hx) trivial
  have hmm := @run_makeMap Try.prog
  have hmk : ∀ W : World, (Instr.makeSlice 68 (.int .i64 (s.size : Int)) (.int .i64 (s.size : Int))).run Try.prog W = .ok (.slice (some ⟨W.heap.size, 0, none⟩) s.size s.size) (W.alloc (.cells (madeCells #[.int .i32 0] s.size) 21)) := fun W => run_make_row' (P := Try.prog) 68 21 (.int .i32 0) 4 Try.underlying68 info32 rfl .i64 .i64 s.size (by omega) (by omega) W
  have hi : ¬ (1048576 : Int) < (s.size : Int) := by omega
  clear hr
  go_enter Try.func45, Try.ntmps45
  go_wp2_with fail
  obtain ⟨W4, hW4⟩ : ∃ W4, ((((w.alloc (.map #[] 0)).alloc (.cells (madeCells #[.int .i32 0] s.size) 21)).alloc (.cells #[.string s, .map (some w.heap.size), .slice (some ⟨w.heap.size + 1, 0, none⟩) s.size s.size] 70)).alloc (.cells #[.slice none 0 0] 72)) = W4 := ⟨_, rfl⟩
  have H0 : Hid (PK w W4 w.heap.size s 0 [] (.slice none 0 0)) := by
    rw [← hW4]; exact pk_start w s hs
  rw [hW4]
  clear hW4 hmm hmk hi
  obtain ⟨h, hh⟩ : ∃ h, w.heap.size = h := ⟨_, rfl⟩
  rw [hh] at H0 ⊢
  obtain ⟨f, hf⟩ : ∃ f, h + 1 + 1 = f := ⟨_, rfl⟩
  obtain ⟨b, hb⟩ : ∃ b, f + 1 = b := ⟨_, rfl⟩
  rw [hf, hb]
  have HC : Hid (∀ W k l v, PK w W h s k l v → k + 12 ≤ s.size → Calls Try.prog 54 #[.pointer (some ⟨f, 0, none⟩), .int .i64 (k : Nat)] W fun e w' => e = .returned (.tuple #[.int .i64 ((copyAt s k).1 : Nat), .int .i64 ((copyAt s k).2 : Nat)]) ∧ PK w w' h s k l v) := fun W k l v hp hk => by
    rw [← hf]
    exact (copyAt_ok W (h + 2) h (h + 1) s k hp.fs hk).mono fun e w' hh => ⟨hh.1, hp.quiet hh.2⟩
  have HM : Hid (∀ W k l v, PK w W h s k l v → k + 4 ≤ s.size → Calls Try.prog 55 #[.pointer (some ⟨f, 0, none⟩), .int .i64 (k : Nat)] W fun e w' => e = .returned (.tuple #[]) ∧ PK w w' h s (k + 1) l v) := fun W k l v hp hk => by
    rw [← hf]
    exact (meet_ok W (h + 2) h (h + 1) s k hp.fs hk).mono fun e w' hh => ⟨hh.1, hp.met hh.2.1 hh.2.2⟩
  have HPC : Hid (∀ W k l v (T : ByteArray) (d n : Nat), PK w W h s k l v → T.size ≤ 1048576 → d ≤ 65535 → 4 ≤ n → n ≤ 1048576 → l.length ≤ 4194304 → Calls Try.prog 56 #[.pointer (some ⟨b, 0, none⟩), .string T, .int .i64 (d : Nat), .int .i64 (n : Nat)] W fun e w' => e = .returned (.tuple #[]) ∧ ∃ v', PK w w' h s k (l ++ copyS (bytesOf T) d n) v') := fun W k l v T d n hp h1 h2 h3 h4 h5 => by
    rw [← hb, ← hf]
    exact (putCopy_ok W (h + 3) (h + 3) l v hp.bw T d n h1 h2 h3 h4 h5).mono fun e w' hh => by
      obtain ⟨g1, ⟨v', g2⟩, g3⟩ := hh
      exact ⟨g1, v', hp.wrote g2 g3⟩
  have HPP : Hid (∀ W k l v (T : ByteArray), PK w W h s k l v → T.size ≤ 1048576 → l.length ≤ 4194304 → Calls Try.prog 57 #[.pointer (some ⟨b, 0, none⟩), .string T, .int .i64 0] W fun e w' => e = .returned (.tuple #[]) ∧ ∃ v', PK w w' h s k (l ++ headL (bytesOf T) 0) v') := fun W k l v T hp h1 h2 => by
    rw [← hb, ← hf]
    exact (putPlain_ok W (h + 3) (h + 3) l v hp.bw T 0 h1 (by omega) (by omega)).mono fun e w' hh => by
      obtain ⟨g1, ⟨v', g2⟩, g3⟩ := hh
      exact ⟨g1, v', hp.wrote g2 g3⟩
  have HBC : Hid (∀ W k l v, PK w W h s k l v → W.cell? ⟨b, 0, none⟩ = some v ∧ W.ownsRow (h + 3) 5 1 v l.length (bcells l)) := fun W k l v hp => by
    rw [← hb, ← hf]
    exact ⟨hp.bw.cells.1, hp.bw.own⟩
  clear hf hb
  go_loopw [6, 7] (fun v6 v7 wr => ∃ told k : Nat, v6 = .int .i64 (told : Nat) ∧ v7 = .int .i64 (k : Nat) ∧ told ≤ k ∧ k ≤ s.size ∧ Hid (∃ l v F, PK w wr h s k l v ∧ packF s F k told l = r ∧ s.size - k ≤ F ∧ l.length ≤ told + told / 255)) (fun _ v7 _ => s.size - (intOf v7).toNat)
  case atStart => exact ⟨0, 0, rfl, rfl, Nat.le_refl _, Nat.zero_le _, [], _, s.size, H0.out, HR.out, by omega, by simp⟩
  case round =>
    obtain ⟨told, k, rfl, rfl, htk, hks, HS⟩ := hrel
    obtain ⟨l, v, F, hP, hF, hFs, hl⟩ := HS.out
    by_cases h12 : k + 12 ≤ s.size
    · have h12i : (k : Int) + 12 ≤ (s.size : Int) := by omega
      obtain ⟨F, rfl⟩ : ∃ F', F = F' + 1 := ⟨F - 1, by omega⟩
      unfold packF at hF
      rw [if_neg (by omega)] at hF
      have hok := copyAt_spec h12
      have HCC : Hid (∀ _ : Unit, Calls Try.prog 54 #[.pointer (some ⟨f, 0, none⟩), .int .i64 (k : Nat)] wr fun e w' => e = .returned (.tuple #[.int .i64 ((copyAt s k).1 : Nat), .int .i64 ((copyAt s k).2 : Nat)]) ∧ PK w w' h s k l v) := fun _ => HC.out wr k l v hP h12
      obtain ⟨c, hc⟩ : ∃ c, copyAt s k = c := ⟨_, rfl⟩
      rw [hc] at hF hok HCC
      obtain ⟨n, d⟩ := c
      simp only at hF hok HCC
      have HF : Hid (_ = r) := hF
      clear hF hc hP
      go_wp2_with fail
      refine (HCC.out ()).mono ?_
      rintro e w1 ⟨rfl, hP1⟩
      have HP1 : Hid (PK w w1 h s k l v) := hP1
      clear hP1 HCC
      by_cases n0 : n = 0
      · have hF := HF.out
        rw [if_pos n0] at hF
        have n0b : ((n : Int) == 0) = true := by simp [n0]
        have HMM : Hid (∀ _ : Unit, Calls Try.prog 55 #[.pointer (some ⟨f, 0, none⟩), .int .i64 (k : Nat)] w1 fun e w' => e = .returned (.tuple #[]) ∧ PK w w' h s (k + 1) l v) := fun _ => HM.out w1 k l v HP1.out (by omega)
        have HF2 : Hid (packF s F (k + 1) told l = r) := hF
        clear hF HF n0 hok
        go_wp2_with fail
        refine (HMM.out ()).mono ?_
        rintro e w2 ⟨rfl, hP2⟩
        have HN : Hid (∃ l v F, PK w w2 h s (k + 1) l v ∧ packF s F (k + 1) told l = r ∧ s.size - (k + 1) ≤ F ∧ l.length ≤ told + told / 255) := ⟨l, v, F, hP2, HF2.out, by omega, hl⟩
        clear hP2
        go_wp2
        exact ⟨⟨told, k + 1, rfl, by go_num, by omega, by omega, HN⟩, by simp [intOf]; omega⟩
      · have hF := HF.out
        rw [if_neg n0] at hF
        have n0b : ((n : Int) == 0) = false := by simp; omega
        obtain ⟨q1, q2, q3, q4, q5, q6⟩ := hok.resolve_left n0
        clear q6
        obtain ⟨T, hT⟩ : ∃ T, s.extract told k = T := ⟨_, rfl⟩
        have hTs : T.size = k - told := by rw [← hT, ByteArray.size_extract]; omega
        have hTb : bytesOf T = sub s told k := by rw [← hT]; rfl
        have hl4 : l.length ≤ 4194304 := by omega
        have HPQ : Hid (∀ _ : Unit, Calls Try.prog 56 #[.pointer (some ⟨b, 0, none⟩), .string T, .int .i64 (d : Nat), .int .i64 (n : Nat)] w1 fun e w' => e = .returned (.tuple #[]) ∧ ∃ v', PK w w' h s k (l ++ copyS (sub s told k) d n) v') := fun _ => by
          have h1 := HPC.out w1 k l v T d n HP1.out (by omega) q5 q1 (by omega) hl4
          rw [hTb] at h1
          exact h1
        have hcost := copyS_cost (sub s told k) d n q1
        rw [sub_length s told k hks] at hcost
        obtain ⟨E, hE⟩ : ∃ E, k + n = E := ⟨_, rfl⟩
        rw [hE] at hF
        obtain ⟨l2, hl2⟩ : ∃ l2, l ++ copyS (sub s told k) d n = l2 := ⟨_, rfl⟩
        rw [hl2] at hF HPQ
        have HF2 : Hid (packF s F E E l2 = r ∧ l2.length ≤ E + E / 255) := ⟨hF, by rw [← hl2, List.length_append]; omega⟩
        have hEi : (k : Int) + (n : Int) = (E : Int) := by omega
        have hEw := wrapN E (by omega)
        have htki : (told : Int) ≤ (k : Int) := by omega
        have hksi : (k : Int) ≤ (s.size : Int) := by omega
        clear hF HF hTs hTb hcost hl2 hok q3 q4 q5 n0
        go_wp2_with fail
        refine (HPQ.out ()).mono ?_
        rintro e w2 ⟨rfl, v2, hP2⟩
        have HP2 : Hid (PK w w2 h s k l2 v2) := hP2
        clear hP2 HPQ
        go_wp2_with fail
        clear hEi hEw htki hksi h12i n0b
        go_loopw [7] (fun v7 wr => ∃ j : Nat, v7 = .int .i64 (j : Nat) ∧ k ≤ j ∧ j ≤ E ∧ Hid (PK w wr h s j l2 v2)) (fun v7 _ => E - (intOf v7).toNat)
        case atStart => exact ⟨k, rfl, Nat.le_refl _, by omega, HP2.out⟩
        case round =>
          obtain ⟨j, rfl, hkj, hjE, HJ⟩ := hrel
          by_cases hlt : j < E
          · have hlti : (j : Int) < (E : Int) := by omega
            have HMM : Hid (∀ _ : Unit, Calls Try.prog 55 #[.pointer (some ⟨f, 0, none⟩), .int .i64 (j : Nat)] wr fun e w' => e = .returned (.tuple #[]) ∧ PK w w' h s (j + 1) l2 v2) := fun _ => HM.out wr j l2 v2 HJ.out (by omega)
            go_wp2_with fail
            refine (HMM.out ()).mono ?_
            rintro e w3 ⟨rfl, hP3⟩
            have HP3 : Hid (PK w w3 h s (j + 1) l2 v2) := hP3
            clear hP3 HMM
            go_wp2
            exact ⟨⟨j + 1, by go_num, by omega, by omega, HP3⟩, by simp [intOf]; omega⟩
          · obtain rfl : j = E := by omega
            have HN : Hid (∃ l v F, PK w wr h s j l v ∧ packF s F j j l = r ∧ s.size - j ≤ F ∧ l.length ≤ j + j / 255) := ⟨l2, v2, F, HJ.out, HF2.out.1, by omega, HF2.out.2⟩
            have hlti : ¬ (j : Int) < (j : Int) := by omega
            go_wp2
            exact ⟨⟨j, j, rfl, rfl, Nat.le_refl _, by omega, HN⟩, by simp [intOf]; omega⟩
    · have h12i : ¬ (k : Int) + 12 ≤ (s.size : Int) := by omega
      rw [packF_end s F k told l (by omega)] at hF
      obtain ⟨T, hT⟩ : ∃ T, s.extract told s.size = T := ⟨_, rfl⟩
      have hTs : T.size = s.size - told := by rw [← hT, ByteArray.size_extract]; omega
      have hTb : bytesOf T = sub s told s.size := by rw [← hT]; rfl
      have HPQ : Hid (∀ _ : Unit, Calls Try.prog 57 #[.pointer (some ⟨b, 0, none⟩), .string T, .int .i64 0] wr fun e w' => e = .returned (.tuple #[]) ∧ ∃ v', PK w w' h s k r v') := fun _ => by
        have h1 := HPP.out wr k l v T hP (by omega) (by omega)
        rw [hTb, hF] at h1
        exact h1
      have htki : (told : Int) ≤ (s.size : Int) := by omega
      clear hF hTs hTb hP
      go_wp2_with fail
      refine (HPQ.out ()).mono ?_
      rintro e w2 ⟨rfl, v2, hP2⟩
      obtain ⟨c0, ho⟩ := HBC.out w2 k r v2 hP2
      have hconv : (convert 30 9 v2).run Try.prog w2 = .ok (.string (toBA r)) w2 := conv_row w2 _ _ 5 (h + 3) v2 r Try.underlying30 Try.underlying5 Try.underlying9 ho HRB.out
      obtain ⟨Z, hZ⟩ : ∃ Z, toBA r = Z := ⟨_, rfl⟩
      rw [hZ] at hconv
      have HZ : Hid (toBA r = Z) := hZ
      have HBL : Hid (Below h w w2) := hP2.bel
      clear ho hP2 HPQ hZ
      go_wp2
      go_ret2
      rw [HZ.out]
      exact ⟨rfl, by rw [hh]; exact HBL.out⟩
end Go.Proofs.Ytbncfpbehahidaa
