/- Layer 7: blocks. -/
/- Layer 7: readBlocks. -/
/- Layer 7: Unpack. -/
import Derived.Test.YtbncfpbehahidaaGj3b
namespace Go.Proofs.Ytbncfpbehahidaa
open Go.RowKit
set_option linter.unusedVariables false
set_option maxRecDepth 20000

/-- What a piece keeps. -/
def Keeps (g : FD → Nat × FD) : Prop := ∀ d, (g d).2.s = d.s ∧ (g d).2.most = d.most ∧ d.pos ≤ (g d).2.pos
theorem keeps_held : Keeps gHeld := fun d => by unfold gHeld; split <;> simp
theorem keeps_sum (t : ByteArray) : Keeps (gSum t) := fun d => by unfold gSum; split <;> (try split) <;> simp
theorem keeps_heldSum : Keeps gHeldSum := fun d => by
  unfold gHeldSum; split
  · exact keeps_sum _ d
  · simp
theorem keeps_unp : Keeps gUnp := fun d => by unfold gUnp; split <;> (try split) <;> (try split) <;> simp
theorem keeps_most : Keeps gMost := fun d => by unfold gMost; split <;> simp
theorem keeps_bn : Keeps gBn := fun d => by unfold gBn; split <;> (try split) <;> simp
theorem keeps_turn : ∀ (ps : List Piece), (∀ p ∈ ps, Keeps p.2.2) → Keeps (turnF ps)
  | [], _ => fun d => by simp [turnF]
  | p :: ps, h => fun d => by
    unfold turnF
    have h1 := h p (List.mem_cons_self ..) d
    split
    · have h2 := keeps_turn ps (fun q hq => h q (List.mem_cons_of_mem _ hq)) (p.2.2 d).2
      exact ⟨h2.1.trans h1.1, h2.2.1.trans h1.2.1, Nat.le_trans h1.2.2 h2.2.2⟩
    · exact h1
def five : List Piece := [(35, fun _ => True, gHeld), (36, fun _ => True, gHeldSum), (37, fun d => d.plain.length ≤ 1048576, gUnp), (38, fun _ => True, gMost), (39, fun _ => True, gBn)]
theorem five_ok : ∀ p ∈ five, POK p.1 p.2.1 p.2.2 ∧ PF p.1 := by
  intro p hp
  simp only [five, List.mem_cons, List.not_mem_nil, or_false] at hp
  rcases hp with rfl | rfl | rfl | rfl | rfl
  · exact ⟨held_ok, by simp [PF]⟩
  · exact ⟨heldSum_ok, by simp [PF]⟩
  · exact ⟨unp_ok, by simp [PF]⟩
  · exact ⟨most_ok, by simp [PF]⟩
  · exact ⟨bn_ok, by simp [PF]⟩
theorem five_keeps : Keeps (turnF five) := keeps_turn _ (by
  intro p hp
  simp only [five, List.mem_cons, List.not_mem_nil, or_false] at hp
  rcases hp with rfl | rfl | rfl | rfl | rfl
  · exact keeps_held
  · exact keeps_heldSum
  · exact keeps_unp
  · exact keeps_most
  · exact keeps_bn)
theorem held_plain (d : FD) : (gHeld d).2.plain = d.plain := by unfold gHeld; split <;> simp
theorem sum_plain (t : ByteArray) (d : FD) : (gSum t d).2.plain = d.plain := by unfold gSum; split <;> (try split) <;> simp
theorem heldSum_plain (d : FD) : (gHeldSum d).2.plain = d.plain := by
  unfold gHeldSum; split
  · exact sum_plain _ d
  · rfl
theorem bn_plain (d : FD) : (gBn d).2.plain = d.plain := by unfold gBn; split <;> (try split) <;> simp
theorem bn_pos (d : FD) (h : (gBn d).1 = 0) : d.pos + 4 = (gBn d).2.pos := by
  unfold gBn at h ⊢
  split
  · rename_i h1; rw [if_pos h1] at h; simp at h
  · split <;> simp
theorem five_goes (d : FD) (h : d.plain.length ≤ 1048576) : goes five d := by
  refine ⟨trivial, fun _ => ⟨trivial, fun _ => ⟨?_, fun _ => ⟨trivial, fun _ => ⟨trivial, fun _ => trivial⟩⟩⟩⟩⟩
  show (gHeldSum (gHeld d).2).2.plain.length ≤ 1048576
  rw [heldSum_plain, held_plain]; exact h
theorem five_end (d : FD) (h : (turnF five d).1 = 0) : d.pos < (turnF five d).2.pos ∧ (turnF five d).2.plain.length ≤ d.most := by
  unfold five turnF at h ⊢
  have k1 := keeps_held d
  simp only at h ⊢ k1
  by_cases e1 : (gHeld d).1 = 0
  · rw [if_pos e1] at h ⊢
    obtain ⟨d1, hd1⟩ : ∃ x, (gHeld d).2 = x := ⟨_, rfl⟩
    rw [hd1] at h ⊢ k1
    unfold turnF at h ⊢
    have k2 := keeps_heldSum d1
    simp only at h ⊢ k2
    by_cases e2 : (gHeldSum d1).1 = 0
    · rw [if_pos e2] at h ⊢
      obtain ⟨d2, hd2⟩ : ∃ x, (gHeldSum d1).2 = x := ⟨_, rfl⟩
      rw [hd2] at h ⊢ k2
      unfold turnF at h ⊢
      have k3 := keeps_unp d2
      simp only at h ⊢ k3
      by_cases e3 : (gUnp d2).1 = 0
      · rw [if_pos e3] at h ⊢
        obtain ⟨d3, hd3⟩ : ∃ x, (gUnp d2).2 = x := ⟨_, rfl⟩
        rw [hd3] at h ⊢ k3
        unfold turnF at h ⊢
        simp only at h ⊢
        by_cases e4 : (gMost d3).1 = 0
        · rw [if_pos e4] at h ⊢
          have k4 : (gMost d3).2 = d3 ∧ d3.plain.length ≤ d3.most := by
            unfold gMost at e4 ⊢
            split
            · rename_i hh; rw [if_pos hh] at e4; simp at e4
            · exact ⟨rfl, by omega⟩
          rw [k4.1] at h ⊢
          unfold turnF at h ⊢
          simp only at h ⊢
          by_cases e5 : (gBn d3).1 = 0
          · rw [if_pos e5] at h ⊢
            unfold turnF at h ⊢
            simp only
            have k5 := bn_pos d3 e5
            have k6 := bn_plain d3
            rw [k6]
            exact ⟨by omega, by have := k4.2; omega⟩
          · rw [if_neg e5] at h; exact (e5 h).elim
        · rw [if_neg e4] at h; exact (e4 h).elim
      · rw [if_neg e3] at h; exact (e3 h).elim
    · rw [if_neg e2] at h; exact (e2 h).elim
  · rw [if_neg e1] at h; exact (e1 h).elim
/-- Blocks, one behind the other. -/
def blkF : Nat → Nat × FD → Nat × FD
  | 0, q => q
  | k + 1, q => if q.1 = 0 ∧ q.2.block ≠ 0 then blkF k (turnF five q.2) else q
def gBlocks (d : FD) : Nat × FD := blkF (d.s.size + 1) (gBn d)
theorem FU.posOf {w : World} {B u : Nat} {d : FD} {v : Value} (h : FU w B u d v) : atOf w u = d.pos := by
  unfold Go.Proofs.Ytbncfpbehahidaa.atOf
  have h1 : w.cell? ⟨u, 1, none⟩ = some (.int .i64 (d.pos : Nat)) := (h.cell 1 _ rfl).1
  rw [h1]; simp
theorem FF.alloc {B : Nat} {w : World} (hB : B ≤ w.heap.size) (o : Obj) : FF B w (w.alloc o) := ⟨(Below.refl B w).alloc hB o, fun k cs T mk h1 _ _ => Below.heap_alloc _ _ _ (lt_of_block h1)⟩
theorem FU.alloc {w : World} {B u : Nat} {d : FD} {v : Value} (h : FU w B u d v) (o : Obj) : FU (w.alloc o) B u d v := by
  refine h.call ?_
  exact (Below.refl _ _).alloc (Nat.le_refl _) o
end Go.Proofs.Ytbncfpbehahidaa
namespace Go.Proofs.Ytbncfpbehahidaa
open Go.RowKit
set_option linter.unusedVariables false
set_option maxRecDepth 20000

set_option maxHeartbeats 2000000 in
theorem blocks_ok : POK 20 (fun d => d.plain.length ≤ 1048576) gBlocks := fun w B u d v h hpl0 => by
  have hmf : ∀ (fn : Fn) (first cap : Array Value) (w : World), (Instr.makeFunc fn first cap).run Try.prog w = .ok (.func fn first cap) w := fun _ _ _ _ => rfl
  have hpl : d.plain.length ≤ 1048576 := hpl0
  have hmo := h.hmost
  obtain ⟨r, hr⟩ : ∃ r, gBlocks d = r := ⟨_, rfl⟩
  rw [hr]
  unfold gBlocks at hr
  obtain ⟨w0, hw0⟩ : ∃ w0, w.alloc (.cells (pcs u five) 53) = w0 := ⟨_, rfl⟩
  have hw0' : w.alloc (.cells #[.func (.func 35) #[.pointer (some ⟨u, 0, none⟩)] #[], .func (.func 36) #[.pointer (some ⟨u, 0, none⟩)] #[], .func (.func 37) #[.pointer (some ⟨u, 0, none⟩)] #[], .func (.func 38) #[.pointer (some ⟨u, 0, none⟩)] #[], .func (.func 39) #[.pointer (some ⟨u, 0, none⟩)] #[]] 53) = w0 := hw0
  have HB0 : Hid (w0.heap[w.heap.size]? = some (.cells (pcs u five) 53 (0, 0)) ∧ FU w0 B u d v ∧ FF B w w0) := by
    show _ ∧ _ ∧ _
    rw [← hw0]
    exact ⟨heap_alloc_new _ _, h.alloc _, FF.alloc h.sizeB _⟩
  have HQ : Hid (∀ _ : Unit, Calls Try.prog 39 #[.pointer (some ⟨u, 0, none⟩)] w0 fun e w' => Ends B u w0 (gBn d).2 (.int .i64 ((gBn d).1 : Nat)) e w') := fun _ => bn_ok w0 B u d v HB0.out.2.1 trivial
  have hk := keeps_bn d
  have hbp := bn_plain d
  obtain ⟨q, hq⟩ : ∃ q, gBn d = q := ⟨_, rfl⟩
  rw [hq] at HQ hr hk hbp
  have HT : Hid (∀ W, FF B w0 W → ∀ di vi, FU W B u di vi → di.plain.length ≤ 1048576 → Calls Try.prog 14 #[.slice (some ⟨w.heap.size, 0, none⟩) 5 5] W fun e w' => Ends B u W (turnF five di).2 (.int .i64 ((turnF five di).1 : Nat)) e w') := fun W hW di vi hU hl => by
    have hb := (hW.2 w.heap.size _ _ _ HB0.out.1 (by decide) (by decide)).trans HB0.out.1
    exact inTurn_ok five five_ok W B u w.heap.size di vi hU hb (by decide) (five_goes di hl)
  obtain ⟨Z, hZ⟩ : ∃ Z, d.s.size = Z := ⟨_, rfl⟩
  have HR : Hid (∃ k, blkF k q = r ∧ Z - q.2.pos < k ∧ q.2.s.size = Z ∧ q.2.most ≤ 1048576 ∧ q.2.plain.length ≤ 1048576) := ⟨Z + 1, by rw [← hZ]; exact hr, by omega, by rw [hk.1]; exact hZ, by rw [hk.2.1]; exact hmo, by rw [hbp]; exact hpl⟩
  clear hr h hpl hpl0 hmo hk hbp hq hw0 hZ
  go_enter Try.func20, Try.ntmps20
  go_wp2_with fail
  refine (HQ.out ()).mono ?_
  rintro e w1 ⟨rfl, ⟨v1, hU1⟩, hF1⟩
  have H1 : Hid (FU w1 B u q.2 v1 ∧ FF B w0 w1) := ⟨hU1, hF1⟩
  obtain ⟨q1, q2⟩ := q
  simp only at H1 HR
  clear hU1 hF1 hw0'
  go_wp2_with fail
  go_loopw [4] (fun v4 wr => ∃ q1 : Nat, v4 = .int .i64 (q1 : Nat) ∧ Hid (∃ q2 vi k, FU wr B u q2 vi ∧ FF B w0 wr ∧ blkF k (q1, q2) = r ∧ Z - q2.pos < k ∧ q2.s.size = Z ∧ q2.most ≤ 1048576 ∧ (q1 = 0 → q2.plain.length ≤ 1048576))) (fun v4 wr => if intOf v4 = 0 then 1 + (Z - atOf wr u) else 0)
  case atStart =>
    obtain ⟨k, e1, e2, e3, e4, e5⟩ := HR.out
    exact ⟨q1, rfl, q2, v1, k, H1.out.1, H1.out.2, e1, e2, e3, e4, fun _ => e5⟩
  case round =>
    obtain ⟨q1, rfl, HS⟩ := hrel
    obtain ⟨q2, vi, k, hU, hF, hbk, hk, hZ, hm, hp⟩ := HS.out
    obtain ⟨k, rfl⟩ : ∃ k', k = k' + 1 := ⟨k - 1, by omega⟩
    unfold blkF at hbk
    simp only at hbk
    have HC : Hid (wr.cell? ⟨u, 6, none⟩ = some (.int .i64 (q2.block : Nat)) ∧ atOf wr u = q2.pos ∧ q2.pos ≤ Z) := ⟨(hU.cell 6 _ rfl).1, hU.posOf, by rw [← hZ]; exact hU.le⟩
    have c6 : wr.cell? ⟨u, 6, none⟩ = some (.int .i64 (q2.block : Nat)) := HC.out.1
    obtain ⟨bk, hbb⟩ : ∃ bk, q2.block = bk := ⟨_, rfl⟩
    rw [hbb] at hbk c6
    by_cases h0 : q1 = 0
    · obtain rfl : q1 = 0 := h0
      by_cases hb0 : bk = 0
      · have hbi : ((bk : Int) != 0) = false := by rw [hb0]; rfl
        rw [if_neg (by omega)] at hbk
        have HE : Hid (FU wr B u q2 vi ∧ FF B w0 wr ∧ (0, q2) = r) := ⟨hU, hF, hbk⟩
        clear hU hF hbk HS hp hZ hm hb0 hbb hk
        go_wp2
        go_ret
        rw [← HE.out.2.2]
        exact ⟨rfl, ⟨vi, HE.out.1⟩, HB0.out.2.2.trans HE.out.2.1⟩
      · have hbi : ((bk : Int) != 0) = true := by simp; exact hb0
        rw [if_pos ⟨rfl, by omega⟩] at hbk
        have HQ2 : Hid (∀ _ : Unit, Calls Try.prog 14 #[.slice (some ⟨w.heap.size, 0, none⟩) 5 5] wr fun e w' => Ends B u wr (turnF five q2).2 (.int .i64 ((turnF five q2).1 : Nat)) e w') := fun _ => HT.out wr hF q2 vi hU (hp rfl)
        have hk5 := five_keeps q2
        have he5 := five_end q2
        obtain ⟨t, ht⟩ : ∃ t, turnF five q2 = t := ⟨_, rfl⟩
        rw [ht] at HQ2 hbk hk5 he5
        obtain ⟨t1, t2⟩ := t
        simp only at HQ2 hk5 he5
        have HN : Hid (∀ w2 v2, FU w2 B u t2 v2 → FF B wr w2 → (∃ q2 vi k, FU w2 B u q2 vi ∧ FF B w0 w2 ∧ blkF k (t1, q2) = r ∧ Z - q2.pos < k ∧ q2.s.size = Z ∧ q2.most ≤ 1048576 ∧ (t1 = 0 → q2.plain.length ≤ 1048576)) ∧ (if (t1 : Int) = 0 then 1 + (Z - atOf w2 u) else 0) < 1 + (Z - atOf wr u)) := fun w2 v2 h1 h2 => by
          have hpo := h1.posOf
          have hle : t2.pos ≤ Z := by rw [← hZ, ← hk5.1]; exact h1.le
          by_cases ht0 : t1 = 0
          · have h5 := he5 ht0
            refine ⟨⟨t2, v2, k, h1, hF.trans h2, hbk, by omega, by rw [hk5.1]; exact hZ, by rw [hk5.2.1]; exact hm, fun _ => by omega⟩, ?_⟩
            rw [if_pos (by omega), hpo, HC.out.2.1]
            omega
          · refine ⟨⟨t2, v2, k + 1 + Z, h1, hF.trans h2, ?_, by omega, by rw [hk5.1]; exact hZ, by rw [hk5.2.1]; exact hm, fun e => (ht0 e).elim⟩, ?_⟩
            · have e1 : blkF k (t1, t2) = (t1, t2) := by
                cases k with
                | zero => rfl
                | succ k => unfold blkF; rw [if_neg (fun hh => ht0 hh.1)]
              rw [show k + 1 + Z = (k + Z) + 1 by omega]
              unfold blkF
              rw [if_neg (fun hh => ht0 hh.1)]
              rw [e1] at hbk
              exact hbk
            · rw [if_neg (by omega)]; omega
        clear hU hF hbk HS hp hZ hm hb0 hbb hk hk5 he5 ht
        go_wp2_with fail
        refine (HQ2.out ()).mono ?_
        rintro e w2 ⟨rfl, ⟨v2, hU2⟩, hF2⟩
        have H2 := HN.out w2 v2 hU2 hF2
        have HH2 : Hid _ := H2
        clear hU2 hF2 H2
        go_wp2
        go_roundw
        case rel => exact ⟨t1, rfl, HH2.out.1⟩
        case measure =>
          have := HH2.out.2
          simp only [intOf]
          simpa using this
    · have hqi : ((q1 : Int) == 0) = false := beq_eq_false_iff_ne.2 (by omega)
      rw [if_neg (fun hh => h0 hh.1)] at hbk
      have HE : Hid (FU wr B u q2 vi ∧ FF B w0 wr ∧ (q1, q2) = r) := ⟨hU, hF, hbk⟩
      clear hU hF hbk HS hp hZ hm h0 hbb hk
      go_wp2
      go_ret
      rw [← HE.out.2.2]
      exact ⟨rfl, ⟨vi, HE.out.1⟩, HB0.out.2.2.trans HE.out.2.1⟩
end Go.Proofs.Ytbncfpbehahidaa
namespace Go.Proofs.Ytbncfpbehahidaa
open Go.RowKit
set_option linter.unusedVariables false
set_option maxRecDepth 20000

theorem blkF_bad (k : Nat) (q : Nat × FD) (h : q.1 ≠ 0) : blkF k q = q := by
  cases k with
  | zero => rfl
  | succ k => unfold blkF; rw [if_neg (fun hh => h hh.1)]
theorem blkF_plain : ∀ (k : Nat) (q : Nat × FD), q.2.most ≤ 1048576 → (q.1 = 0 → q.2.plain.length ≤ 1048576) → (blkF k q).1 = 0 → (blkF k q).2.plain.length ≤ 1048576
  | 0, q, h1, h2, h => h2 h
  | k + 1, q, h1, h2, h => by
    unfold blkF at h ⊢
    split
    · rename_i hc
      rw [if_pos hc] at h
      exact blkF_plain k _ (by rw [(five_keeps q.2).2.1]; exact h1) (fun h0 => Nat.le_trans (five_end q.2 h0).2 h1) h
    · rename_i hc
      rw [if_neg hc] at h
      exact h2 h
theorem blocks_plain (d : FD) (h1 : d.most ≤ 1048576) (h2 : d.plain.length ≤ 1048576) (h : (gBlocks d).1 = 0) : (gBlocks d).2.plain.length ≤ 1048576 :=
  blkF_plain _ _ (by rw [(keeps_bn d).2.1]; exact h1) (fun _ => by rw [bn_plain]; exact h2) h
def eight : List Piece := [(15, fun _ => True, gBeg), (16, fun _ => True, gFl), (17, fun _ => True, gBm), (18, fun _ => True, gSz), (19, fun d => 4 ≤ d.pos, gHs), (20, fun d => d.plain.length ≤ 1048576, gBlocks), (21, fun _ => True, gSize), (22, fun d => d.plain.length ≤ 16777216, gAll)]
theorem eight_ok : ∀ p ∈ eight, POK p.1 p.2.1 p.2.2 ∧ PF p.1 := by
  intro p hp
  simp only [eight, List.mem_cons, List.not_mem_nil, or_false] at hp
  rcases hp with rfl | rfl | rfl | rfl | rfl | rfl | rfl | rfl
  · exact ⟨beg_ok, by simp [PF]⟩
  · exact ⟨fl_ok, by simp [PF]⟩
  · exact ⟨bm_ok, by simp [PF]⟩
  · exact ⟨sz_ok, by simp [PF]⟩
  · exact ⟨hs_ok, by simp [PF]⟩
  · exact ⟨blocks_ok, by simp [PF]⟩
  · exact ⟨size_ok, by simp [PF]⟩
  · exact ⟨all_ok, by simp [PF]⟩
/-- What the pieces of a head keep. -/
def KeepsH (g : FD → Nat × FD) : Prop := ∀ d, (g d).2.s = d.s ∧ (g d).2.most = d.most ∧ d.pos ≤ (g d).2.pos ∧ (g d).2.plain = d.plain
theorem keepsH_beg : KeepsH gBeg := fun d => by unfold gBeg; split <;> (try split) <;> simp
theorem keepsH_fl : KeepsH gFl := fun d => by unfold gFl; split <;> (try split) <;> simp
theorem keepsH_bm : KeepsH gBm := fun d => by unfold gBm; split <;> (try split) <;> simp
theorem keepsH_sz : KeepsH gSz := fun d => by unfold gSz; split <;> (try split) <;> (try split) <;> simp
theorem keepsH_hs : KeepsH gHs := fun d => by unfold gHs; split <;> (try split) <;> simp
theorem beg_pos (d : FD) (h : (gBeg d).1 = 0) : (gBeg d).2.pos = d.pos + 4 := by
  unfold gBeg at h ⊢
  split
  · rename_i h1; rw [if_pos h1] at h; simp at h
  · split <;> rfl
def d0 (s : ByteArray) (most : Nat) : FD := ⟨s, 0, most, 0, 0, 0, 0, ⟨#[]⟩, []⟩
theorem gSize_same (d : FD) : (gSize d).2 = d := by unfold gSize; split <;> rfl
theorem eight_goes (s : ByteArray) (most : Nat) (hm : most ≤ 1048576) : goes eight (d0 s most) := by
  obtain ⟨d, hd⟩ : ∃ d, d0 s most = d := ⟨_, rfl⟩
  have hd1 : d.most ≤ 1048576 := by rw [← hd]; exact hm
  have hd2 : d.plain.length ≤ 1048576 := by rw [← hd]; exact Nat.zero_le _
  rw [hd]
  refine ⟨trivial, fun e1 => ⟨trivial, fun _ => ⟨trivial, fun _ => ⟨trivial, fun _ => ⟨?_, fun _ => ⟨?_, fun e6 => ⟨trivial, fun _ => ⟨?_, fun _ => trivial⟩⟩⟩⟩⟩⟩⟩⟩
  · have k1 := beg_pos d e1
    have k2 := (keepsH_fl (gBeg d).2).2.2.1
    have k3 := (keepsH_bm (gFl (gBeg d).2).2).2.2.1
    have k4 := (keepsH_sz (gBm (gFl (gBeg d).2).2).2).2.2.1
    show 4 ≤ (gSz (gBm (gFl (gBeg d).2).2).2).2.pos
    omega
  · show (gHs (gSz (gBm (gFl (gBeg d).2).2).2).2).2.plain.length ≤ 1048576
    rw [(keepsH_hs _).2.2.2, (keepsH_sz _).2.2.2, (keepsH_bm _).2.2.2, (keepsH_fl _).2.2.2, (keepsH_beg _).2.2.2]
    exact hd2
  · show (gSize (gBlocks (gHs (gSz (gBm (gFl (gBeg d).2).2).2).2).2).2).2.plain.length ≤ 16777216
    rw [gSize_same]
    have := blocks_plain (gHs (gSz (gBm (gFl (gBeg d).2).2).2).2).2 (by rw [(keepsH_hs _).2.1, (keepsH_sz _).2.1, (keepsH_bm _).2.1, (keepsH_fl _).2.1, (keepsH_beg _).2.1]; exact hd1) (by rw [(keepsH_hs _).2.2.2, (keepsH_sz _).2.2.2, (keepsH_bm _).2.2.2, (keepsH_fl _).2.2.2, (keepsH_beg _).2.2.2]; exact hd2) e6
    omega
/-- The plain bytes of a frame, or why there are none: the error, the bytes, how many it took. -/
def unpackF (s : ByteArray) (most : Nat) : Nat × List Nat × Nat := if (turnF eight (d0 s most)).1 = 0 then (0, (turnF eight (d0 s most)).2.plain, (turnF eight (d0 s most)).2.pos) else ((turnF eight (d0 s most)).1, [], 0)
def frR (r : Nat × List Nat × Nat) : Value := .tuple #[.string (toBA r.2.1), .int .i64 (r.2.2 : Nat), .int .i64 (r.1 : Nat)]
theorem funpack_arg (s : ByteArray) (most : Int) (w : World) (h : most < 0 ∨ 1048576 < most) : Calls Try.prog 9 #[.string s, .int .i64 most] w fun e w' => e = .returned (frR (1, [], 0)) ∧ Below w.heap.size w w' := by
  by_cases h1 : most < 0
  · have hd : decide (most < 0) = true := by simp [h1]
    go_enter Try.func9, Try.ntmps9
    go_wp2
    go_ret3
    exact ⟨rfl, Below.refl _ _⟩
  · have h2 : 1048576 < most := by omega
    have hd : decide (most < 0) = false := by simp; omega
    go_enter Try.func9, Try.ntmps9
    go_wp2
    go_ret3
    exact ⟨rfl, Below.refl _ _⟩
set_option maxHeartbeats 2000000 in
theorem funpack_ok (s : ByteArray) (most : Nat) (w : World) (hm : most ≤ 1048576) (hs : s.size ≤ 140737488351232) :
    Calls Try.prog 9 #[.string s, .int .i64 (most : Nat)] w fun e w' => e = .returned (frR (unpackF s most)) ∧ Below w.heap.size w w' := by
  have hmf : ∀ (fn : Fn) (first cap : Array Value) (w : World), (Instr.makeFunc fn first cap).run Try.prog w = .ok (.func fn first cap) w := fun _ _ _ _ => rfl
  have hmi : ¬ (1048576 : Int) < (most : Int) := by omega
  have hm0 : decide ((most : Int) < 0) = false := by simp
  have hm1 : ¬ (most : Int) < 0 := by omega
  obtain ⟨w1, hw1⟩ : ∃ w1, w.alloc (.cells ((d0 s most).cells (.slice none 0 0)) 36) = w1 := ⟨_, rfl⟩
  obtain ⟨w2, hw2⟩ : ∃ w2, w1.alloc (.cells (pcs w.heap.size eight) 53) = w2 := ⟨_, rfl⟩
  have hw1' : w.alloc (.cells #[.string s, .int .i64 0, .int .i64 (most : Nat), .int .i64 0, .int .i64 0, .int .i64 0, .int .i64 0, .string ⟨#[]⟩, .slice none 0 0] 36) = w1 := hw1
  have hp : ∀ f, (Value.func (.func f) #[.pointer (some ⟨w.heap.size, 0, none⟩)] #[]) = pcv w.heap.size f := fun f => rfl
  have hw2' : w1.alloc (.cells #[.func (.func 15) #[.pointer (some ⟨w.heap.size, 0, none⟩)] #[], .func (.func 16) #[.pointer (some ⟨w.heap.size, 0, none⟩)] #[], .func (.func 17) #[.pointer (some ⟨w.heap.size, 0, none⟩)] #[], .func (.func 18) #[.pointer (some ⟨w.heap.size, 0, none⟩)] #[], .func (.func 19) #[.pointer (some ⟨w.heap.size, 0, none⟩)] #[], .func (.func 20) #[.pointer (some ⟨w.heap.size, 0, none⟩)] #[], .func (.func 21) #[.pointer (some ⟨w.heap.size, 0, none⟩)] #[], .func (.func 22) #[.pointer (some ⟨w.heap.size, 0, none⟩)] #[]] 53) = w2 := hw2
  have hU1 : FU w1 w.heap.size w.heap.size (d0 s most) (.slice none 0 0) := by
    rw [← hw1]
    exact ⟨heap_alloc_new _ _, World.ownsRow_nil _ _ _ _, Nat.zero_le _, hs, Nat.le_refl _, Nat.zero_le _, hm, by show 0 < 256; omega, Nat.zero_le _, by show 0 < 4294967296; omega, by show (⟨#[]⟩ : ByteArray).size ≤ 2147483648; decide, fun x hx => by simp [d0] at hx⟩
  have hsz1 : w1.heap.size = w.heap.size + 1 := by rw [← hw1]; simp
  have hU2 : FU w2 w.heap.size w.heap.size (d0 s most) (.slice none 0 0) := by rw [← hw2]; exact hU1.alloc _
  have hb2 : w2.heap[w.heap.size + 1]? = some (.cells (pcs w.heap.size eight) 53 (0, 0)) := by rw [← hw2, ← hsz1]; exact heap_alloc_new _ _
  have hbel : Below w.heap.size w w2 := by
    rw [← hw2, ← hw1]
    exact ((Below.refl _ _).alloc (Nat.le_refl _) _).alloc (by simp) _
  have HQ : Hid (∀ _ : Unit, Calls Try.prog 14 #[.slice (some ⟨w.heap.size + 1, 0, none⟩) 8 8] w2 fun e w' => Ends w.heap.size w.heap.size w2 (turnF eight (d0 s most)).2 (.int .i64 ((turnF eight (d0 s most)).1 : Nat)) e w') := fun _ => inTurn_ok eight eight_ok w2 w.heap.size w.heap.size (w.heap.size + 1) _ _ hU2 hb2 (by decide) (eight_goes s most hm)
  have HB : Hid (Below w.heap.size w w2) := hbel
  unfold unpackF
  obtain ⟨q, hq⟩ : ∃ q, turnF eight (d0 s most) = q := ⟨_, rfl⟩
  rw [hq] at HQ ⊢
  obtain ⟨q1, q2⟩ := q
  simp only at HQ ⊢
  have HW : Hid (_ ∧ _) := ⟨hw1', hw2'⟩
  clear hq hU1 hU2 hb2 hbel hw1 hw2 hp hw1' hw2' hsz1
  by_cases h0 : q1 = 0
  · obtain rfl : q1 = 0 := h0
    rw [if_pos rfl]
    have HC : Hid (∀ W V, FU W w.heap.size w.heap.size q2 V → (∃ ao ln cp, V = .slice ao ln cp) ∧ W.cell? ⟨w.heap.size, 8, none⟩ = some V ∧ W.cell? ⟨w.heap.size, 1, none⟩ = some (.int .i64 (q2.pos : Nat)) ∧ (convert 30 9 V).run Try.prog W = .ok (.string (toBA q2.plain)) W) := fun W V h1 => by
      obtain ⟨ao, cp, hv⟩ := h1.form
      exact ⟨⟨_, _, _, hv⟩, (h1.cell 8 _ rfl).1, (h1.cell 1 _ rfl).1, conv_row W _ _ 5 w.heap.size _ _ Try.underlying30 Try.underlying5 Try.underlying9 h1.own h1.bytes⟩
    go_enter Try.func9, Try.ntmps9
    go_wp2_with fail
    rw [HW.out.1, HW.out.2]
    refine (HQ.out ()).mono ?_
    rintro e w3 ⟨rfl, ⟨v3, hU3⟩, hF3⟩
    have H3 : Hid (FU w3 w.heap.size w.heap.size q2 v3 ∧ Below w.heap.size w w3) := ⟨hU3, HB.out.trans hF3.1⟩
    obtain ⟨⟨ao, ln, cp, hv⟩, c8, c1, -⟩ := HC.out _ _ hU3
    subst hv
    have hcv : ∀ k, (convert 30 9 (.slice ao ln cp)).run Try.prog (w3.drewN k) = .ok (.string (toBA q2.plain)) (w3.drewN k) := fun k => (HC.out _ _ (hU3.drewN k)).2.2.2
    have hcv1 : (convert 30 9 (.slice ao ln cp)).run Try.prog w3.drew = .ok (.string (toBA q2.plain)) w3.drew := hcv 1
    clear hcv
    clear hU3 hF3
    go_wp2_with fail
    go_region
    all_goals
      go_wp2
      go_ret3
      exact ⟨rfl, H3.out.2.trans (Below.drewN' _ _ 1)⟩
  · have hne : ((q1 : Int) != 0) = true := by simp; exact h0
    rw [if_neg h0]
    clear h0
    go_enter Try.func9, Try.ntmps9
    go_wp2_with fail
    rw [HW.out.1, HW.out.2]
    refine (HQ.out ()).mono ?_
    rintro e w3 ⟨rfl, hU3, hF3⟩
    have H3 : Hid (Below w.heap.size w w3) := HB.out.trans hF3.1
    clear hU3 hF3
    go_wp2
    go_ret3
    exact ⟨rfl, H3.out⟩
end Go.Proofs.Ytbncfpbehahidaa
