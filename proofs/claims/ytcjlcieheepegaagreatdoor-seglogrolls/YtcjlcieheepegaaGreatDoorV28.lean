/- Layer 11: a batch by any recipe (postroadbook.Made). -/
import Derived.Test.YtcjlcieheepegaaGreatDoorV25
import Derived.Laws.OwnMore
namespace Go.Proofs.YtcjlcieheepegaaGreatDoor
open Go.RowKit
set_option linter.unusedVariables false
set_option maxRecDepth 20000
set_option maxRecDepth 20000

/-- What Made's first loop keeps. -/
structure MG (w wr : World) (x : RP) (base X bb k : Nat) (v : Value) : Prop where
  fx : wr.heap[X]? = some (.cells #[.int .i64 x.cnt, .int .i64 x.key, .int .i64 x.prod, .int .i64 x.seq, .string x.val] 30 (0, 0))
  fb : wr.heap[bb]? = some (.cells #[.int .i64 (base : Nat), .int .i64 (x.n : Nat), .int .i64 0, .int .i64 (x.pr : Nat), .int .i64 (x.sq : Nat), v] 46 (0, 0))
  own : wr.ownsRow w.heap.size 49 4 v k (rcs (recsA base x.k x.val k))
  bel : Below w.heap.size w wr
  hX : w.heap.size ≤ X
  hbb : X < bb
theorem key_ok (k i : Nat) (hk : k ≤ 7) (hi : i ≤ 7) : (keyB k i).toNat = 97 + (k + i * 3) % 5 := by
  unfold keyB
  rw [UInt8.toNat_ofNat_of_lt']
  show _ < 256
  omega
theorem rcs_one (r : Rec) : rcs [r] = r.cs := by simp [rcs]
/-- One more record. -/
theorem MG.more {w wr w5 : World} {x : RP} {base X bb k vc g cap : Nat} {ao : Option Addr} (hM : MG w wr x base X bb k (.slice ao k vc))
    {o1 o2 : Obj} (hown : w5.ownsRow w.heap.size 49 4 (.slice (some ⟨g, 0, none⟩) (k + 1) cap) (k + 1) (rcs (recsA base x.k x.val k) ++ (recA base x.k x.val k).cs))
    (hg : ((wr.alloc o1).alloc o2).grownBy w5 (Value.slice ao k vc).ownBlock) :
    w5.cell? ⟨bb, 5, none⟩ = some (.slice ao k vc) ∧ w5.frozen? ⟨bb, 5, none⟩ = false ∧ MG w (w5.setCell ⟨bb, 5, none⟩ (.slice (some ⟨g, 0, none⟩) (k + 1) cap)) x base X bb (k + 1) (.slice (some ⟨g, 0, none⟩) (k + 1) cap) := by
  have hb : Below wr.heap.size wr ((wr.alloc o1).alloc o2) := (below_a wr o1).trans ((below_a (wr.alloc o1) o2).mono (by simp))
  have hr := owns_below hM.own hb
  have hx := (hb.block X (lt_of_block hM.fx)).trans hM.fx
  have hbt := (hb.block bb (lt_of_block hM.fb)).trans hM.fb
  have hX : w5.heap[X]? = _ := (hg.block X (lt_of_block hx) (fun e => by
    obtain ⟨_, cs, e'⟩ := rowBlk hr e.symm
    rw [hx] at e'; cases e')).trans hx
  have hB : w5.heap[bb]? = _ := (hg.block bb (lt_of_block hbt) (fun e => by
    obtain ⟨_, cs, e'⟩ := rowBlk hr e.symm
    rw [hbt] at e'; cases e')).trans hbt
  have hbe : Below w.heap.size w w5 := (hM.bel.trans (hb.mono hM.bel.size)).trans (below_grown hr hg (Nat.le_trans hM.bel.size hb.size))
  have hne : ∀ j, j ≠ bb → (w5.setCell ⟨bb, 5, none⟩ (.slice (some ⟨g, 0, none⟩) (k + 1) cap)).heap[j]? = w5.heap[j]? := fun j hj => Below.heap_setCell _ _ _ _ (by simpa using hj)
  have hXb := hM.hbb
  refine ⟨by simp [World.cell?, hB], frozen0 hB 5, ⟨(hne X (by omega)).trans hX, block_set hB, ?_, hbe.trans (below_set w5 _ (by have := hM.hX; omega)), hM.hX, hXb⟩⟩
  rw [recsA_succ, rcs_append, rcs_one]
  exact rowKeep hown (fun g' cs e => hne g' (by rintro rfl; rw [hB] at e; cases e))
/-- The records of which the first j have lost their values. -/
def recsJ (base k : Nat) (val : ByteArray) (n j : Nat) : List Rec := (List.range n).map fun i => if i < j then recA base k ⟨#[]⟩ i else recA base k val i
theorem recsJ_zero (base k : Nat) (val : ByteArray) (n : Nat) : recsJ base k val n 0 = recsA base k val n := by
  unfold recsJ recsA
  apply List.map_congr_left
  intro i _
  rw [if_neg (by omega)]
theorem recsJ_full (base k : Nat) (val : ByteArray) (n : Nat) : recsJ base k val n n = recsA base k ⟨#[]⟩ n := by
  unfold recsJ recsA
  apply List.map_congr_left
  intro i hi
  rw [if_pos (List.mem_range.1 hi)]
theorem recsJ_length (base k : Nat) (val : ByteArray) (n j : Nat) : (recsJ base k val n j).length = n := by simp [recsJ]
theorem recsJ_get (base k : Nat) (val : ByteArray) (n j : Nat) (h : j < n) : (recsJ base k val n j)[j]? = some (recA base k val j) := by
  simp [recsJ, h]
theorem recsJ_succ (base k : Nat) (val : ByteArray) (n j : Nat) (h : j < n) : recsJ base k val n (j + 1) = (recsJ base k val n j).set j (recA base k ⟨#[]⟩ j) := by
  apply List.ext_getElem?
  intro i
  rw [List.getElem?_set]
  by_cases hi : i < n
  · by_cases hij : j = i
    · subst hij
      simp [recsJ, h]
    · rw [if_neg hij]
      simp only [recsJ, List.getElem?_map, List.getElem?_range hi, Option.map_some]
      by_cases h1 : i < j
      · rw [if_pos (by omega), if_pos h1]
      · rw [if_neg (by omega), if_neg h1]
  · have e1 : (recsJ base k val n (j + 1))[i]? = none := List.getElem?_eq_none (by rw [recsJ_length]; omega)
    have e2 : (recsJ base k val n j)[i]? = none := List.getElem?_eq_none (by rw [recsJ_length]; omega)
    rw [e1, if_neg (by omega), e2]
theorem rcs_set_val (L : List Rec) (j : Nat) (r : Rec) (h : L[j]? = some r) (v : ByteArray) : (rcs L).set (j * 4 + 2) (.string v) = rcs (L.set j ⟨r.off, r.key, v, r.gone⟩) := by
  induction L generalizing j with
  | nil => simp at h
  | cons x L ih =>
    cases j with
    | zero =>
      simp at h
      subst h
      rfl
    | succ j =>
      simp at h
      have e : rcs (x :: L) = x.cs ++ rcs L := rfl
      rw [e, List.set_append_right _ _ (by show 4 ≤ _; omega)]
      have e3 : (j + 1) * 4 + 2 - x.cs.length = j * 4 + 2 := by show (j + 1) * 4 + 2 - 4 = _; omega
      rw [e3, ih j h]
      rfl
/-- What Made's second loop keeps. -/
structure MJ (w wr : World) (x : RP) (base X bb n g vc j : Nat) : Prop where
  fx : wr.heap[X]? = some (.cells #[.int .i64 x.cnt, .int .i64 x.key, .int .i64 x.prod, .int .i64 x.seq, .string x.val] 30 (0, 0))
  fb : wr.heap[bb]? = some (.cells #[.int .i64 (base : Nat), .int .i64 (n : Nat), .int .i64 0, .int .i64 (x.pr : Nat), .int .i64 (x.sq : Nat), .slice (some ⟨g, 0, none⟩) n vc] 46 (0, 0))
  own : wr.ownsRow w.heap.size 49 4 (.slice (some ⟨g, 0, none⟩) n vc) n (rcs (recsJ base x.k x.val n j))
  bel : Below w.heap.size w wr
theorem MJ.next {w wr : World} {x : RP} {base X bb n g vc j : Nat} (h : MJ w wr x base X bb n g vc j) (hj : j < n) : MJ w (wr.setCell ⟨g, j * 4 + 2, none⟩ (.string ⟨#[]⟩)) x base X bb n g vc (j + 1) := by
  obtain ⟨h1, h2⟩ := h.own.stored (j * 4 + 2) (.string ⟨#[]⟩)
  have hlo := (h.own.lt g rfl).1
  have hgt : ∃ cs, wr.heap[g]? = some (Obj.cells cs 49 (0, 0)) := (rowBlk h.own rfl).2
  have hne : ∀ k, k ≠ g → (wr.setCell ⟨g, j * 4 + 2, none⟩ (.string ⟨#[]⟩)).heap[k]? = wr.heap[k]? := fun k hk => Below.heap_setCell _ _ _ _ (by simpa using hk)
  obtain ⟨cs, hg⟩ := hgt
  refine ⟨(hne X ?_).trans h.fx, (hne bb ?_).trans h.fb, ?_, h.bel.trans (below_set wr _ hlo)⟩
  · rintro rfl; have := h.fx; rw [hg] at this; cases this
  · rintro rfl; have := h.fb; rw [hg] at this; cases this
  · rw [recsJ_succ base x.k x.val n j hj]
    rw [rcs_set_val _ j _ (recsJ_get base x.k x.val n j hj)] at h1
    exact h1
/-- A batch in memory: what Plain wants. -/
theorem bin_of {wr : World} {B g vc base : Nat} {x : RP} (ho : wr.ownsRow B 49 4 (.slice (some ⟨g, 0, none⟩) x.n vc) x.n (rcs (x.L base))) (hb : base ≤ 1099511627520) (hv : x.val.size ≤ 4096) : BIn wr (x.h base) g 0 (x.L base) := by
  have hl : (x.L base).length = x.n := recsA_length _ _ _ _
  have hn := x.n1
  obtain ⟨_, cs, hg⟩ := rowBlk ho rfl
  have hin : RIn wr (some ⟨g, 0, none⟩) (x.L base) := RIn.owned ho (lt_of_block hg)
  have hbat := x.ok base hb hv
  have hw := x.within base
  refine ⟨hin, fun r hr => ?_, by omega, by omega, ?_, fun r hr => ?_⟩
  · have := (mayB_iff r).1 (comes_mem _ _ (x.comes base hb hv) r hr)
    constructor <;> omega
  · rw [Bool.and_eq_true]
    refine ⟨?_, x.comes base hb hv⟩
    show offB ((base : Nat) : Int) = true
    unfold offB; simp; omega
  · have hm := hw r (List.mem_of_getElem? hr)
    omega
theorem plain_rec (w W : World) (x : RP) (base X bb n g vc : Nat) (hb : base ≤ 1099511627520) (hv : x.val.size ≤ 4096) (hn : x.n = n) (R : ByteArray) (hR : (x.b base).s = R) (hW : MJ w W x base X bb n g vc (if x.k = 7 then n else 0)) :
    Calls Tryz.prog 13 #[.agg #[.int .i64 (base : Nat), .int .i64 (n : Nat), .int .i64 0, .int .i64 (x.pr : Nat), .int .i64 (x.sq : Nat), .slice (some ⟨g, 0, none⟩) n vc]] W fun e w' => e = .returned (.tuple #[.string R, .int .i64 0]) ∧ Below w.heap.size w w' := by
  have ho := hW.own
  have e : recsJ base x.k x.val n (if x.k = 7 then n else 0) = x.L base := by
    unfold RP.L RP.value
    by_cases h7 : x.k = 7
    · rw [if_pos h7, if_pos h7, hn]; exact recsJ_full _ _ _ _
    · rw [if_neg h7, if_neg h7, hn]; exact recsJ_zero _ _ _ _
  rw [e] at ho
  subst hn
  have hl : (x.L base).length = x.n := recsA_length _ _ _ _
  have hp := plain_ok (x.h base) (x.h_ok base hb) g 0 vc (x.L base) W (bin_of ho hb hv) (show x.n = (x.L base).length from hl.symm) (by have := x.b_len base hb hv; show (recsL base (x.L base)).length ≤ _; omega)
  rw [hl] at hp
  subst hR
  refine Calls.mono (hp : Calls Tryz.prog 13 #[.agg #[.int .i64 (base : Nat), .int .i64 (x.n : Nat), .int .i64 0, .int .i64 (x.pr : Nat), .int .i64 (x.sq : Nat), .slice (some ⟨g, 0, none⟩) x.n vc]] W _) ?_
  rintro e w' ⟨h1, h2⟩
  exact ⟨h1, hW.bel.trans (h2.mono hW.bel.size)⟩
set_option maxHeartbeats 4000000 in
theorem made_ok (x : RP) (base : Nat) (w : World) (hb : base ≤ 1099511627520) (hv : x.val.size ≤ 4096) : Calls Tryz.prog 6 #[x.v, .int .i64 (base : Nat)] w fun e w' => e = .returned (.tuple #[.string (x.b base).s, .bool true]) ∧ Below w.heap.size w w' := by
  obtain ⟨i0, hi, hz0, hz1, hz2⟩ := info_split recInfo
  have HI : Hid (Tryz.prog.info? 49 = some i0 ∧ i0.zero = some (.agg #[.int .i64 0, .string ⟨#[]⟩, .string ⟨#[]⟩, .bool false]) ∧ i0.size = 4 ∧ i0.bytes = 48) := ⟨hi, hz0, hz1, hz2⟩
  clear hi hz0 hz1 hz2
  have HV := hide hv
  have HNq := hide x.n1
  obtain ⟨q1, q1'⟩ := and7n x.cnt
  obtain ⟨q2, q2'⟩ := and7n x.key
  obtain ⟨q3, q3'⟩ := and255n x.prod
  obtain ⟨q4, q4'⟩ := and65535n x.seq
  obtain ⟨C7, hC7⟩ : ∃ q, (x.cnt % 8).toNat = q := ⟨_, rfl⟩
  rw [hC7] at q1 q1'
  have hK : (x.key % 8).toNat = x.k := rfl
  have hP : (x.prod % 256).toNat = x.pr := rfl
  have hS : (x.seq % 65536).toNat = x.sq := rfl
  rw [hK] at q2 q2'
  rw [hP] at q3 q3'
  rw [hS] at q4 q4'
  have hn : (1 : Int) + (C7 : Int) = (x.n : Int) := by have : x.n = 1 + (x.cnt % 8).toNat := rfl; omega
  have HQ := hide q2'
  clear hC7 hK hP hS q2' q3' q4'
  obtain ⟨X, hX⟩ : ∃ X, w.heap.size = X := ⟨_, rfl⟩
  have hba := below_a w (.cells #[.int .i64 x.cnt, .int .i64 x.key, .int .i64 x.prod, .int .i64 x.seq, .string x.val] 30)
  have hbb := below_a (w.alloc (.cells #[.int .i64 x.cnt, .int .i64 x.key, .int .i64 x.prod, .int .i64 x.seq, .string x.val] 30)) (.cells #[.int .i64 (base : Nat), .int .i64 (x.n : Nat), .int .i64 0, .int .i64 (x.pr : Nat), .int .i64 (x.sq : Nat), .slice none 0 0] 46)
  have hsz : (w.alloc (.cells #[.int .i64 x.cnt, .int .i64 x.key, .int .i64 x.prod, .int .i64 x.seq, .string x.val] 30)).heap.size = w.heap.size + 1 := by simp
  have HM : Hid (MG w ((w.alloc (.cells #[.int .i64 x.cnt, .int .i64 x.key, .int .i64 x.prod, .int .i64 x.seq, .string x.val] 30)).alloc (.cells #[.int .i64 (base : Nat), .int .i64 (x.n : Nat), .int .i64 0, .int .i64 (x.pr : Nat), .int .i64 (x.sq : Nat), .slice none 0 0] 46)) x base w.heap.size (w.heap.size + 1) 0 (.slice none 0 0)) :=
    ⟨(hbb.block _ (by rw [hsz]; omega)).trans (heap_alloc_new _ _), by rw [← hsz]; exact heap_alloc_new _ _, ⟨rfl, .inl ⟨rfl, rfl⟩⟩, hba.trans (hbb.mono hba.size), Nat.le_refl _, Nat.lt_succ_self _⟩
  clear hba hbb hsz
  rw [hX] at HM
  obtain ⟨R, hR⟩ : ∃ R, (x.b base).s = R := ⟨_, rfl⟩
  have HRR := hide hR
  rw [hR]
  clear hR
  show Calls Tryz.prog 6 #[.agg #[.int .i64 x.cnt, .int .i64 x.key, .int .i64 x.prod, .int .i64 x.seq, .string x.val], .int .i64 (base : Nat)] w _
  obtain ⟨n, hnn⟩ : ∃ n, x.n = n := ⟨_, rfl⟩
  have HNN := hide hnn
  rw [hnn] at hn
  have hn8 : C7 ≤ 7 := q1'
  clear hnn hv q1'
  go_enter Tryz.func6, Tryz.ntmps6
  go_upto_region 3 with fail
  try rw [hX]
  rw [HNN.out] at HM
  generalize ((w.alloc (.cells #[.int .i64 x.cnt, .int .i64 x.key, .int .i64 x.prod, .int .i64 x.seq, .string x.val] 30)).alloc (.cells #[.int .i64 (base : Nat), .int .i64 (n : Nat), .int .i64 0, .int .i64 (x.pr : Nat), .int .i64 (x.sq : Nat), .slice none 0 0] 46)) = w1 at HM
  have HX := hide hX
  clear hX hn q1 hn8 q3 q4
  go_wp2
  go_loopw [8] (fun i wr => ∃ (k : Nat) (v : Value), i = .int .i64 (k : Nat) ∧ k ≤ n ∧ MG w wr x base X (X + 1) k v) (fun i _ => n - (intOf i).toNat)
  case atStart => exact ⟨0, _, rfl, by omega, HM.out⟩
  case round =>
    obtain ⟨k, v, rfl, hk, hms⟩ := hrel
    have HS := hide hms
    clear hms HM
    by_cases hlt : k < n
    · have hlti : (k : Int) < (n : Int) := by omega
      obtain ⟨va, vc, rfl⟩ := rowForm HS.out.own
      obtain ⟨K, hK⟩ : ∃ K, x.k = K := ⟨_, rfl⟩
      rw [hK] at q2
      have hK7 : K ≤ 7 := by rw [← hK]; exact HQ.out
      have hk7 : k ≤ 7 := by have := HNq.out; have := HNN.out; omega
      obtain ⟨m, hm⟩ : ∃ m, (K + k * 3) % 5 = m := ⟨_, rfl⟩
      have hm4 : m ≤ 4 := by omega
      obtain ⟨k3, hk3⟩ : ∃ k3, k * 3 = k3 := ⟨_, rfl⟩
      obtain ⟨kk, hkk⟩ : ∃ kk, K + k3 = kk := ⟨_, rfl⟩
      have e1 : (k : Int) * 3 = (k3 : Int) := by omega
      have e2 : (K : Int) + (k3 : Int) = (kk : Int) := by omega
      have e3 : Int.tmod (kk : Int) 5 = (m : Int) := by
        rw [Int.tmod_eq_emod_of_nonneg (by omega)]
        rw [hk3, hkk] at hm
        omega
      obtain ⟨cc, hcc⟩ : ∃ cc, 97 + m = cc := ⟨_, rfl⟩
      obtain ⟨bk, hbb⟩ : ∃ bk, base + k = bk := ⟨_, rfl⟩
      have e4 : (97 : Int) + (m : Int) = (cc : Int) := by omega
      have hkk25 : kk ≤ 28 := by omega
      have hk21 : k3 ≤ 21 := by omega
      have hcvt : (convert 47 9 (.slice (some ⟨wr.heap.size, 0, none⟩) 1 1)).run Tryz.prog (wr.alloc (.cells #[.int .u8 (cc : Int)] 5)) = .ok (.string (mk [keyB K k])) (wr.alloc (.cells #[.int .u8 (cc : Int)] 5)) := by
        have := conv_one wr (keyB K k)
        rw [key_ok K k hK7 hk7, hm, hcc] at this
        exact this
      obtain ⟨z0, z1, z2, z3, z4⟩ := cells5 HS.out.fx
      obtain ⟨b0, b1, b2, b3, b4, b5⟩ := cells6 HS.out.fb
      have z11 := fun o => cellB (below_a wr o) z1
      have z41 := fun o => cellB (below_a wr o) z4
      clear z0 z2 z3 b0 b1 b2 b3 b4
      have HOW : Hid (∀ o, ((wr.alloc (.cells #[.int .u8 (cc : Int)] 5)).alloc o).ownsRow w.heap.size 49 4 (.slice va k vc) k (rcs (recsA base x.k x.val k)) ∧ w.heap.size ≤ ((wr.alloc (.cells #[.int .u8 (cc : Int)] 5)).alloc o).heap.size) := fun o => by
        have hb := (below_a wr (.cells #[.int .u8 (cc : Int)] 5)).trans ((below_a (wr.alloc (.cells #[.int .u8 (cc : Int)] 5)) o).mono (by simp))
        exact ⟨owns_below HS.out.own hb, Nat.le_trans HS.out.bel.size hb.size⟩
      have b51 := cellB ((below_a wr (.cells #[.int .u8 (cc : Int)] 5)).trans ((below_a (wr.alloc (.cells #[.int .u8 (cc : Int)] 5)) (.cells #[.int .i64 (bk : Int), .string (mk [keyB K k]), .string x.val, .bool ((K : Int) == 7)] 49)).mono (by simp))) b5
      have HN4 : Hid (∀ j u, [Value.int .i64 (bk : Int), .string (mk [keyB K k]), .string x.val, .bool ((K : Int) == 7)][j]? = some u → ((wr.alloc (.cells #[.int .u8 (cc : Int)] 5)).alloc (.cells #[.int .i64 (bk : Int), .string (mk [keyB K k]), .string x.val, .bool ((K : Int) == 7)] 49)).cell? ((⟨wr.heap.size + 1, 0, none⟩ : Addr).add j) = some u) := fun j u hj => by
        have := news4 (wr.alloc (.cells #[.int .u8 (cc : Int)] 5)) _ _ _ _ 49 j u hj
        have e : (wr.alloc (.cells #[.int .u8 (cc : Int)] 5)).heap.size = wr.heap.size + 1 := by simp
        rw [e] at this
        exact this
      have hbk : (base : Int) + (k : Int) = (bk : Int) := by omega
      have hK7i : (K : Int) ≤ 7 := by omega
      have hd7 : Hid (((K : Int) == 7) = decide (K = 7)) := by show (_ : Bool) = _; rw [Bool.eq_iff_iff]; simp; omega
      have hbi : (base : Int) ≤ 1099511627520 := by omega
      have hccb : cc ≤ 101 := by omega
      have hcci : (cc : Int) ≤ 101 := by omega
      have hcm : (cc : Int) % 256 = (cc : Int) := by omega
      have HKK := hide (And.intro hK hbb)
      clear hK hbb hcc hm hk3 hkk hm4 hkk25 hk21 HNN
      have hki : (k : Int) ≤ 7 := by omega
      go_wp2_with (at_builtin; (refine wpList_append_lies _ rfl _ _ 44 rfl w.heap.size 49 i0 (.agg #[.int .i64 0, .string ⟨#[]⟩, .string ⟨#[]⟩, .bool false]) 4 48 Tryz.underlying44 HI.out.1 HI.out.2.1 HI.out.2.2.1 HI.out.2.2.2 rfl (by decide) (.slice va k vc) k (rcs (recsA base x.k x.val k)) rfl (HOW.out _).1 ⟨wr.heap.size + 1, 0, none⟩ 1 1 [.int .i64 (bk : Int), .string (mk [keyB K k]), .string x.val, .bool ((K : Int) == 7)] rfl rfl HN4.out (one4 _ _ _ _) (by decide) (by unfold maxLen; omega) (by omega) (HOW.out _).2 _ rfl ?_); intro g5 cap5 w5 hown hgrow hat hgl; have hcs5 : (recA base x.k x.val k).cs = [.int .i64 (bk : Int), .string (mk [keyB K k]), .string x.val, .bool ((K : Int) == 7)] := (by rw [hd7.out, ← HKK.out.1, ← HKK.out.2]; rfl); have hm5 := MG.more HS.out (by rw [hcs5]; exact hown) hgrow; have e5 := hm5.1; have f5 := hm5.2.1; have HNX := hide hm5.2.2; clear hown hgrow hat hgl hm5 hcs5)
      go_roundw
      case rel => exact ⟨k + 1, _, rfl, by omega, HNX.out⟩
      case measure => simp [intOf]; omega
    · have hkn : k = n := by omega
      subst hkn
      have hlti : ¬ (k : Int) < (k : Int) := by omega
      obtain ⟨va, vc, rfl⟩ := rowForm HS.out.own
      obtain ⟨g, rfl⟩ : ∃ g, va = some ⟨g, 0, none⟩ := by
        rcases HS.out.own.2 with ⟨e, h0⟩ | ⟨g, cap, cur, e, _⟩
        · exact absurd h0 (by have := HNq.out; have := HNN.out; omega)
        · cases e; exact ⟨g, rfl⟩
      have HPL := hide (fun W hW => plain_rec w W x base X (X + 1) k g vc hb HV.out HNN.out R HRR.out hW)
      have HJ : Hid (MJ w wr x base X (X + 1) k g vc 0) := ⟨HS.out.fx, by have h := HS.out.fb; rw [HNN.out] at h; exact h, by rw [recsJ_zero]; exact HS.out.own, HS.out.bel⟩
      clear HS
      obtain ⟨z0, z1, z2, z3, z4⟩ := cells5 HJ.out.fx
      by_cases h7 : x.k = 7
      · rw [h7] at q2
        rw [if_pos h7] at HPL
        clear z0 z2 z3 z4
        go_upto_region 8 with fail
        clear z1
        go_wp2
        go_loopw [9] (fun i wr => ∃ j : Nat, i = .int .i64 (j : Nat) ∧ j ≤ k ∧ MJ w wr x base X (X + 1) k g vc j) (fun i _ => k - (intOf i).toNat)
        case atStart => exact ⟨0, rfl, by omega, HJ.out⟩
        case round =>
          obtain ⟨j, rfl, hj, hmj⟩ := hrel
          have HM2 := hide hmj
          clear hmj
          obtain ⟨b0, b1, b2, b3, b4, b5⟩ := cells6 HM2.out.fb
          by_cases hjk : j < k
          · have hjki : (j : Int) < (k : Int) := by omega
            have hcell : wr.cell? ⟨g, j * 4 + 2, none⟩ = some (.string x.val) := by
              rw [HM2.out.own.cellAt (j * 4 + 2) (by omega), rcs_get _ j _ (recsJ_get base x.k x.val k j hjk) 2 (by omega)]
              rfl
            have hfr : wr.frozen? ⟨g, j * 4 + 2, none⟩ = false := HM2.out.own.frozenAt (j * 4 + 2)
            have HNX := hide (HM2.out.next hjk)
            clear b0 b1 b2 b3 b4
            have hj8 : j ≤ 8 := by have := HNq.out; have := HNN.out; omega
            have hwj : Hid (wrap64 ((j : Int) + 1) = ((j + 1 : Nat) : Int)) := by show wrap64 _ = _; unfold wrap64; omega
            go_upto_region 11 with fail
            go_wp2
            try rw [hwj.out]
            refine ⟨⟨j + 1, by first | rfl | simp, by omega, HNX.out⟩, ?_⟩
            simp [intOf]; omega
          · have hjk' : j = k := by omega
            subst hjk'
            have hjki : ¬ (j : Int) < (j : Int) := by omega
            have HPc := hide (HPL.out wr HM2.out)
            go_wp2_with fail
            refine HPc.out.mono ?_
            rintro e w6 ⟨rfl, hb6⟩
            have HB := hide hb6
            clear hb6 HPc
            go_wp2
            go_ret2
            exact ⟨rfl, HB.out⟩
      · rw [if_neg h7] at HPL
        obtain ⟨K, hK⟩ : ∃ K, x.k = K := ⟨_, rfl⟩
        rw [hK] at q2 h7
        have hne7 : ((K : Int) == 7) = false := by simp; omega
        obtain ⟨b0, b1, b2, b3, b4, b5⟩ := cells6 HJ.out.fb
        have HPc := hide (HPL.out wr HJ.out)
        clear z0 z2 z3 z4 hK
        go_wp2_with fail
        refine HPc.out.mono ?_
        rintro e w6 ⟨rfl, hb6⟩
        have HB := hide hb6
        clear hb6 HPc
        go_wp2
        go_ret2
        exact ⟨rfl, HB.out⟩
end Go.Proofs.YtcjlcieheepegaaGreatDoor
