/- InflateStored: the walk. -/
import Derived.Test.YtlhffiagfeokmaaDoorZs
namespace Go.Proofs.YtlhffiagfeokmaaDoor
open Go.RowKit
set_option linter.unusedVariables false

theorem toBA_append (A B : List Nat) : toBA (A ++ B) = toBA A ++ toBA B := by
  apply ByteArray.ext
  simp [toBA, ByteArray.data_append]
theorem toBA_bytesOf (s : ByteArray) : toBA (bytesOf s) = s := by
  apply ByteArray.ext
  apply Array.ext'
  have : (UInt8.ofNat ∘ UInt8.toNat) = id := by funext x; simp
  simp [toBA, bytesOf, this]
theorem bytesOf_bytes (s : ByteArray) : Bytes (bytesOf s) := by
  intro x hx
  obtain ⟨y, _, rfl⟩ := List.mem_map.1 hx
  exact UInt8.toNat_lt y
theorem bytesOf_length (s : ByteArray) : (bytesOf s).length = s.size := by simp [bytesOf]
theorem strCells_bytesOf (s : ByteArray) : Lib.strCells s = bcells (bytesOf s) := by simp [Lib.strCells, bcells, bytesOf]
def partOf (f : Nat → ByteArray) (k : Nat) : List Nat := if (f k).size ≤ 2000 then bytesOf (f k) else []
theorem partOf_bytes (f : Nat → ByteArray) (k : Nat) : Bytes (partOf f k) := by
  unfold partOf; split
  · exact bytesOf_bytes _
  · intro x hx; simp at hx
theorem partOf_len (f : Nat → ByteArray) (k : Nat) : (partOf f k).length ≤ 2000 := by
  unfold partOf; split
  · rename_i h; rw [bytesOf_length]; exact h
  · simp
theorem allZ_len (f : Nat → ByteArray) : ∀ k, (allZ (partOf f) k).length ≤ 2000 * k
  | 0 => by simp [allZ]
  | k + 1 => by
    have := allZ_len f k
    have := partOf_len f k
    show (allZ (partOf f) k ++ partOf f k).length ≤ _
    rw [List.length_append]; omega
theorem flatZ_len (f : Nat → ByteArray) : ∀ k, (flatZ (partOf f) k).length ≤ 2005 * k
  | 0 => by simp [flatZ]
  | k + 1 => by
    have := flatZ_len f k
    have := partOf_len f k
    show (flatZ (partOf f) k ++ (headZ (partOf f k).length ++ partOf f k)).length ≤ _
    rw [List.length_append, List.length_append]; simp [headZ]; omega
theorem news5 (W : World) (a b c d e : Value) (t : TypeId) : ∀ j u, [a, b, c, d, e][j]? = some u → (W.alloc (.cells #[a, b, c, d, e] t)).cell? ((⟨W.heap.size, 0, none⟩ : Addr).add j) = some u := by
  intro j u hj
  rw [text_at, Nat.zero_add]
  have hb := heap_alloc_new W (.cells #[a, b, c, d, e] t)
  unfold World.cell?
  rw [hb]
  match j, hj with
  | 0, hj => simpa using hj
  | 1, hj => simpa using hj
  | 2, hj => simpa using hj
  | 3, hj => simpa using hj
  | 4, hj => simpa using hj
  | j + 5, hj => simp at hj
theorem one5 (l : List Nat) : ∀ u ∈ bcells l, u.oneCell' = true := by
  intro u hu
  obtain ⟨x, _, rfl⟩ := List.mem_map.1 hu
  rfl
/-- What Inflate answers to all of them. -/
theorem inflate_flat (f : Nat → ByteArray) (N : Nat) (hN : N ≤ 40) (w : World) :
    Calls Tryd.prog 10 #[.string (toBA (flatZ (partOf f) N ++ endZ)), .int .i64 ((allZ (partOf f) N).length : Nat)] w fun e w' => e = .returned (.tuple #[.string (toBA (allZ (partOf f) N)), .int .i64 ((flatZ (partOf f) N ++ endZ).length : Nat), .int .i64 0]) ∧ Below w.heap.size w w' := by
  have hf : ∀ k, Bytes (partOf f k) := partOf_bytes f
  have hn : ∀ k, (partOf f k).length < 65536 := fun k => by have := partOf_len f k; omega
  have hl := allZ_len f N
  have hfl := flatZ_len f N
  have hsz : (toBA (flatZ (partOf f) N ++ endZ)).size = (flatZ (partOf f) N ++ endZ).length := toBA_size _
  have hzl : (flatZ (partOf f) N ++ endZ).length = (flatZ (partOf f) N).length + 5 := by simp [endZ]
  have h1 := inflate_ok noTold (fun p l => ∃ k, k ≤ N ∧ p = 8 * (flatZ (partOf f) k).length ∧ l = allZ (partOf f) k) (fun k => k < w.heap.size) (toBA (flatZ (partOf f) N ++ endZ)) (allZ (partOf f) N).length w (by omega) (by rw [hsz, hzl]; omega) (noTold_ok _) ⟨0, Nat.zero_le _, rfl, rfl⟩ (fun k hk => hk)
    (fun p l hJ _ _ _ hla => by
      obtain ⟨k, hk, rfl, rfl⟩ := hJ
      rcases Nat.lt_or_ge k N with h | h
      · obtain ⟨g1, g2, g3⟩ := flat_step hf hn noTold N k _ h (Nat.le_refl _)
        exact ⟨k + 1, h, by rw [g1], by rw [g1]⟩
      · obtain rfl : k = N := by omega
        obtain ⟨g1, g2, g3⟩ := flat_last hf hn noTold k _ (Nat.le_refl _)
        exact (hla g2).elim)
    (fun p l hJ h2 => by
      obtain ⟨k, hk, rfl, rfl⟩ := hJ
      rcases Nat.lt_or_ge k N with h | h
      · obtain ⟨g1, g2, g3⟩ := flat_step hf hn noTold N k _ h (Nat.le_refl _)
        rw [g3] at h2; omega
      · obtain rfl : k = N := by omega
        obtain ⟨g1, g2, g3⟩ := flat_last hf hn noTold k _ (Nat.le_refl _)
        rw [g3] at h2; omega)
  refine h1.mono fun e w' h => ⟨?_, h.2.toBelow⟩
  have h2 := flat_all hf hn N N 0 (by omega)
  rw [show 8 * (flatZ (partOf f) 0).length = 0 from rfl, Nat.sub_zero, show allZ (partOf f) 0 = [] from rfl] at h2
  rw [h.1, h2]
  unfold infR
  rw [if_pos rfl]
  show Ending.returned (.tuple #[.string (toBA (allZ (partOf f) N)), .int .i64 (((8 * (toBA (flatZ (partOf f) N ++ endZ)).size + 7) / 8 : Nat) : Int), .int .i64 0]) = _
  rw [hsz, show (8 * (flatZ (partOf f) N ++ endZ).length + 7) / 8 = (flatZ (partOf f) N ++ endZ).length by omega]
set_option maxRecDepth 20000 in
set_option maxHeartbeats 4000000 in
theorem stored_walk (a : Option Addr) (b off len cap : Nat) (f : Nat → ByteArray) (w : World) (hlen : len ≤ 9223372036854775807) (hst : len = 0 ∨ (a = some ⟨b, off, none⟩ ∧ StrsAt w b off len f)) :
    Calls Tryd.prog 7 #[.slice a len cap] w fun e w' => e = .returned (.bool true) ∧ Below w.heap.size w w' := by
  have HST : Hid (len = 0 ∨ (a = some ⟨b, off, none⟩ ∧ StrsAt w b off len f)) := hst
  have HAW : Hid (∀ W, Calls Tryd.prog 9 #[] W fun e w' => e = .returned (.bool true) ∧ Below W.heap.size W w') := awake_ok
  obtain ⟨i0, hi0, hz0, hz1, hz2⟩ := info_parts infoB
  have HI : Hid (_ ∧ _ ∧ _ ∧ _) := ⟨hi0, hz0, hz1, hz2⟩
  clear hst hi0 hz0 hz1 hz2
  go_enter Tryd.func7, Tryd.ntmps7
  go_wp2_with fail
  go_loopw [3, 4, 5] (fun v3 v4 v5 wr => ∃ (j : Nat) (t : ByteArray), v5 = .int .i64 j ∧ v4 = .string t ∧ j ≤ len ∧ j ≤ 40 ∧ t.size ≤ 80000 ∧ Hid (t = toBA (allZ (partOf f) j) ∧ wr.ownsRow w.heap.size 5 1 v3 (flatZ (partOf f) j).length (bcells (flatZ (partOf f) j)) ∧ Below w.heap.size w wr)) (fun _ _ v5 _ => 40 - (intOf v5).toNat)
  case atStart => exact ⟨0, ⟨#[]⟩, rfl, rfl, Nat.zero_le _, Nat.zero_le _, by decide, rfl, World.ownsRow_nil _ _ _ _, Below.refl _ _⟩
  case round =>
    obtain ⟨j, t, rfl, rfl, hj, hj40, ht, HS⟩ := hrel
    by_cases hlt : j < len ∧ j < 40
    · obtain ⟨hlt1, hlt2⟩ := hlt
      have hlti : (j : Int) < (len : Int) := by omega
      have hlti2 : (j : Int) < 40 := by omega
      obtain ⟨hA, hS⟩ : a = some ⟨b, off, none⟩ ∧ StrsAt w b off len f := by
        rcases HST.out with h | h
        · omega
        · exact h
      subst hA
      have hcell := hS.below HS.out.2.2 j hlt1
      obtain ⟨p, hp⟩ : ∃ p, f j = p := ⟨_, rfl⟩
      rw [hp] at hcell
      have hpb : p.size ≤ 4611686018427387904 := by rw [← hp]; exact hS.2.2 j hlt1
      have HP : Hid (f j = p) := hp
      clear hS hp
      by_cases hbig : 2000 < p.size
      · have hbi : (2000 : Int) < (p.size : Int) := by omega
        go_wp2_with fail
        refine (HAW.out _).mono ?_
        rintro e w4 ⟨rfl, hb4⟩
        have H4 : Hid (Below w.heap.size w w4) := HS.out.2.2.trans (hb4.mono HS.out.2.2.size)
        clear hb4
        go_wp2
        go_ret
        exact ⟨rfl, H4.out⟩
      · have hbi : ¬ (2000 : Int) < (p.size : Int) := by omega
        obtain ⟨n, hn⟩ : ∃ n, p.size = n := ⟨_, rfl⟩
        have hand : bits .and .i64 (n : Int) 255 = ((n % 256 : Nat) : Int) := by
          have := i64_mask 8 (by omega) (n : Int)
          simpa using this
        obtain ⟨A0, hA0⟩ : ∃ x, n % 256 = x := ⟨_, rfl⟩
        obtain ⟨A1, hA1⟩ : ∃ x, n / 256 = x := ⟨_, rfl⟩
        rw [hA0] at hand
        have hd1 : (n : Int) / 256 = (A1 : Int) := by omega
        have hd2 : (n : Int) / 2 ^ 8 = (A1 : Int) := by omega
        obtain ⟨A2, hA2⟩ : ∃ x, 255 - A0 = x := ⟨_, rfl⟩
        obtain ⟨A3, hA3⟩ : ∃ x, 255 - A1 = x := ⟨_, rfl⟩
        have hs1 : (255 : Int) - (A0 : Int) = (A2 : Int) := by omega
        have hs2 : (255 : Int) - (A1 : Int) = (A3 : Int) := by omega
        obtain ⟨ao, cq, hV⟩ : ∃ ao cq, u3 = .slice ao (flatZ (partOf f) j).length cq := by
          rcases HS.out.2.1.2 with ⟨e, h0⟩ | ⟨g, cq, cur, e, _⟩
          · exact ⟨none, 0, by rw [e, h0]⟩
          · exact ⟨_, _, e⟩
        obtain ⟨Q, hQ⟩ : ∃ Q, (flatZ (partOf f) j).length = Q := ⟨_, rfl⟩
        rw [hQ] at hV
        subst hV
        have HA : Hid (n % 256 = A0 ∧ n / 256 = A1 ∧ 255 - A0 = A2 ∧ 255 - A1 = A3 ∧ p.size = n ∧ (flatZ (partOf f) j).length = Q) := ⟨hA0, hA1, hA2, hA3, hn, hQ⟩
        have b0 : A0 < 256 := by omega
        have b1 : A1 < 256 := by omega
        have b2 : A2 < 256 := by omega
        have b3 : A3 < 256 := by omega
        have w0 : (A0 : Int) % 256 = (A0 : Int) := by omega
        have w1 : (A1 : Int) % 256 = (A1 : Int) := by omega
        have w2 : (A2 : Int) % 256 = (A2 : Int) := by omega
        have w3 : (A3 : Int) % 256 = (A3 : Int) := by omega
        clear hA0 hA1 hA2 hA3 hQ
        have hQb : Q + 2005 ≤ 100000 := by have := flatZ_len f j; rw [HA.out.2.2.2.2.2] at this; omega
        have HO1 : Hid (∀ o, (wr.alloc o).ownsRow w.heap.size 5 1 (.slice ao Q cq) Q (bcells (flatZ (partOf f) j)) ∧ w.heap.size ≤ (wr.alloc o).heap.size ∧ Below w.heap.size w (wr.alloc o)) := fun o => ⟨by have := HS.out.2.1.alloc o; rw [HA.out.2.2.2.2.2] at this; exact this, by have := HS.out.2.2.size; simp; omega, HS.out.2.2.alloc HS.out.2.2.size _⟩
        have hn2 : n ≤ 2000 := by omega
        go_wp2_with (at_builtin; refine wpList_append_own _ rfl _ _ 33 rfl w.heap.size 5 i0 (.int .u8 0) 1 1 Tryd.underlying33 HI.out.1 HI.out.2.1 HI.out.2.2.1 HI.out.2.2.2 rfl (by decide) (.slice ao Q cq) Q (bcells (flatZ (partOf f) j)) rfl (HO1.out _).1 ⟨wr.heap.size, 0, none⟩ 5 5 (bcells [0, A0, A1, A2, A3]) rfl rfl (news5 wr _ _ _ _ _ _) (one5 _) ?c1 ?c2 (HO1.out _).2.1 ?_)
        case c1 => unfold maxLen; omega
        case c2 => omega
        intro v1 x1 hown1 hgrow1 _
        have hbel1 : Below w.heap.size w x1 := (HO1.out _).2.2.trans (below_grown (HO1.out _).1 hgrow1 (HO1.out _).2.1)
        obtain ⟨ao1, cq1, hv1⟩ : ∃ ao cq, v1 = .slice ao (Q + 5) cq := by
          rcases hown1.2 with ⟨e, h0⟩ | ⟨g, cq, cur, e, _⟩
          · omega
          · exact ⟨_, _, e⟩
        subst hv1
        have HO2 : Hid (x1.ownsRow w.heap.size 5 1 (.slice ao1 (Q + 5) cq1) (Q + 5) (bcells (flatZ (partOf f) j) ++ bcells [0, A0, A1, A2, A3]) ∧ Below w.heap.size w x1) := ⟨hown1, hbel1⟩
        have HPS : Hid (p.size = n) := hn
        clear hown1 hgrow1 hbel1 hcell
        go_wp2_with (at_builtin; refine Lib.wpList_append_own_string _ rfl _ _ 33 9 rfl w.heap.size 5 i0 Tryd.underlying33 Tryd.underlying9 HI.out.1 HI.out.2.1 HI.out.2.2.1 HI.out.2.2.2 (.slice ao1 (Q + 5) cq1) (Q + 5) _ rfl HO2.out.1 p rfl ?c1 ?c2 HO2.out.2.size ?_)
        case c1 => unfold maxLen; omega
        case c2 => omega
        intro v2 x2 hown2 hgrow2 _
        have hbel2 : Below w.heap.size w x2 := HO2.out.2.trans (below_grown HO2.out.1 hgrow2 HO2.out.2.size)
        obtain ⟨ao2, ln2, cq2, hv2⟩ : ∃ ao ln cq, v2 = .slice ao ln cq := by
          rcases hown2.2 with ⟨e, h0⟩ | ⟨g, cq, cur, e, _⟩
          · exact ⟨_, _, _, e⟩
          · exact ⟨_, _, _, e⟩
        subst hv2
        have HN : Hid (t ++ p = toBA (allZ (partOf f) (j + 1)) ∧ x2.ownsRow w.heap.size 5 1 (.slice ao2 ln2 cq2) (flatZ (partOf f) (j + 1)).length (bcells (flatZ (partOf f) (j + 1))) ∧ Below w.heap.size w x2) := by
          obtain ⟨a0, a1, a2, a3, a4, a5⟩ := HA.out
          have hpart : partOf f j = bytesOf p := by unfold partOf; rw [HP.out, if_pos (by omega)]
          have hpl : (bytesOf p).length = n := by rw [bytesOf_length, a4]
          have hfl : flatZ (partOf f) (j + 1) = flatZ (partOf f) j ++ ([0, A0, A1, A2, A3] ++ bytesOf p) := by
            show flatZ (partOf f) j ++ (headZ (partOf f j).length ++ partOf f j) = _
            rw [hpart, hpl]; unfold headZ; rw [a0, a1, a2, a3]
          refine ⟨?_, ?_, hbel2⟩
          · show _ = toBA (allZ (partOf f) j ++ partOf f j)
            rw [toBA_append, hpart, toBA_bytesOf, HS.out.1]
          · rw [strCells_bytesOf] at hown2
            have e : (flatZ (partOf f) j ++ ([0, A0, A1, A2, A3] ++ bytesOf p)).length = Q + 5 + n := by simp only [List.length_append, List.length_cons, List.length_nil, a5, hpl]; omega
            rw [hfl, e, bcells_append, bcells_append]
            first | exact hown2 | (rw [← List.append_assoc]; exact hown2)
        have hts : (t ++ p).size ≤ 80000 := by
          rw [HN.out.1, toBA_size]
          have := allZ_len f (j + 1)
          omega
        clear hown2 hgrow2 hbel2
        go_wp2
        exact ⟨⟨j + 1, t ++ p, by go_num, rfl, by omega, by omega, hts, HN⟩, by simp [intOf]; omega⟩
    · have HNL : Hid (¬ (j < len ∧ j < 40)) := hlt
      obtain ⟨ao, cq, hV⟩ : ∃ ao cq, u3 = .slice ao (flatZ (partOf f) j).length cq := by
        rcases HS.out.2.1.2 with ⟨e, h0⟩ | ⟨g, cq, cur, e, _⟩
        · exact ⟨none, 0, by rw [e, h0]⟩
        · exact ⟨_, _, e⟩
      obtain ⟨Q, hQ⟩ : ∃ Q, (flatZ (partOf f) j).length = Q := ⟨_, rfl⟩
      rw [hQ] at hV
      subst hV
      have HQ : Hid ((flatZ (partOf f) j).length = Q) := hQ
      have hQb : Q ≤ 80200 := by have := flatZ_len f j; omega
      have HO1 : Hid (∀ o, (wr.alloc o).ownsRow w.heap.size 5 1 (.slice ao Q cq) Q (bcells (flatZ (partOf f) j)) ∧ w.heap.size ≤ (wr.alloc o).heap.size ∧ Below w.heap.size w (wr.alloc o)) := fun o => ⟨by have := HS.out.2.1.alloc o; rw [hQ] at this; exact this, by have := HS.out.2.2.size; simp; omega, HS.out.2.2.alloc HS.out.2.2.size _⟩
      have HT : Hid (t = toBA (allZ (partOf f) j)) := HS.out.1
      obtain ⟨TS, hTS⟩ : ∃ TS, t.size = TS := ⟨_, rfl⟩
      have HTS : Hid (t.size = TS ∧ (allZ (partOf f) j).length = TS) := ⟨hTS, by rw [← hTS, HT.out, toBA_size]⟩
      have HIN : Hid (∀ W, Calls Tryd.prog 10 #[.string (toBA (flatZ (partOf f) j ++ endZ)), .int .i64 (TS : Nat)] W fun e w' => e = .returned (.tuple #[.string t, .int .i64 ((Q + 5 : Nat) : Int), .int .i64 0]) ∧ Below W.heap.size W w') := fun W => by
        have := inflate_flat f j hj40 W
        rw [HTS.out.2, ← HT.out, show (flatZ (partOf f) j ++ endZ).length = Q + 5 by rw [List.length_append, hQ]; rfl] at this
        exact this
      clear hQ HS
      by_cases h1 : j < len
      · have h1i : (j : Int) < (len : Int) := by omega
        have h2i : ¬ (j : Int) < 40 := by omega
        go_wp2_with (at_builtin; refine wpList_append_own _ rfl _ _ 33 rfl w.heap.size 5 i0 (.int .u8 0) 1 1 Tryd.underlying33 HI.out.1 HI.out.2.1 HI.out.2.2.1 HI.out.2.2.2 rfl (by decide) (.slice ao Q cq) Q (bcells (flatZ (partOf f) j)) rfl (HO1.out _).1 ⟨wr.heap.size, 0, none⟩ 5 5 (bcells endZ) rfl rfl (news5 wr _ _ _ _ _ _) (one5 _) ?c1 ?c2 (HO1.out _).2.1 ?_)
        case c1 => unfold maxLen; omega
        case c2 => omega
        intro v1 x1 hown1 hgrow1 _
        have hbel1 : Below w.heap.size w x1 := (HO1.out _).2.2.trans (below_grown (HO1.out _).1 hgrow1 (HO1.out _).2.1)
        obtain ⟨ao1, cq1, hv1⟩ : ∃ ao cq, v1 = .slice ao (Q + 5) cq := by
          rcases hown1.2 with ⟨e, h0⟩ | ⟨g, cq, cur, e, _⟩
          · omega
          · exact ⟨_, _, e⟩
        subst hv1
        have hconv := fun hb => conv_row x1 33 9 5 w.heap.size (.slice ao1 (Q + 5) cq1) (flatZ (partOf f) j ++ endZ) Tryd.underlying33 Tryd.underlying5 Tryd.underlying9 (by rw [show (flatZ (partOf f) j ++ endZ).length = Q + 5 by rw [List.length_append, HQ.out]; rfl]; show x1.ownsRow _ _ _ _ _ (bcells (flatZ (partOf f) j ++ endZ)); rw [bcells_append]; exact hown1) hb
        have hconv := hconv (fun x hx => by
          rcases List.mem_append.1 hx with h | h
          · exact flatZ_bytes _ (partOf_bytes f) (fun k => by have := partOf_len f k; omega) _ x h
          · simp only [endZ, List.mem_cons, List.not_mem_nil, or_false] at h; omega)
        obtain ⟨zz, hzz⟩ : ∃ z, toBA (flatZ (partOf f) j ++ endZ) = z := ⟨_, rfl⟩
        rw [hzz] at hconv HIN
        have HB1 : Hid (Below w.heap.size w x1) := hbel1
        clear hown1 hgrow1 hbel1 hzz
        go_wp2_with fail
        refine (HIN.out _).mono ?_
        rintro e x2 ⟨rfl, hb2⟩
        have HB2 : Hid (Below w.heap.size w x2) := HB1.out.trans (hb2.mono HB1.out.size)
        clear hb2
        go_wp2_with fail
        refine (HAW.out _).mono ?_
        rintro e x3 ⟨rfl, hb3⟩
        have HB3 : Hid (Below w.heap.size w x3) := HB2.out.trans (hb3.mono HB2.out.size)
        clear hb3
        go_wp2
        go_ret
        exact ⟨rfl, HB3.out⟩
      · have h1i : ¬ (j : Int) < (len : Int) := by omega
        go_wp2_with (at_builtin; refine wpList_append_own _ rfl _ _ 33 rfl w.heap.size 5 i0 (.int .u8 0) 1 1 Tryd.underlying33 HI.out.1 HI.out.2.1 HI.out.2.2.1 HI.out.2.2.2 rfl (by decide) (.slice ao Q cq) Q (bcells (flatZ (partOf f) j)) rfl (HO1.out _).1 ⟨wr.heap.size, 0, none⟩ 5 5 (bcells endZ) rfl rfl (news5 wr _ _ _ _ _ _) (one5 _) ?c1 ?c2 (HO1.out _).2.1 ?_)
        case c1 => unfold maxLen; omega
        case c2 => omega
        intro v1 x1 hown1 hgrow1 _
        have hbel1 : Below w.heap.size w x1 := (HO1.out _).2.2.trans (below_grown (HO1.out _).1 hgrow1 (HO1.out _).2.1)
        obtain ⟨ao1, cq1, hv1⟩ : ∃ ao cq, v1 = .slice ao (Q + 5) cq := by
          rcases hown1.2 with ⟨e, h0⟩ | ⟨g, cq, cur, e, _⟩
          · omega
          · exact ⟨_, _, e⟩
        subst hv1
        have hconv := fun hb => conv_row x1 33 9 5 w.heap.size (.slice ao1 (Q + 5) cq1) (flatZ (partOf f) j ++ endZ) Tryd.underlying33 Tryd.underlying5 Tryd.underlying9 (by rw [show (flatZ (partOf f) j ++ endZ).length = Q + 5 by rw [List.length_append, HQ.out]; rfl]; show x1.ownsRow _ _ _ _ _ (bcells (flatZ (partOf f) j ++ endZ)); rw [bcells_append]; exact hown1) hb
        have hconv := hconv (fun x hx => by
          rcases List.mem_append.1 hx with h | h
          · exact flatZ_bytes _ (partOf_bytes f) (fun k => by have := partOf_len f k; omega) _ x h
          · simp only [endZ, List.mem_cons, List.not_mem_nil, or_false] at h; omega)
        obtain ⟨zz, hzz⟩ : ∃ z, toBA (flatZ (partOf f) j ++ endZ) = z := ⟨_, rfl⟩
        rw [hzz] at hconv HIN
        have HB1 : Hid (Below w.heap.size w x1) := hbel1
        clear hown1 hgrow1 hbel1 hzz
        go_wp2_with fail
        refine (HIN.out _).mono ?_
        rintro e x2 ⟨rfl, hb2⟩
        have HB2 : Hid (Below w.heap.size w x2) := HB1.out.trans (hb2.mono HB1.out.size)
        clear hb2
        go_wp2_with fail
        refine (HAW.out _).mono ?_
        rintro e x3 ⟨rfl, hb3⟩
        have HB3 : Hid (Below w.heap.size w x3) := HB2.out.trans (hb3.mono HB2.out.size)
        clear hb3
        go_wp2
        go_ret
        exact ⟨rfl, HB3.out⟩
end Go.Proofs.YtlhffiagfeokmaaDoor
