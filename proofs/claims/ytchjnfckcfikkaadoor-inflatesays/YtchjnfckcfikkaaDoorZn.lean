/- Inflate. -/
import Derived.Test.YtchjnfckcfikkaaDoorZm
import Derived.Test.YtchjnfckcfikkaaDoorWn
namespace Go.Proofs.YtchjnfckcfikkaaDoor
open Go.RowKit
set_option linter.unusedVariables false

def Bytes (l : List Nat) : Prop := ∀ x ∈ l, x < 256
theorem copyL_bytes {d : Nat} : ∀ (n : Nat) {l : List Nat}, Bytes l → Bytes (copyL d n l)
  | 0, l, h => h
  | n + 1, l, h => copyL_bytes n (fun x hx => by
    rcases List.mem_append.1 hx with h1 | h1
    · exact h x h1
    · rw [List.mem_singleton.1 h1, List.getD_eq_getElem?_getD]
      by_cases hi : l.length - d < l.length
      · rw [List.getElem?_eq_getElem hi]; exact h _ (List.getElem_mem hi)
      · rw [List.getElem?_eq_none (by omega)]; simp)
theorem repF_bytes {p : Nat} {l : List Nat} {most n d : Nat} (h : Bytes l) : Bytes (repF p l most n d).2.2 := by
  unfold repF
  split
  · exact h
  · split
    · exact h
    · exact copyL_bytes n h
theorem packF_bytes (c d : List Nat) (s : ByteArray) (most : Nat) : ∀ (k p : Nat) (l : List Nat), Bytes l → Bytes (packF c d s most k p l).2.2
  | 0, p, l, h => h
  | k + 1, p, l, h => by
    unfold packF
    split
    · exact h
    · split
      · rename_i hy
        split
        · exact h
        · exact packF_bytes c d s most k _ _ (fun x hx => by
            rcases List.mem_append.1 hx with h1 | h1
            · exact h x h1
            · rw [List.mem_singleton.1 h1]; exact hy)
      · split
        · exact h
        · split
          · exact h
          · split
            · exact h
            · split
              · exact h
              · exact packF_bytes c d s most k _ _ (repF_bytes h)
theorem storedF_bytes {s : ByteArray} {p : Nat} {l : List Nat} {most : Nat} (h : Bytes l) : Bytes (storedF s p l most).2.2 := by
  unfold storedF
  simp only
  split
  · exact h
  · split
    · exact h
    · split
      · exact h
      · split
        · exact h
        · split
          · exact h
          · intro x hx
            rcases List.mem_append.1 hx with h1 | h1
            · exact h x h1
            · obtain ⟨y, _, rfl⟩ := List.mem_map.1 h1
              exact UInt8.toNat_lt y
theorem blockF_bytes {told : Nat → Nat × Nat × List Nat × List Nat} {s : ByteArray} {most p : Nat} {l : List Nat} (h : Bytes l) : Bytes (blockF told s most p l).2.2 := by
  unfold blockF
  split
  · exact h
  · split
    · exact h
    · split
      · exact storedF_bytes h
      · split
        · exact packF_bytes _ _ _ _ _ _ _ h
        · split
          · split
            · exact h
            · exact packF_bytes _ _ _ _ _ _ _ h
          · exact h
theorem blocksF_bytes {told : Nat → Nat × Nat × List Nat × List Nat} {s : ByteArray} {most : Nat} : ∀ (k p : Nat) (l : List Nat), Bytes l → Bytes (blocksF told s most k p l).2.2
  | 0, p, l, h => h
  | k + 1, p, l, h => by
    unfold blocksF
    split
    · exact h
    · split
      · exact blockF_bytes h
      · exact blocksF_bytes k _ _ (blockF_bytes h)
/-- What Inflate answers: the plain bytes, how many bytes it took, the error. -/
def infR (r : Nat × Nat × List Nat) : Value := if r.1 = 0 then .tuple #[.string (toBA r.2.2), .int .i64 (((r.2.1 + 7) / 8 : Nat) : Int), .int .i64 0] else .tuple #[.string ⟨#[]⟩, .int .i64 0, .int .i64 ((r.1 : Nat) : Int)]
theorem inflate_arg (s : ByteArray) (most : Int) (w : World) (h : most < 0 ∨ 1048576 < most) : Calls Tryd.prog 10 #[.string s, .int .i64 most] w fun e w' => e = .returned (.tuple #[.string ⟨#[]⟩, .int .i64 0, .int .i64 1]) ∧ ∃ k, w' = w.drewN k := by
  by_cases h1 : most < 0
  · have hd : decide (most < 0) = true := by simp [h1]
    go_enter Tryd.func10, Tryd.ntmps10
    go_wp2
    go_ret3
    exact ⟨rfl, 0, rfl⟩
  · have h2 : 1048576 < most := by omega
    have hd : decide (most < 0) = false := by simp; omega
    go_enter Tryd.func10, Tryd.ntmps10
    go_wp2
    go_ret3
    exact ⟨rfl, 0, rfl⟩
set_option maxRecDepth 20000 in
set_option maxHeartbeats 4000000 in
theorem inflate_ok (told : Nat → Nat × Nat × List Nat × List Nat) (J : Nat → List Nat → Prop) (K : Nat → Prop) (s : ByteArray) (most : Nat) (w : World) (hm : most ≤ 1048576) (hs : s.size ≤ 281474976710656) (ht : ToldOK told s) (hJ : J 0 []) (hK : ∀ k, K k → k < w.heap.size)
    (hJs : ∀ p l, J p l → l.length ≤ most → p ≤ 8 * s.size → (blockF told s most p l).1 = 0 → num s p 1 ≠ 1 → J (blockF told s most p l).2.1 (blockF told s most p l).2.2)
    (hT : ∀ p l, J p l → num s (p + 1) 2 = 2 → ∀ W K' u b v f1 f2, (∀ k, K k → K' k) → UF K w W → US W K' u b s (p + 3) l most v f1 f2 → Calls Tryd.prog 45 #[.pointer (some ⟨u, 0, none⟩)] W fun e w' => ToldEnd K' u b s l most v f1 f2 W (told (p + 3)) e w') :
    Calls Tryd.prog 10 #[.string s, .int .i64 most] w fun e w' => e = .returned (infR (blocksF told s most (8 * s.size + 1) 0 [])) ∧ UF K w w' := by
  obtain ⟨r, hr⟩ : ∃ r, blocksF told s most (8 * s.size + 1) 0 [] = r := ⟨_, rfl⟩
  rw [hr]
  have HNR : Hid (∀ W, Calls Tryd.prog 18 #[.string s] W fun e w' => ∃ b, e = .returned (.pointer (some ⟨b, 0, none⟩)) ∧ W.heap.size ≤ b ∧ b < w'.heap.size ∧ w'.heap[b]? = some (.cells #[.pointer (some ⟨b, 0, none⟩), .string s, .int .i64 0] 67 (0, 0)) ∧ Below W.heap.size W w') := fun W => newReader s W hs
  have H0 : Hid (blocksF told s most (8 * s.size + 1) 0 [] = r ∧ ToldOK told s ∧ J 0 [] ∧ (∀ k, K k → k < w.heap.size)) := ⟨hr, ht, hJ, hK⟩
  have HJS : Hid _ := hJs
  have HT : Hid _ := hT
  have hmi : ¬ (1048576 : Int) < (most : Int) := by omega
  have hm0 : decide ((most : Int) < 0) = false := by simp
  have hm1 : ¬ (most : Int) < 0 := by omega
  clear hr ht hJ hK hJs hT
  go_enter Tryd.func10, Tryd.ntmps10
  go_wp2_with fail
  refine (HNR.out w).mono ?_
  rintro e w1 ⟨b, rfl, hb1, hb2, hb3, hb4⟩
  have hUS : US (w1.alloc (.cells #[.pointer (some ⟨b, 0, none⟩), .slice none 0 0, .int .i64 (most : Nat), .pointer none, .pointer none] 51)) K w1.heap.size b s 0 [] most (.slice none 0 0) (.pointer none) (.pointer none) := by
    have hkb := H0.out.2.2.2
    have h1 := hb4.size
    refine ⟨heap_alloc_new _ _, World.ownsRow_nil _ _ _ _, ?_, Nat.zero_le _, hs, fun k hk => ?_, fun hk => ?_, fun hk => ?_, fun g hg => by simp [Value.ownBlock] at hg⟩
    · show _ = _
      rw [heap_alloc_old _ _ hb2]; exact hb3
    · have := hkb k hk; simp; omega
    · have := hkb _ hk; omega
    · have := hkb _ hk; omega
  have hUF : UF K w (w1.alloc (.cells #[.pointer (some ⟨b, 0, none⟩), .slice none 0 0, .int .i64 (most : Nat), .pointer none, .pointer none] 51)) := UF.below (hb4.alloc hb4.size _) H0.out.2.2.2
  have HBL := blocksOf_ok told J _ K w1.heap.size b s 0 [] most _ _ _ hUS (.inl ⟨rfl, rfl⟩) hm (Nat.zero_le _) H0.out.2.1 H0.out.2.2.1 HJS.out (fun p l hJ hn W K' v f1 f2 hk hf hu => HT.out p l hJ hn W K' w1.heap.size b v f1 f2 hk (hUF.trans hf) hu)
  rw [Nat.sub_zero, H0.out.1] at HBL
  obtain ⟨u, hu⟩ : ∃ u, w1.heap.size = u := ⟨_, rfl⟩
  have HBL : Hid (∀ _ : Unit, Calls Tryd.prog 19 #[.pointer (some ⟨w1.heap.size, 0, none⟩)] (w1.alloc (.cells #[.pointer (some ⟨b, 0, none⟩), .slice none 0 0, .int .i64 (most : Nat), .pointer none, .pointer none] 51)) fun e w' => ∃ q, e = .returned (.int .i64 (q : Nat)) ∧ UF K w w' ∧ q = r.1 ∧ (q = 0 → ∃ v f1 f2, US w' K w1.heap.size b s r.2.1 r.2.2 most v f1 f2)) := fun _ => HBL.mono fun e w' hh => by
    obtain ⟨q, g1, g2, g3, g4⟩ := hh
    exact ⟨q, g1, hUF.trans g2, g3, g4⟩
  clear hb1 hb2 hb3 hb4 hUS hUF HNR HT HJS hu
  go_wp2_with fail
  refine (HBL.out ()).mono ?_
  rintro e w2 ⟨q, rfl, hf, hq, hU⟩
  by_cases q0 : q = 0
  · obtain ⟨v, f1, f2, hU⟩ := hU q0
    obtain ⟨c0, c1, _⟩ := hU.cells
    have hle := hU.le
    have hbytes : Bytes r.2.2 := by rw [← H0.out.1]; exact blocksF_bytes _ _ _ (fun x hx => by simp at hx)
    have hconv : (convert 33 9 v).run Tryd.prog w2 = .ok (.string (toBA r.2.2)) w2 := conv_row w2 _ _ 5 0 v r.2.2 Tryd.underlying33 Tryd.underlying5 Tryd.underlying9 hU.own hbytes
    obtain ⟨ao, cp, hv⟩ := hU.form
    have HPC : Hid (∀ _ : Unit, Calls Tryd.prog 20 #[.pointer (some ⟨b, 0, none⟩)] w2 fun e w' => e = .returned (.int .i64 (r.2.1 : Nat)) ∧ w' = w2) := fun _ => rplace b r.2.1 w2 hU.rs.cells.1 hU.rs.cells.2.2.1
    obtain ⟨P, hP⟩ : ∃ P, r.2.1 = P := ⟨_, rfl⟩
    rw [hP] at HPC hle
    have hPi : ((P : Int) + 8 - 1) / 8 = (((P + 7) / 8 : Nat) : Int) := by omega
    have hPi2 : ((P : Int) + 7) / 8 = (((P + 7) / 8 : Nat) : Int) := by omega
    have HRR : Hid (infR r = .tuple #[.string (toBA r.2.2), .int .i64 (((P + 7) / 8 : Nat) : Int), .int .i64 0]) := by
      show _ = _
      unfold infR
      rw [if_pos (by rw [← hq]; exact q0), hP]
    obtain ⟨T, hT⟩ : ∃ T, toBA r.2.2 = T := ⟨_, rfl⟩
    rw [hT] at hconv HRR
    have HF : Hid (UF K w w2) := hf
    subst q0
    clear hU hq hf hbytes hP hT HBL hv
    go_wp2_with (go_at_call 20; refine (HPC.out ()).mono ?_; rintro e w3 ⟨rfl, hw⟩; obtain rfl := hw.symm; clear hw)
    go_ret3
    rw [HRR.out, ← hPi]
    exact ⟨rfl, HF.out⟩
  · have q0i : ((q : Int) != 0) = true := by simp; omega
    have HRR : Hid (infR r = .tuple #[.string ⟨#[]⟩, .int .i64 0, .int .i64 (q : Nat)]) := by
      show _ = _
      unfold infR
      rw [if_neg (by rw [← hq]; exact q0), hq]
    have HF : Hid (UF K w w2) := hf
    clear hU hq hf HBL
    go_wp2
    go_ret3
    rw [HRR.out]
    exact ⟨rfl, HF.out⟩
end Go.Proofs.YtchjnfckcfikkaaDoor
