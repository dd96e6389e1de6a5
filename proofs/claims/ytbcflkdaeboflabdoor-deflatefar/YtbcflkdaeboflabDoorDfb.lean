/- Layer 5: DeflateFar. -/
import Derived.Test.YtbcflkdaeboflabDoorDfa
namespace Go.Proofs.YtbcflkdaeboflabDoor
open Go.RowKit
set_option linter.unusedVariables false
set_option maxRecDepth 20000

theorem wpList_BR {ops : Array Oper} {rest : List Oper} {o : Oper} {a : Act} {Q : Exit → Act → World → Prop} {w0 w : World} {B : Nat} {v : Value} {l k : List Nat} (hgd : o.guard = none) (s x : Operand) (tx : TypeId)
    (ho : o.op = .call { callee := .builtin .append, args := #[s, x], argTypes := #[23, tx] }) (hs : a.eval s = v) (h : BR w0 B v l w) (xv : Value) (hx : a.eval x = xv) (hsrc : Src Tryd.prog 1 tx xv k.length (bcells k) w) (hk : ∀ y ∈ k, y < 256) (hlen : l.length + k.length ≤ 1000000)
    (K : ∀ v' w', BR w0 B v' (l ++ k) w' → wpList Tryd.prog ops Q rest (a.put o.dst v') w') : wpList Tryd.prog ops Q (o :: rest) a w := by
  refine wpList_plain hgd fun K' hK => ?_
  obtain ⟨v', w', hr, h2⟩ := h.app tx o.type xv hsrc hk hlen
  unfold Oper.wp execOp
  simp only [ho, resolve, invoke, builtin, Sem.run_bind, Sem.run_pure, Result.andThen_ok, List.map_toArray, List.map_cons, List.map_nil, hs, hx, hr]
  exact hK _ _ (K v' w' h2)
theorem mask_of (k : Nat) (hk : k ≤ 62) (n : Int) : ∃ K : Nat, K < 2 ^ k ∧ bits .and .i64 n ((2 ^ k - 1 : Nat) : Int) = (K : Int) := by
  have h := i64_mask k hk n
  have hp : 0 < 2 ^ k := Nat.pos_of_ne_zero (by simp)
  have hp2 : (0 : Int) < ((2 ^ k : Nat) : Int) := by omega
  have h1 := Int.emod_nonneg n (show ((2 ^ k : Nat) : Int) ≠ 0 by omega)
  have h2 := Int.emod_lt_of_pos n hp2
  exact ⟨(n % ((2 ^ k : Nat) : Int)).toNat, by omega, by rw [h]; omega⟩
theorem mask15 (n : Int) : ∃ K : Nat, K < 32768 ∧ bits .and .i64 n 32767 = (K : Int) := by
  obtain ⟨K, h1, h2⟩ := mask_of 15 (by omega) n
  exact ⟨K, h1, h2⟩
theorem mask31 (n : Int) : ∃ K : Nat, K < 2147483648 ∧ bits .and .i64 n 2147483647 = (K : Int) := by
  obtain ⟨K, h1, h2⟩ := mask_of 31 (by omega) n
  exact ⟨K, h1, h2⟩
theorem mask1 (n : Int) : ∃ K : Nat, K < 2 ∧ bits .and .i64 n 1 = (K : Int) := by
  obtain ⟨K, h1, h2⟩ := mask_of 1 (by omega) n
  exact ⟨K, h1, h2⟩
theorem far_nums {x : Nat} (hx : x < 2147483648) : ∃ p q : Nat, (x : Int) * 1103515245 = (p : Int) ∧ IntKind.i64.wrap (p : Int) = (p : Int) ∧ (p : Int) + 12345 = (q : Int) ∧ IntKind.i64.wrap (q : Int) = (q : Int) :=
  ⟨x * 1103515245, x * 1103515245 + 12345, by omega, D5.wrapN _ (by omega), by omega, D5.wrapN _ (by omega)⟩
theorem one_src (w : World) (d : Nat) : Src Tryd.prog 1 23 (.slice (some ⟨w.heap.size, 0, none⟩) 1 1) [d].length (bcells [d]) (w.alloc (.cells #[.int .u8 (d : Nat)] 5)) := by
  refine Src.ofSlice _ Tryd.underlying23 ⟨w.heap.size, 0, none⟩ 1 1 (bcells [d]) rfl (fun j u hu => ?_) (bcells_oneF _)
  have h := heap_alloc_new w (.cells #[.int .u8 (d : Nat)] 5)
  rw [D5.add_zero_addr]
  unfold World.cell?
  rw [h]
  match j, hu with
  | 0, hu => exact hu
theorem BR.conv {w0 w : World} {B : Nat} {v : Value} {l : List Nat} (h : BR w0 B v l w) : (convert 23 9 v).run Tryd.prog w = .ok (.string (toBA l)) w := by
  obtain ⟨g, cap, rfl, h2, h3, h4, h5, h6, h7, h8, h9⟩ := h
  have hlen : (l.map UInt8.ofNat).length = l.length := by simp
  have := run_convert_bytes_back (P := Tryd.prog) w 23 9 5 ⟨g, 0, none⟩ cap (l.map UInt8.ofNat) Tryd.underlying23 Tryd.underlying5 Tryd.underlying9 (fun j hj => by
    have hj' : j < l.length := by simpa using hj
    have hx := h7 l[j] (List.getElem_mem hj')
    rw [D5.add_zero_addr, h5 j hj', List.getD_eq_getElem?_getD, List.getElem?_eq_getElem hj']
    simp
    omega)
  rw [hlen] at this
  exact this
set_option maxHeartbeats 8000000 in
theorem far_walk (s : ByteArray) (between : Int) (w : World) (hs : s.size ≤ 140737488351232) (ho : OrdAt w) :
    Calls Tryd.prog 3 #[.string s, .int .i64 between] w fun e w' => e = .returned (.bool true) ∧ Below w.heap.size w w' := by
  have HA : Hid (∀ W, OrdAt W → Calls Tryd.prog 4 #[] W fun e w' => e = .returned (.bool true) ∧ Below W.heap.size W w') := fun W h => awake5_ok W h
  have HO : Hid (OrdAt w) := ho
  clear ho
  by_cases h0 : s.size = 0
  · have hb0 : ((s.size : Int) == 0) = true := by simp [h0]
    go_enter Tryd.func3, Tryd.ntmps3
    go_wp2_with fail
    refine (HA.out w HO.out).mono ?_
    rintro e w1 ⟨he, b1⟩
    subst he
    have B1 : Hid (Below w.heap.size w w1) := b1
    clear b1
    go_wp2
    go_ret
    exact ⟨rfl, B1.out⟩
  have hb0 : ((s.size : Int) == 0) = false := by simp only [beq_eq_false_iff_ne, ne_eq]; omega
  by_cases hlt : 200 < s.size
  · have hlti : (200 : Int) < (s.size : Int) := by omega
    go_enter Tryd.func3, Tryd.ntmps3
    go_wp2_with fail
    refine (HA.out w HO.out).mono ?_
    rintro e w1 ⟨he, b1⟩
    subst he
    have B1 : Hid (Below w.heap.size w w1) := b1
    clear b1
    go_wp2
    go_ret
    exact ⟨rfl, B1.out⟩
  have hlti : ¬ (200 : Int) < (s.size : Int) := by omega
  have HS : Hid (1 ≤ s.size ∧ s.size ≤ 200) := ⟨by omega, by omega⟩
  obtain ⟨N, hN, hNe⟩ := mask15 between
  obtain ⟨v1, w1, hcv, hbr⟩ := BR.of s w
  obtain ⟨B, hB⟩ : ∃ B, w.heap.size = B := ⟨_, rfl⟩
  rw [hB] at hbr
  have HBB : Hid (w.heap.size = B) := hB
  have H1 : Hid (BR w B v1 (bytesL s) w1) := hbr
  clear hbr hB h0 hlt
  go_enter Tryd.func3, Tryd.ntmps3
  go_upto_block 0 with fail
  clear hcv hNe
  go_cut [6] (fun v6 wc => Hid (∃ l, l.length = s.size + N ∧ BR w B v6 l wc))
  case first =>
    as_aux_lemma =>
      go_wp2_with fail
      go_loopw [6, 7, 8] (fun v6 v7 v8 wr => ∃ x i : Nat, v7 = .int .i64 (x : Nat) ∧ x < 2147483648 ∧ v8 = .int .i64 (i : Nat) ∧ i ≤ N ∧ Hid (∃ l, l.length = s.size + i ∧ BR w B v6 l wr)) (fun _ _ v8 _ => N - (intOf v8).toNat)
      case atStart => exact ⟨12345, 0, rfl, by omega, rfl, Nat.zero_le _, bytesL s, bytesL_length s, H1.out⟩
      case round =>
        obtain ⟨x, i, rfl, hx, rfl, hi, HR⟩ := hrel
        by_cases hl : i < N
        · have hli : (i : Int) < (N : Int) := by omega
          obtain ⟨p, q, n1, n2, n3, n4⟩ := far_nums hx
          obtain ⟨x2, hx2, hbits⟩ := mask31 (q : Int)
          obtain ⟨y, hy⟩ : ∃ y, x2 / 65536 = y := ⟨_, rfl⟩
          have hyi : (x2 : Int) / 65536 = (y : Int) := by omega
          have hyb : y < 32768 := by omega
          obtain ⟨c, hc, hbit⟩ := mask1 (y : Int)
          obtain ⟨d, hd⟩ : ∃ d, c + 48 = d := ⟨_, rfl⟩
          have hdi : (c : Int) + 48 = (d : Int) := by omega
          have hdb : d < 256 := by omega
          have HX : Hid (True ∧ x2 < 2147483648 ∧ d < 256 ∧ i < N ∧ i ≤ N ∧ N < 32768) := ⟨trivial, hx2, hdb, hl, hi, hN⟩
          have HBT : Hid (bits .and .i64 (q : Int) 2147483647 = (x2 : Int) ∧ bits .and .i64 (y : Int) 1 = (c : Int)) := ⟨hbits, hbit⟩
          clear hy hd hbit
          go_upto_region 10 with fail
          clear hbits n1 n2 n3 n4 hx
          have hbit := HBT.out.2
          obtain ⟨l, hll, hob⟩ := HR.out
          have HOW : Hid (∀ o, BR w B u6 l (wr.alloc o)) := fun o => hob.quiet ((Below.refl _ _).alloc (Nat.le_refl _) _)
          have HLL : Hid (l.length = s.size + i) := hll
          clear hll hob HR hx2 hl hi hN
          go_wp2_with (at_builtin; refine wpList_BR (k := [d]) rfl _ _ 23 rfl rfl (HOW.out _) _ rfl (one_src wr d) ?k1 ?k2 ?_)
          case k1 => intro z hz; rw [List.mem_singleton] at hz; rw [hz]; exact HX.out.2.2.1
          case k2 => have h1 := HLL.out; have h2 := HS.out; have h3 := HX.out.2.2.2; clear hbit; simp only [List.length_singleton]; omega
          intro v2 w2 hbr2
          have HF : Hid (∃ l', l'.length = s.size + (i + 1) ∧ BR w B v2 l' w2) := ⟨l ++ [d], by rw [List.length_append, HLL.out]; rfl, hbr2⟩
          obtain ⟨i2, hi2⟩ : ∃ i2, i + 1 = i2 := ⟨_, rfl⟩
          have hi2i : (i : Int) + 1 = (i2 : Int) := by omega
          have hi2w := D5.wrapN i2 (by have := HX.out.2.2.2; clear hbit; omega)
          rw [hi2] at HF
          have HI2 : Hid (i + 1 = i2) := hi2
          clear hbr2 hbit HOW HLL hdi hdb hyi hi2
          go_wp2
          have h4 := HX.out.2.2.2
          have h5 := HI2.out
          clear hi2w
          refine ⟨⟨x2, i2, rfl, HX.out.2.1, rfl, by omega, HF⟩, ?_⟩
          simp [intOf]
          omega
        · have hli : ¬ (i : Int) < (N : Int) := by omega
          have HE : Hid (∃ l, l.length = s.size + N ∧ BR w B u6 l wr) := by
            obtain ⟨l, h1, h2⟩ := HR.out
            have e : i = N := by omega
            rw [e] at h1
            exact ⟨l, h1, h2⟩
          clear HR
          go_wp2_with fail
          go_meet
          case rel => exact HE.out
  case rest =>
    obtain ⟨l, hll, hob⟩ := hcut.out
    have HOB : Hid (BR w B u6 l wc ∧ l.length = s.size + N ∧ N < 32768) := ⟨hob, hll, hN⟩
    have HSR : Hid (Src Tryd.prog 1 9 (.string s) (bytesL s).length (bcells (bytesL s)) wc) := by
      have h1 := Src.ofString (P := Tryd.prog) wc (tx := 9) Tryd.underlying9 s
      have e1 : byteCells s = bcells (bytesL s) := by simp [byteCells, bcells, bytesL]
      rw [e1, ← bytesL_length s] at h1
      exact h1
    clear hcut hll hob H1 hN
    go_wp2_with (at_builtin; refine wpList_BR (k := bytesL s) rfl _ _ 9 rfl rfl HOB.out.1 _ rfl HSR.out ?k1 ?k2 ?_)
    case k1 => intro z hz; obtain ⟨y, _, rfl⟩ := List.mem_map.1 hz; exact UInt8.toNat_lt y
    case k2 => have h1 := HOB.out; have h2 := HS.out; rw [bytesL_length]; omega
    intro v2 w2 hbr2
    obtain ⟨A, hA⟩ : ∃ A, toBA (l ++ bytesL s) = A := ⟨_, rfl⟩
    have hcv := hbr2.conv
    rw [hA] at hcv
    have hAs : A.size = s.size + N + s.size := by
      rw [← hA]
      have : (toBA (l ++ bytesL s)).size = (l ++ bytesL s).length := by simp [toBA, ByteArray.size]
      rw [this, List.length_append, HOB.out.2.1, bytesL_length]
    have HW2 : Hid (Below w.heap.size w w2) := by
      obtain ⟨_, _, _, _, _, _, _, _, _, h8, _⟩ := hbr2
      rw [HBB.out]; exact h8
    have HAS : Hid (A.size ≤ 40000) := by have h1 := HOB.out; have h2 := HS.out; exact (by omega : A.size ≤ 40000)
    have HC : Hid (∀ _ : Unit, Calls Tryd.prog 5 #[.string A] w2 fun e w' => ∃ z, e = .returned (.tuple #[.string z, .int .i64 0]) ∧ (Good A z ∧ z.size ≤ A.size + 5) ∧ Below w2.heap.size w2 w') := fun _ => by
      refine (Deflate_ok A w2 (by have := HAS.out; omega) (HO.out.below HW2.out)).mono ?_
      rintro e w' ⟨z, a1, a2, a3, a4, a5⟩
      rw [stored_size (by have := HAS.out; omega)] at a3
      exact ⟨z, a1, ⟨a2, a3⟩, a5⟩
    have HV2 : Hid (BR w B v2 (l ++ bytesL s) w2 ∧ toBA (l ++ bytesL s) = A) := ⟨hbr2, hA⟩
    have HBK : Hid (∀ W z, Good A z → z.size ≤ A.size + 5 → Calls Tryd.prog 6 #[.string z, .string A, .int .i64 0] W fun e w' => e = .returned (.bool true) ∧ Below W.heap.size W w') := fun W z h1 h2 => back_ok z A W (by have := HAS.out; omega) (by have := HAS.out; omega) h1
    obtain ⟨g2, cap2, hv2, _⟩ := id hbr2
    obtain ⟨LL, hLL⟩ : ∃ LL, (l ++ bytesL s).length = LL := ⟨_, rfl⟩
    have hLA : LL = A.size := by
      rw [← hLL, ← HV2.out.2]; simp [toBA, ByteArray.size]
    subst hLA
    rw [hLL] at hv2
    subst hv2
    have HLL : Hid ((l ++ bytesL s).length = A.size) := hLL
    clear hbr2 hA hAs HOB HSR hLL
    go_wp2_with fail
    refine (HC.out ()).mono ?_
    rintro e w3 ⟨z, he, hz, b3⟩
    subst he
    have H3 : Hid (Below w.heap.size w w3 ∧ Good A z ∧ z.size ≤ A.size + 5) := ⟨HW2.out.trans (b3.mono HW2.out.size), hz⟩
    have hbr3 := HV2.out.1.quiet b3
    have hcv3 := hbr3.conv
    rw [HV2.out.2] at hcv3
    have hzi : (z.size : Int) ≤ (A.size : Int) + 5 := by have := hz.2; omega
    have hAb : A.size ≤ 40000 := HAS.out
    clear b3 hz hbr3 hcv HC HW2 HV2
    go_wp2_with fail
    refine (HBK.out w3 z H3.out.2.1 H3.out.2.2).mono ?_
    rintro e w4 ⟨he, b4⟩
    subst he
    have H4 : Hid (Below w.heap.size w w4) := H3.out.1.trans (b4.mono H3.out.1.size)
    clear b4 HBK hcv3
    go_wp2_with fail
    refine (HA.out w4 (HO.out.below H4.out)).mono ?_
    rintro e w5 ⟨he, b5⟩
    subst he
    have H5 : Hid (Below w.heap.size w w5) := H4.out.trans (b5.mono H4.out.size)
    clear b5 HA
    go_wp2
    go_ret
    exact ⟨rfl, H5.out⟩
end Go.Proofs.YtbcflkdaeboflabDoor
