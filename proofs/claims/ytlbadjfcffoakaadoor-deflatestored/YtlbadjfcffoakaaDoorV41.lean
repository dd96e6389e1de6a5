/- Layer 5: parted and Deflate. -/
/- Layer 5: Deflate. -/
import Derived.Test.YtlbadjfcffoakaaDoorV40
namespace Go.Proofs.YtlbadjfcffoakaaDoor
open Go.RowKit
set_option linter.unusedVariables false
set_option maxRecDepth 20000

theorem own_cap {w : World} {B n cp : Nat} {ao : Option Addr} {E : TypeId} {z : Nat} {xs : List Value} (h : w.ownsRow B E z (.slice ao n cp) n xs) : n ≤ cp := by
  rcases h.2 with ⟨h0, h1⟩ | ⟨g, cap, cur, hv, _, _, hc, _⟩
  · omega
  · cases hv; exact hc
theorem drop_len {T : List (Nat × Nat × Nat)} {n k m : Nat} (h : T.length = n) (h2 : n - k = m) : (T.drop k).length = m := by rw [List.length_drop, h, h2]
theorem Tells.short {s : ByteArray} : ∀ {T : List (Nat × Nat × Nat)} {k k' : Nat}, Tells s k T k' → ∀ t ∈ T, t.2.1 ≤ 258
  | [], _, _, _ => fun t ht => by cases ht
  | t :: T, k, k', h => fun x hx => by
    rcases List.mem_cons.1 hx with e | hx
    · subst e
      rcases h with ⟨e1, _⟩ | ⟨n, d, e1, hc, _⟩
      · rw [e1]; exact Nat.zero_le _
      · rw [e1]; exact hc.most
    · rcases h with ⟨_, _, h⟩ | ⟨_, _, _, _, h⟩ <;> exact Tells.short h x hx
set_option maxHeartbeats 8000000 in
theorem parted_ok (s : ByteArray) (T : List (Nat × Nat × Nat)) (ao : Option Addr) (cp : Nat) (w : World) (hs : s.size ≤ 1048576) (hT : TokR w ao T) (ht : Tells s 0 T s.size) (hcp : T.length ≤ cp) (ho : OrdAt w) :
    Calls Tryd.prog 12 #[.string s, .slice ao T.length cp] w fun e w' => ∃ Z, e = .returned (.string (toBA (pack Z))) ∧ (∀ most, s.size ≤ most → infF (toBA (pack Z)) most = (0, Z.length, bytesL s)) ∧ Below w.heap.size w w' := by
  have HB := bw_start w
  have HNW : Hid (∀ _ : Unit, Calls Tryd.prog 20 #[] w fun e w' => e = .returned (.pointer (some ⟨w.heap.size, 0, none⟩)) ∧ w' = w.alloc (.cells #[.pointer (some ⟨w.heap.size, 0, none⟩), .slice none 0 0, .int .i64 0] 74)) := fun _ => newWriter w
  obtain ⟨W, hW⟩ : ∃ W, ((w.alloc (.cells #[.pointer (some ⟨w.heap.size, 0, none⟩), .slice none 0 0, .int .i64 0] 74)).alloc (.cells #[.pointer (some ⟨w.heap.size, 0, none⟩)] 51)) = W := ⟨_, rfl⟩
  have hbel : Below w.heap.size w W := by rw [← hW]; exact ((Below.refl _ _).alloc (Nat.le_refl _) _).alloc (by simp) _
  have hTl : T.length ≤ 1048576 := by have := tells_length ht; omega
  obtain ⟨b, hb⟩ : ∃ b, w.heap.size = b := ⟨_, rfl⟩
  obtain ⟨U, hU⟩ : ∃ U, w.heap.size + 1 = U := ⟨_, rfl⟩
  rw [hW, hb] at HB
  have HBW : Hid (∀ W', W' = W → BW w b U [] W') := fun W' e => by rw [e, ← hU, hb]; exact HB
  have H0 : Hid (PA w b U s ao T s W) := ⟨[], 0, 0, HBW.out W rfl, hT.below hbel, ho.below hbel, by rw [List.take_zero]; exact Rd.nil, ht, Nat.zero_le _, by simp, by omega, by simp⟩
  have HH : Hid (s.size ≤ 1048576 ∧ 0 < b ∧ w.heap.size = b ∧ w.heap.size + 1 = U) := ⟨hs, by rw [← hb]; exact ho.lt, hb, hU⟩
  obtain ⟨N, hN⟩ : ∃ N, T.length = N := ⟨_, rfl⟩
  rw [hN] at hcp ⊢
  have HN : Hid (T.length = N) := hN
  clear HB hbel hb hU hT ht ho hTl hN HBW hs
  go_enter Tryd.func12, Tryd.ntmps12
  go_wp2_with fail
  refine (HNW.out ()).mono ?_
  rintro e w1 ⟨he, hw1⟩
  subst he
  subst hw1
  clear HNW
  go_upto_block 0 with fail
  try rw [hW]
  rw [HH.out.2.2.2, HH.out.2.2.1]
  clear hW
  go_cut [0, 1] (fun v0 v1 wc => ∃ (S : ByteArray) (a1 : Option Addr) (n c : Nat), v0 = .string S ∧ v1 = .slice a1 n c ∧ Hid (∃ T2, T2.length = n ∧ ¬ 16384 < n ∧ PA w b U s a1 T2 S wc))
  case first =>
    as_aux_lemma =>
      go_wp2_with fail
      go_loopw [0, 1] (fun v0 v1 wr => ∃ (S : ByteArray) (a1 : Option Addr) (n c : Nat), v0 = .string S ∧ v1 = .slice a1 n c ∧ n ≤ c ∧ Hid (∃ T2, T2.length = n ∧ PA w b U s a1 T2 S wr)) (fun _ v1 _ => sliLen v1)
      case atStart => exact ⟨s, ao, N, cp, rfl, rfl, hcp, T, HN.out, H0.out⟩
      case round =>
        obtain ⟨S, a1, n, c, rfl, rfl, hnc, HR⟩ := hrel
        by_cases hlt : 16384 < n
        · have hlti : (16384 : Int) < (n : Int) := by omega
          have hlte : (16384 : Int) ≤ (n : Int) := by omega
          have hltc : (16384 : Int) ≤ (c : Int) := by omega
          obtain ⟨T2, hl2, hpa⟩ := HR.out
          obtain ⟨L0, k0, m0, _, htr, _⟩ := id hpa
          obtain ⟨g, off, hao⟩ := htr.some (by intro h; rw [h] at hl2; simp at hl2; omega)
          subst hao
          obtain ⟨q1, q2, q3⟩ := hpa.part (cp := c) HH.out.2.1 HH.out.1 (by omega)
          obtain ⟨p, hp⟩ : ∃ p, plainN (T2.take 16384) = p := ⟨_, rfl⟩
          have HPB : Hid (∀ W', TokR W' (some ⟨g, off, none⟩) T2 → Calls Tryd.prog 26 #[.slice (some ⟨g, off, none⟩) 16384 c] W' fun e w' => e = .returned (.int .i64 (p : Nat)) ∧ Below W'.heap.size W' w') := fun W' h => by
            have hl : (T2.take 16384).length = 16384 := by rw [List.length_take]; omega
            have hfin : ∀ t ∈ T2.take 16384, t.2.1 ≤ 258 := by
              obtain ⟨_, _, _, _, _, _, _, h5, _⟩ := hpa
              exact fun t ht => h5.short t (List.mem_of_mem_take ht)
            have := plainBytes_ok (T2.take 16384) (some ⟨g, off, none⟩) c W' (h.take _) (by omega) hfin
            rw [hl, hp] at this
            exact this
          rw [hp] at q1 q2
          have hps : p ≤ 1048576 := by have h1 := hpa.size; have h2 := HH.out.1; omega
          have hq1i : (p : Int) ≤ (S.size : Int) := by omega
          obtain ⟨A, hA⟩ : ∃ A, S.extract 0 p = A := ⟨_, rfl⟩
          obtain ⟨B, hB⟩ : ∃ B, S.extract p S.size = B := ⟨_, rfl⟩
          have HC : Hid (∀ W' v, PA w b U s (some ⟨g, off, none⟩) T2 S W' → v = Value.string A → Calls Tryd.prog 27 #[.agg #[.pointer (some ⟨b, 0, none⟩)], v, .slice (some ⟨g, off, none⟩) 16384 c, .bool false] W' fun e w' => e = .returned (.tuple #[]) ∧ PA w b U s (some ⟨g, off + 49152, none⟩) (T2.drop 16384) B w') := fun W' v h hv => by
            rw [hv]
            have := (h.part (cp := c) HH.out.2.1 HH.out.1 (by omega)).2.2
            rw [hp, hA, hB] at this
            exact this
          have HP0 : Hid (PA w b U s (some ⟨g, off, none⟩) T2 S wr ∧ TokR wr (some ⟨g, off, none⟩) T2) := ⟨hpa, htr⟩
          obtain ⟨n2, hn2⟩ : ∃ n2, n - 16384 = n2 := ⟨_, rfl⟩
          obtain ⟨c2, hc2⟩ : ∃ c2, c - 16384 = c2 := ⟨_, rfl⟩
          have hdl : (T2.drop 16384).length = n2 := drop_len hl2 hn2
          have hl3 : n2 ≤ c2 ∧ n2 < n := by omega
          have HL2 : Hid ((T2.drop 16384).length = n2 ∧ n2 ≤ c2 ∧ n2 < n) := ⟨hdl, hl3⟩
          have hni : (n : Int) - 16384 = (n2 : Int) := by omega
          have hci : (c : Int) - 16384 = (c2 : Int) := by omega
          have hnt : n - 16384 = n2 := hn2
          clear q2 q3 hpa htr HR hp hl2 hdl hl3
          go_wp2_with fail
          refine (HPB.out _ HP0.out.2).mono ?_
          rintro e w2 ⟨he, hb2⟩
          subst he
          have HP1 : Hid (PA w b U s (some ⟨g, off, none⟩) T2 S w2) := HP0.out.1.quiet hb2
          clear hb2 HP0 HPB
          go_upto_region 5 with fail
          have HS0 : Hid (PA w b U s (some ⟨g, off, none⟩) T2 S w2.drew) := HP1.out.quiet ⟨rfl, rfl, rfl, Nat.le_refl _, fun _ _ => rfl⟩
          have KS0 := HS0.out.box
          go_region_held_law (fun w' => w'.cell? ⟨U, 0, none⟩ = some (.pointer (some ⟨b, 0, none⟩)))
            (first | assumption | go_keep)
            (first | (go_at_call 27; refine (HC.out w2.drew _ HS0.out (by first | rfl | (rw [hA]))).mono ?_; rintro e w3 ⟨he3, hw3⟩; subst he3; have H3 : Hid (PA w b U s (some ⟨g, off + 49152, none⟩) (T2.drop 16384) B w3) := hw3; have KS := hw3.box; clear hw3))
          clear KS0 KS HS0 HC HP1
          go_upto_region 6 with fail
          go_quiet (fail)
          go_wp2
          have HZ2 : Hid (∃ T2, T2.length = n2 ∧ PA w b U s (some ⟨g, off + 49152, none⟩) T2 B (w3.drewN nq)) := ⟨T2.drop 16384, HL2.out.1, H3.out.quiet ⟨rfl, rfl, rfl, Nat.le_refl _, fun _ _ => rfl⟩⟩
          exact ⟨⟨B, _, n2, c2, rfl, rfl, HL2.out.2.1, HZ2⟩, HL2.out.2.2⟩
        · have hlti : ¬ (16384 : Int) < (n : Int) := by omega
          obtain ⟨T2, hl2, hpa⟩ := HR.out
          have HE : Hid (∃ T2, T2.length = n ∧ ¬ 16384 < n ∧ PA w b U s a1 T2 S wr) := ⟨T2, hl2, hlt, hpa⟩
          clear hl2 hpa HR
          go_wp2_with fail
          go_meet
          case rel => exact ⟨S, a1, n, c, rfl, rfl, HE.out⟩
  case rest =>
    obtain ⟨S, a1, n, c, rfl, rfl, HR⟩ := hcut
    obtain ⟨T2, hl2, hnn, hpa⟩ := HR.out
    have z0 := hpa.box
    have HC : Hid (∀ _ : Unit, Calls Tryd.prog 27 #[.agg #[.pointer (some ⟨b, 0, none⟩)], .string S, .slice a1 n c, .bool true] wc fun e w' => e = .returned (.tuple #[]) ∧ ∃ Z, BW w b U Z w' ∧ ∀ most, s.size ≤ most → infF (toBA (pack Z)) most = (0, Z.length, bytesL s)) := fun _ => by
      rw [← hl2]; exact hpa.last HH.out.2.1 HH.out.1 (by omega)
    clear HR hl2 hnn hpa H0
    go_wp2_with fail
    refine (HC.out ()).mono ?_
    rintro e w2 ⟨he, Z, hw2, hz⟩
    subst he
    have H2 : Hid (BW w b U Z w2 ∧ ∀ most, s.size ≤ most → infF (toBA (pack Z)) most = (0, Z.length, bytesL s)) := ⟨hw2, hz⟩
    have z1 := box_cell hw2.box
    have HD : Hid (∀ _ : Unit, Calls Tryd.prog 22 #[.pointer (some ⟨b, 0, none⟩)] w2 fun e w' => e = .returned (.string (toBA (pack Z))) ∧ w' = w2) := fun _ => wdone b b Z w2 hw2.pw
    clear hw2 hz HC z0
    go_wp2_with fail
    refine (HD.out ()).mono ?_
    rintro e w3 ⟨he, hw3⟩
    subst he
    obtain rfl := hw3.symm
    clear HD
    go_wp2
    go_ret
    refine ⟨Z, rfl, H2.out.2, ?_⟩
    have := H2.out.1.bel
    rw [← HH.out.2.2.1] at this
    exact this
end Go.Proofs.YtlbadjfcffoakaaDoor
namespace Go.Proofs.YtlbadjfcffoakaaDoor
open Go.RowKit
set_option linter.unusedVariables false
set_option maxRecDepth 20000

theorem headB_01 (k : Nat) (l : Bool) : Bits01 (headB k l) := (bitsOf_01 _ _).append (bitsOf_01 _ _)
theorem sB01 {L : List Nat} {s : ByteArray} {l : Bool} (h : Bits01 L) : Bits01 (storedB L s l) := (((padded_01 (h.append (headB_01 _ _))).append (bitsOf_01 _ _)).append (bitsOf_01 _ _)).append (textBits_01 _)
theorem storedZ_01 : ∀ (f : Nat) (L : List Nat) (s : ByteArray), Bits01 L → Bits01 (storedZ f L s)
  | 0, L, s, h => sB01 h
  | f + 1, L, s, h => by
    unfold storedZ
    split
    · exact storedZ_01 f _ _ (sB01 h)
    · exact sB01 h
theorem tokBits_01 (c d : List Nat) : ∀ T : List (Nat × Nat × Nat), Bits01 (tokBits c d T)
  | [] => fun x hx => by cases hx
  | t :: T => by
    show Bits01 (tokB c d t ++ tokBits c d T)
    refine Bits01.append ?_ (tokBits_01 c d T)
    unfold tokB
    split
    · exact symB_01 _ _
    · exact (symB_01 _ _).append ((bitsOf_01 _ _).append ((symB_01 _ _).append (bitsOf_01 _ _)))
theorem fixedB_01 {L : List Nat} {T : List (Nat × Nat × Nat)} {l : Bool} (h : Bits01 L) : Bits01 (fixedB L T l) := by
  unfold fixedB
  exact (h.append (headB_01 _ _)).append ((tokBits_01 _ _ _).append (symB_01 _ _))
def Good (s z : ByteArray) : Prop := ∃ Z, z = toBA (pack Z) ∧ ∀ most, s.size ≤ most → infF z most = (0, Z.length, bytesL s)
theorem good_stored {s : ByteArray} (hs : s.size ≤ 1048576) : Good s (toBA (pack (storedZ 17 [] s))) := by
  obtain ⟨L0, l0, h1, h2, h3⟩ := storedZ_rd 17 [] [] s (by omega) Rd.nil
  rw [List.nil_append] at h2 h3
  exact ⟨_, rfl, fun most hm => h1.fin h3 h2 (storedZ_01 _ _ _ (fun x hx => by cases hx)) (by rw [bytesL_length]; exact hm)⟩
theorem good_fixed (s : ByteArray) : Good s (toBA (pack (fixedB [] (D5.tokensOf s) true))) := by
  have h := fixed_blk (L := []) (last := true) (tokens_tell s) (Nat.zero_le _)
  have hall : (bytesL s).take s.size = bytesL s := by rw [← bytesL_length s, List.take_length]
  rw [List.take_zero, hall] at h
  exact ⟨_, rfl, fun most hm => Rd.nil.fin h (Nat.zero_le _) (fixedB_01 (fun x hx => by cases hx)) (by rw [bytesL_length]; exact hm)⟩
set_option maxHeartbeats 4000000 in
theorem Deflate_ok (s : ByteArray) (w : World) (hs : s.size ≤ 1048576) (ho : OrdAt w) : Calls Tryd.prog 7 #[.string s] w fun e w' => ∃ z, e = .returned (.tuple #[.string z, .int .i64 0]) ∧ Good s z ∧ z.size ≤ (toBA (pack (storedZ 17 [] s))).size ∧ z.size ≤ (toBA (pack (fixedB [] (D5.tokensOf s) true))).size ∧ Below w.heap.size w w' := by
  have HT : Hid (∀ _ : Unit, Calls Tryd.prog 11 #[.string s] w fun e w' => ∃ v, e = .returned v ∧ w'.ownsRow (w.heap.size + 3) 61 3 v (D5.tokensOf s).length (D5.tcs (D5.tokensOf s)) ∧ Below w.heap.size w w') := fun _ => D5.tokensOf_ok s w hs
  have htl := tokens_length s
  have htf := tokens_fine s
  have htt := tokens_tell s
  have hgf := good_fixed s
  obtain ⟨T, hT⟩ : ∃ T, D5.tokensOf s = T := ⟨_, rfl⟩
  rw [hT] at HT htl htf htt hgf ⊢
  have hgs := good_stored hs
  obtain ⟨F, hF⟩ : ∃ F, toBA (pack (fixedB [] T true)) = F := ⟨_, rfl⟩
  obtain ⟨Z, hZ⟩ : ∃ Z, toBA (pack (storedZ 17 [] s)) = Z := ⟨_, rfl⟩
  rw [hF] at hgf ⊢
  rw [hZ] at hgs ⊢
  have HTF : Hid (T.length ≤ 1048576 ∧ (∀ t ∈ T, Fine t) ∧ Tells s 0 T s.size ∧ Good s F ∧ Good s Z ∧ s.size ≤ 1048576 ∧ OrdAt w) := ⟨by omega, htf, htt, hgf, hgs, hs, ho⟩
  have HFZ : Hid (toBA (pack (fixedB [] T true)) = F ∧ toBA (pack (storedZ 17 [] s)) = Z) := ⟨hF, hZ⟩
  have hi : ¬ (1048576 : Int) < (s.size : Int) := by omega
  clear hT htl htf htt hgf hgs hF hZ ho hs
  go_enter Tryd.func7, Tryd.ntmps7
  go_wp2_with fail
  refine (HT.out ()).mono ?_
  rintro e w1 ⟨v, he, ho, hb1⟩
  subst he
  obtain ⟨ao, cp, hv, hr⟩ := tokR_own ho
  subst hv
  have hcp := own_cap ho
  obtain ⟨N, hN⟩ : ∃ N, T.length = N := ⟨_, rfl⟩
  have HP : Hid (∀ _ : Unit, Calls Tryd.prog 12 #[.string s, .slice ao N cp] w1 fun e w' => ∃ z, e = .returned (.string z) ∧ Good s z ∧ Below w1.heap.size w1 w') := fun _ => by
    rw [← hN]
    refine (parted_ok s T ao cp w1 HTF.out.2.2.2.2.2.1 hr HTF.out.2.2.1 hcp (HTF.out.2.2.2.2.2.2.below hb1)).mono ?_
    rintro e w' ⟨Z, a1, a2, a3⟩
    exact ⟨_, a1, ⟨Z, rfl, a2⟩, a3⟩
  have HCF : Hid (∀ W', TokR W' ao T → Calls Tryd.prog 10 #[.slice ao N cp] W' fun e w' => e = .returned (.string F) ∧ Below W'.heap.size W' w') := fun W' h => by
    rw [← hN, ← HFZ.out.1]
    exact dfixed_ok T ao cp W' h HTF.out.1 HTF.out.2.1
  have HCS : Hid (∀ W', Calls Tryd.prog 9 #[.string s] W' fun e w' => e = .returned (.string Z) ∧ Below W'.heap.size W' w') := fun W' => by
    rw [← HFZ.out.2]
    exact dstored_ok s W' HTF.out.2.2.2.2.2.1
  have H1 : Hid (Below w.heap.size w w1 ∧ TokR w1 ao T) := ⟨hb1, hr⟩
  rw [hN]
  clear ho hb1 hr hcp HT hN
  go_wp2_with fail
  refine (HP.out ()).mono ?_
  rintro e w2 ⟨z, he, hgz, hb2⟩
  subst he
  have H2 : Hid (Below w.heap.size w w2 ∧ TokR w2 ao T ∧ Good s z) := ⟨H1.out.1.trans (hb2.mono H1.out.1.size), H1.out.2.below hb2, hgz⟩
  clear hgz hb2 HP H1
  go_wp2_with fail
  refine (HCF.out _ H2.out.2.1).mono ?_
  rintro e w3 ⟨he, hb3⟩
  subst he
  have H3 : Hid (Below w.heap.size w w3) := H2.out.1.trans (hb3.mono H2.out.1.size)
  clear hb3 HCF
  go_wp2_with fail
  refine (HCS.out _).mono ?_
  rintro e w4 ⟨he, hb4⟩
  subst he
  have H4 : Hid (Below w.heap.size w w4) := H3.out.trans (hb4.mono H3.out.size)
  clear hb4 HCS H3
  go_upto_block 0 with fail
  obtain ⟨W5, hW5⟩ : ∃ W5, w4.alloc (.cells #[.string F, .string Z] 9) = W5 := ⟨_, rfl⟩
  obtain ⟨G, hG⟩ : ∃ G, w4.heap.size = G := ⟨_, rfl⟩
  have hbk := heap_alloc_new w4 (.cells #[.string F, .string Z] 9)
  rw [hW5, hG] at hbk
  have c0 : W5.cell? ⟨G, 0, none⟩ = some (.string F) := by simp [World.cell?, hbk]
  have c1 : W5.cell? ⟨G, 1, none⟩ = some (.string Z) := by simp [World.cell?, hbk]
  have H5 : Hid (Below w.heap.size w W5) := by rw [← hW5]; exact H4.out.alloc H4.out.size _
  rw [hW5, hG]
  clear hW5 hG hbk H4
  go_wp2_with fail
  go_loopw [5, 22] (fun v5 v22 wr => ∃ (i : Nat) (o : ByteArray), v22 = .int .i64 (i : Nat) ∧ v5 = .string o ∧ i ≤ 2 ∧ wr = W5 ∧ Hid (Good s o ∧ (1 ≤ i → o.size ≤ F.size) ∧ (2 ≤ i → o.size ≤ Z.size))) (fun _ v22 _ => 2 - (intOf v22).toNat)
  case atStart => exact ⟨0, z, rfl, rfl, by omega, rfl, H2.out.2.2, fun h => by omega, fun h => by omega⟩
  case round =>
    obtain ⟨i, o, rfl, rfl, hi2, rfl, HR⟩ := hrel
    rcases (by omega : i = 0 ∨ i = 1 ∨ i = 2) with h | h | h
    · subst h
      by_cases hlt : F.size < o.size
      · have hlti : (F.size : Int) < (o.size : Int) := by omega
        have HZ : Hid (Good s F ∧ (1 ≤ 1 → F.size ≤ F.size) ∧ (2 ≤ 1 → F.size ≤ Z.size)) := ⟨HTF.out.2.2.2.1, fun _ => Nat.le_refl _, fun h => by omega⟩
        go_wp2
        exact ⟨⟨1, F, rfl, rfl, by omega, (by first | trivial | rfl), HZ⟩, by simp [intOf]⟩
      · have hlti : ¬ (F.size : Int) < (o.size : Int) := by omega
        have HZ : Hid (Good s o ∧ (1 ≤ 1 → o.size ≤ F.size) ∧ (2 ≤ 1 → o.size ≤ Z.size)) := ⟨HR.out.1, fun _ => by omega, fun h => by omega⟩
        go_wp2
        exact ⟨⟨1, o, rfl, rfl, by omega, (by first | trivial | rfl), HZ⟩, by simp [intOf]⟩
    · subst h
      by_cases hlt : Z.size < o.size
      · have hlti : (Z.size : Int) < (o.size : Int) := by omega
        have HZ : Hid (Good s Z ∧ (1 ≤ 2 → Z.size ≤ F.size) ∧ (2 ≤ 2 → Z.size ≤ Z.size)) := ⟨HTF.out.2.2.2.2.1, fun _ => by have := HR.out.2.1 (by omega); omega, fun _ => Nat.le_refl _⟩
        go_wp2
        exact ⟨⟨2, Z, rfl, rfl, by omega, (by first | trivial | rfl), HZ⟩, by simp [intOf]⟩
      · have hlti : ¬ (Z.size : Int) < (o.size : Int) := by omega
        have HZ : Hid (Good s o ∧ (1 ≤ 2 → o.size ≤ F.size) ∧ (2 ≤ 2 → o.size ≤ Z.size)) := ⟨HR.out.1, fun _ => HR.out.2.1 (by omega), fun _ => by omega⟩
        go_wp2
        exact ⟨⟨2, o, rfl, rfl, by omega, (by first | trivial | rfl), HZ⟩, by simp [intOf]⟩
    · subst h
      go_wp2
      go_ret2
      exact ⟨o, rfl, HR.out.1, HR.out.2.2 (by omega), HR.out.2.1 (by omega), H5.out⟩
end Go.Proofs.YtlbadjfcffoakaaDoor
