/- Layer 5: lengths that are told by pieces are read as they were. -/
/- Layer 5: a block that tells its codes is read. -/
/-
  What the lightest packages make of lengths (plain mathematics, no program): a whole code, in the order of weights, and what it costs.
-/
import Derived.Test.YtbcflkdaeboflaaDoorV25
import Derived.Test.YtbcflkdaeboflaaDoorV01
namespace Go.Proofs.YtbcflkdaeboflaaDoor
open Go.RowKit
set_option linter.unusedVariables false
set_option maxRecDepth 20000

/-- A piece's bits by the first code. -/
def pieB (ns : List Nat) (q : Nat × Nat × Nat) : List Nat := symB ns q.1 ++ bitsOf q.2.1 q.2.2
def pieBits (ns : List Nat) : List (Nat × Nat × Nat) → List Nat
  | [] => []
  | q :: P => pieB ns q ++ pieBits ns P
theorem pieBits_snoc (ns : List Nat) (t : Nat × Nat × Nat) : ∀ T, pieBits ns (T ++ [t]) = pieBits ns T ++ pieB ns t
  | [] => by simp [pieBits]
  | x :: T => by show pieB ns x ++ pieBits ns (T ++ [t]) = (pieB ns x ++ pieBits ns T) ++ pieB ns t; rw [pieBits_snoc ns t T, List.append_assoc]
theorem pieB_length (ns : List Nat) (q : Nat × Nat × Nat) : (pieB ns q).length = ns.getD q.1 0 + q.2.2 := by unfold pieB; rw [List.length_append, symB_length, bitsOf_length]
/-- A piece that may be. -/
def PieOK (q : Nat × Nat × Nat) : Prop := (q.1 < 16 ∧ q.2.1 = 0 ∧ q.2.2 = 0) ∨ (q.1 = 16 ∧ q.2.1 < 4 ∧ q.2.2 = 2) ∨ (q.1 = 17 ∧ q.2.1 < 8 ∧ q.2.2 = 3) ∨ (q.1 = 18 ∧ q.2.1 < 128 ∧ q.2.2 = 7)
/-- What a piece tells behind lengths. -/
def tellP (L : List Nat) (q : Nat × Nat × Nat) : List Nat := if q.1 = 16 then List.replicate (3 + q.2.1) (L.getLastD 0) else if q.1 = 17 then List.replicate (3 + q.2.1) 0 else if q.1 = 18 then List.replicate (11 + q.2.1) 0 else List.replicate 1 q.1
def Says : List Nat → List (Nat × Nat × Nat) → List Nat → Prop
  | L, [], L' => L = L'
  | L, q :: P, L' => PieOK q ∧ (q.1 = 16 → L ≠ []) ∧ Says (L ++ tellP L q) P L'
theorem Says.append : ∀ {P Q : List (Nat × Nat × Nat)} {L M N : List Nat}, Says L P M → Says M Q N → Says L (P ++ Q) N
  | [], Q, L, M, N, h, k => by have h : L = M := h; subst h; exact k
  | q :: P, Q, L, M, N, h, k => ⟨h.1, h.2.1, Says.append h.2.2 k⟩
theorem Says.len : ∀ {P : List (Nat × Nat × Nat)} {L M : List Nat}, Says L P M → L.length ≤ M.length
  | [], L, M, h => by have h : L = M := h; subst h; exact Nat.le_refl _
  | q :: P, L, M, h => by have := Says.len h.2.2; rw [List.length_append] at this; omega
theorem Says.ok : ∀ {P : List (Nat × Nat × Nat)} {L M : List Nat}, Says L P M → ∀ q ∈ P, PieOK q
  | [], L, M, h => fun q hq => by simp at hq
  | x :: P, L, M, h => fun q hq => by
    rcases List.mem_cons.1 hq with rfl | hq
    · exact h.1
    · exact Says.ok h.2.2 q hq
theorem PieOK.small {q : Nat × Nat × Nat} (h : PieOK q) : q.1 < 19 ∧ q.2.1 < 2 ^ q.2.2 ∧ q.2.2 ≤ 7 := by
  obtain ⟨a, b, c⟩ := q
  rcases h with ⟨h1, h2, h3⟩ | ⟨h1, h2, h3⟩ | ⟨h1, h2, h3⟩ | ⟨h1, h2, h3⟩ <;> simp only at h1 h2 h3 <;> subst h3
  · subst h2; exact ⟨by simp only; omega, by simp, by simp⟩
  · exact ⟨by simp only; omega, by simp only; omega, by simp⟩
  · exact ⟨by simp only; omega, by simp only; omega, by simp⟩
  · exact ⟨by simp only; omega, by simp only; omega, by simp⟩
/-- One piece is read. -/
theorem run_read {ns : List Nat} {z : ByteArray} {p : Nat} {L : List Nat} {q : Nat × Nat × Nat} (hq : PieOK q) (h16 : q.1 = 16 → L ≠ []) (hc : Cod ns q.1) (hb : BitsAt z p (pieB ns q)) : ∃ x y, runF ns z p L = (0, p + (pieB ns q).length, x, y) ∧ tellP L q = List.replicate y x ∧ 1 ≤ y := by
  obtain ⟨a, b, c⟩ := q
  unfold pieB at hb
  simp only at hc hb h16
  have hu := cod_at hc hb.left
  have hr := hb.right
  rw [symB_length] at hr
  have hlen : (pieB ns (a, b, c)).length = ns.getD a 0 + c := pieB_length ns (a, b, c)
  have hs := hq.small
  have hub := ub_at hr hs.2.1
  rw [hlen]
  unfold runF tellP
  rw [hu, if_neg (by simp)]
  simp only
  rcases hq with ⟨h1, h2, h3⟩ | ⟨h1, h2, h3⟩ | ⟨h1, h2, h3⟩ | ⟨h1, h2, h3⟩ <;> simp only at h1 h2 h3 <;> subst h3
  · rw [if_neg (by omega), if_neg (by omega), if_neg (by omega), if_neg (by omega), if_neg (by omega), if_neg (by omega)]
    exact ⟨a, 1, by rw [Nat.add_zero], rfl, Nat.le_refl _⟩
  · subst h1
    rw [if_pos rfl, if_neg (h16 rfl), if_pos rfl, hub]
    exact ⟨_, _, by rw [Nat.add_assoc], rfl, by omega⟩
  · subst h1
    rw [if_neg (by omega), if_pos rfl, if_neg (by omega), if_pos rfl, hub]
    exact ⟨_, _, by rw [Nat.add_assoc], rfl, by omega⟩
  · subst h1
    rw [if_neg (by omega), if_neg (by omega), if_pos rfl, if_neg (by omega), if_neg (by omega), if_pos rfl, hub]
    exact ⟨_, _, by rw [Nat.add_assoc], rfl, by omega⟩
/-- All of them are read. -/
theorem lens_read {ns : List Nat} {z : ByteArray} {n : Nat} (hn : ns.length ≤ 288) : ∀ (P : List (Nat × Nat × Nat)) (L L' : List Nat) (p : Nat), Says L P L' → L'.length = n → (∀ q ∈ P, Cod ns q.1) → BitsAt z p (pieBits ns P) → lensF ns z n (n + 1 - L.length) p L = (0, p + (pieBits ns P).length, L')
  | [], L, L', p, h, hl, hc, hb => by
    have h : L = L' := h
    subst h
    rw [lens_end hl]; rfl
  | q :: P, L, L', p, h, hl, hc, hb => by
    have hb : BitsAt z p (pieB ns q ++ pieBits ns P) := hb
    obtain ⟨x, y, h1, h2, h3⟩ := run_read (L := L) h.1 h.2.1 (hc q (List.mem_cons_self ..)) hb.left
    have hlen := h.2.2.len
    rw [h2, List.length_append, List.length_replicate, hl] at hlen
    have hs := h.2.2
    rw [h2] at hs
    rw [lens_more hn (by omega) h1 (by omega), lens_read hn P _ L' _ hs hl (fun x hx => hc x (List.mem_cons_of_mem _ hx)) hb.right]
    show _ = (0, p + (pieB ns q ++ pieBits ns P).length, L')
    rw [List.length_append, Nat.add_assoc]
theorem rep_snoc (L : List Nat) (a b x : Nat) : (L ++ List.replicate a x) ++ List.replicate b x = L ++ List.replicate (a + b) x := by rw [List.append_assoc, List.replicate_append_replicate]
theorem says_plain (x : Nat) (hx : x ≤ 15) : ∀ (t : Nat) (L : List Nat), Says L (List.replicate t (x, 0, 0)) (L ++ List.replicate t x)
  | 0, L => by show L = L ++ []; rw [List.append_nil]
  | t + 1, L => by
    rw [List.replicate_succ]
    refine ⟨.inl ⟨by simp only; omega, rfl, rfl⟩, fun h => by simp only at h; omega, ?_⟩
    have e : tellP L (x, 0, 0) = List.replicate 1 x := by unfold tellP; rw [if_neg (by simp only; omega), if_neg (by simp only; omega), if_neg (by simp only; omega)]
    rw [e]
    have := says_plain x hx t (L ++ List.replicate 1 x)
    rw [rep_snoc, Nat.add_comm 1 t] at this
    exact this
theorem last_rep (L : List Nat) (t x : Nat) (h : 0 < t) : (L ++ List.replicate t x).getLastD 0 = x := by
  obtain ⟨t, rfl⟩ : ∃ t', t = t' + 1 := ⟨t - 1, by omega⟩
  rw [List.replicate_succ', ← List.append_assoc]
  simp
/-- A symbol that repeats says what it is for. -/
theorem rep_says {x t : Nat} {L : List Nat} (hx : x ≤ 15) (ht : 3 ≤ t) (hl : 0 < x → L ≠ [] ∧ L.getLastD 0 = x) : PieOK (repK x t).1 ∧ ((repK x t).1.1 = 16 → L ≠ []) ∧ tellP L (repK x t).1 = List.replicate (repK x t).2 x := by
  unfold repK
  by_cases h0 : 0 < x
  · rw [if_pos h0]
    simp only
    refine ⟨.inr (.inl ⟨rfl, by simp only; omega, rfl⟩), fun _ => (hl h0).1, ?_⟩
    unfold tellP
    rw [if_pos rfl, (hl h0).2]
    congr 1
    simp only; omega
  · rw [if_neg h0]
    have hx0 : x = 0 := by omega
    subst hx0
    by_cases h10 : t ≤ 10
    · rw [if_pos h10]
      simp only
      refine ⟨.inr (.inr (.inl ⟨rfl, by simp only; omega, rfl⟩)), fun h => by omega, ?_⟩
      unfold tellP
      rw [if_neg (by simp only; omega), if_pos rfl]
      congr 1
      simp only; omega
    · rw [if_neg h10]
      simp only
      refine ⟨.inr (.inr (.inr ⟨rfl, by simp only; omega, rfl⟩)), fun h => by omega, ?_⟩
      unfold tellP
      rw [if_neg (by simp only; omega), if_neg (by simp only; omega), if_pos rfl]
      congr 1
      simp only; omega
theorem reps_says {x : Nat} (hx : x ≤ 15) : ∀ (f t : Nat) (L : List Nat), t ≤ f → (0 < x → L ≠ [] ∧ L.getLastD 0 = x) → Says L (reps x f t) (L ++ List.replicate t x)
  | 0, t, L, h, hl => says_plain x hx t L
  | f + 1, t, L, h, hl => by
    unfold reps
    by_cases h3 : 3 ≤ t
    · rw [if_pos h3]
      obtain ⟨a1, a2, a3⟩ := rep_says (t := t) hx h3 hl
      have hb := repK_b x t h3
      refine ⟨a1, a2, ?_⟩
      rw [a3]
      have := reps_says hx f (t - (repK x t).2) (L ++ List.replicate (repK x t).2 x) (by omega) (fun h0 => ⟨by intro e; have := congrArg List.length e; rw [List.length_append, List.length_replicate] at this; simp at this; omega, last_rep _ _ _ (by omega)⟩)
      rw [rep_snoc, show (repK x t).2 + (t - (repK x t).2) = t by omega] at this
      exact this
    · rw [if_neg h3]; exact says_plain x hx t L
theorem runP_says {x t : Nat} (hx : x ≤ 15) (ht : 1 ≤ t) (L : List Nat) : Says L (runP x t) (L ++ List.replicate t x) := by
  unfold runP
  by_cases h0 : 0 < x
  · rw [if_pos h0]
    have h1 := says_plain x hx 1 L
    have h2 := reps_says hx t (t - 1) (L ++ List.replicate 1 x) (by omega) (fun _ => ⟨by intro e; have := congrArg List.length e; rw [List.length_append, List.length_replicate] at this; simp at this, last_rep _ _ _ (by omega)⟩)
    rw [rep_snoc, show 1 + (t - 1) = t by omega] at h2
    exact Says.append (P := [(x, 0, 0)]) h1 h2
  · rw [if_neg h0]
    exact reps_says hx t t L (Nat.le_refl _) (fun h => absurd h h0)
theorem range_rep (f : Nat → Nat) (k : Nat) : ∀ t, (∀ i, i < t → f (k + i) = f k) → (List.range k).map f ++ List.replicate t (f k) = (List.range (k + t)).map f
  | 0, _ => by simp
  | t + 1, h => by
    rw [List.replicate_succ', ← List.append_assoc, range_rep f k t (fun i hi => h i (by omega)), ← Nat.add_assoc, List.range_succ, List.map_append]
    simp [h t (by omega)]
/-- Lengths as pieces say them. -/
theorem runs_says {f : Nat → Nat} {N : Nat} (hf : ∀ i, f i ≤ 15) : ∀ (F k : Nat), k ≤ N → N - k ≤ F → Says ((List.range k).map f) (runsL f N F k) ((List.range N).map f)
  | 0, k, hk, h => by
    have : k = N := by omega
    subst this; rfl
  | F + 1, k, hk, h => by
    unfold runsL
    by_cases h1 : k < N
    · rw [if_pos h1]
      obtain ⟨a1, a2, a3⟩ := timesAt_b (f := f) h1
      have h2 := runP_says (hf k) a1 ((List.range k).map f)
      rw [range_rep f k _ a3] at h2
      exact h2.append (runs_says hf F _ a2 (by omega))
    · rw [if_neg h1]
      have : k = N := by omega
      subst this; rfl
end Go.Proofs.YtbcflkdaeboflaaDoor
namespace Go.Proofs.YtbcflkdaeboflaaDoor
open Go.RowKit
set_option linter.unusedVariables false
set_option maxRecDepth 20000

/-- The first code's own lengths, as many as are told. -/
def fstB (first : List Nat) : Nat → List Nat
  | 0 => []
  | n + 1 => fstB first n ++ bitsOf (first.getD (ordL.getD n 0) 0) 3
theorem fstB_length (first : List Nat) : ∀ n, (fstB first n).length = 3 * n
  | 0 => rfl
  | n + 1 => by unfold fstB; rw [List.length_append, fstB_length first n, bitsOf_length]; omega
/-- What is known of codes that are told. -/
structure TCok (c d first : List Nat) (nf : Nat) (P : List (Nat × Nat × Nat)) : Prop where
  cl : 257 ≤ c.length ∧ c.length ≤ 286
  dl : 1 ≤ d.length ∧ d.length ≤ 30
  whc : wholeB (intsOf c) = true
  whd : wholeB (intsOf d) = true ∨ sumTo (fun i => d.getD i 0) d.length ≤ 1
  c256 : c.getD 256 0 ≠ 0
  fl : first.length = 19
  f8 : ∀ i, first.getD i 0 < 8
  whf : wholeB (intsOf first) = true
  nf4 : 4 ≤ nf ∧ nf ≤ 19
  fz : ∀ j, nf ≤ j → j < 19 → first.getD (ordL.getD j 0) 0 = 0
  says : Says [] P (c ++ d)
  cod : ∀ q ∈ P, Cod first q.1
theorem fc_read {first : List Nat} {z : ByteArray} {p : Nat} (h8 : ∀ i, first.getD i 0 < 8) : ∀ n, BitsAt z p (fstB first n) → ∀ i, (∀ j, j < n → ordL.getD j 0 ≠ i) → fcOf z p n i = 0
  | 0, _, i, _ => rfl
  | n + 1, hb, i, hi => by
    have hb1 := hb
    unfold fstB at hb1
    unfold fcOf
    rw [if_neg (fun e => hi n (by omega) (by exact e.symm ▸ rfl))]
    exact fc_read h8 n hb1.left i (fun j hj => hi j (by omega))
theorem fc_val {first : List Nat} {z : ByteArray} {p : Nat} (h8 : ∀ i, first.getD i 0 < 8) : ∀ n, BitsAt z p (fstB first n) → ∀ j, j < n → fcOf z p n (ordL.getD j 0) = first.getD (ordL.getD j 0) 0
  | 0, _, j, hj => by omega
  | n + 1, hb, j, hj => by
    have hb1 := hb
    unfold fstB at hb1
    have hr := hb1.right
    rw [fstB_length] at hr
    unfold fcOf
    by_cases e : ordL.getD j 0 = ordL.getD n 0
    · rw [if_pos e, num_at hr (by have := h8 (ordL.getD n 0); omega), e]
    · rw [if_neg e]
      exact fc_val h8 n hb1.left j (by
        rcases Nat.lt_or_ge j n with h | h
        · exact h
        · exact absurd (by rw [show j = n by omega]) e)
theorem ord_all : ∀ i : Fin 19, ∃ j : Fin 19, ordL.getD j.val 0 = i.val := by decide +kernel
theorem ord_inj : ∀ i j : Fin 19, ordL.getD i.val 0 = ordL.getD j.val 0 → i = j := by decide +kernel
theorem fcL_read {first : List Nat} {z : ByteArray} {p nf : Nat} (hl : first.length = 19) (h8 : ∀ i, first.getD i 0 < 8) (hn : nf ≤ 19) (hz : ∀ j, nf ≤ j → j < 19 → first.getD (ordL.getD j 0) 0 = 0) (hb : BitsAt z p (fstB first nf)) : fcL z p nf = first := by
  unfold fcL
  refine List.ext_getElem (by simp [hl]) fun i h1 h2 => ?_
  rw [List.getElem_map, List.getElem_range]
  have hi : i < 19 := by rw [hl] at h2; exact h2
  have e2 : first[i] = first.getD i 0 := by rw [List.getD_eq_getElem?_getD, List.getElem?_eq_getElem h2]; rfl
  rw [e2]
  obtain ⟨j, hj⟩ := ord_all ⟨i, hi⟩
  simp only at hj
  rw [← hj]
  by_cases h : j.val < nf
  · exact fc_val h8 nf hb j.val h
  · rw [hz j.val (by omega) j.isLt]
    refine fc_read h8 nf hb _ (fun k hk e => ?_)
    have := ord_inj ⟨k, by omega⟩ j e
    rw [← this] at h
    exact h hk
/-- The bits behind which a block was written that tells its codes. -/
def toldB (L c d first : List Nat) (nf : Nat) (P T : List (Nat × Nat × Nat)) (last : Bool) : List Nat :=
  ((((((L ++ headB 2 last) ++ bitsOf (c.length - 257) 5) ++ bitsOf (d.length - 1) 5) ++ bitsOf (nf - 4) 4) ++ fstB first nf) ++ pieBits first P) ++ (tokBits c d T ++ symB c 256)
theorem told_read {c d first : List Nat} {nf : Nat} {P : List (Nat × Nat × Nat)} {z : ByteArray} {p : Nat} (h : TCok c d first nf P) (b1 : BitsAt z p (bitsOf (c.length - 257) 5)) (b2 : BitsAt z (p + 5) (bitsOf (d.length - 1) 5)) (b3 : BitsAt z (p + 10) (bitsOf (nf - 4) 4)) (b4 : BitsAt z (p + 14) (fstB first nf)) (b5 : BitsAt z (p + 14 + 3 * nf) (pieBits first P)) :
    toldF z p = (0, p + 14 + 3 * nf + (pieBits first P).length, c, d) := by
  have hc := h.cl
  have hd := h.dl
  have hn := h.nf4
  have m1 := num_at b1 (by omega)
  have m2 := num_at b2 (by omega)
  have m3 := num_at b3 (by omega)
  have s3 := b3.1
  rw [bitsOf_length] at s3
  have s4 := b4.1
  rw [fstB_length] at s4
  have e4 : 4 + (nf - 4) = nf := by omega
  have hfc := fcL_read h.fl h.f8 hn.2 h.fz b4
  have hw : (List.range 19).map (fun i => (fcOf z (p + 14) nf i : Int)) = intsOf first := by
    rw [← hfc]
    unfold fcL intsOf
    rw [List.map_map]
    rfl
  have hlen : (c ++ d).length = 258 + (c.length - 257) + (d.length - 1) := by rw [List.length_append]; omega
  have hL := lens_read (z := z) (by rw [h.fl]; omega) P [] (c ++ d) (p + 14 + 3 * nf) h.says hlen h.cod b5
  have hT : toldL z p (c.length - 257) (d.length - 1) (nf - 4) = (0, p + 14 + 3 * nf + (pieBits first P).length, c ++ d) := by
    unfold toldL
    rw [e4, hfc]
    exact hL
  unfold toldF
  rw [if_neg (by omega), m1, m2, m3, if_neg (by omega), e4, if_neg (by omega), hw, if_neg (by rw [h.whf]; simp), hT]
  unfold toldE
  have ec : (c ++ d).take (257 + (c.length - 257)) = c := by rw [show 257 + (c.length - 257) = c.length by omega]; exact List.take_left
  have ed : (c ++ d).drop (257 + (c.length - 257)) = d := by rw [show 257 + (c.length - 257) = c.length by omega]; exact List.drop_left
  have e256 : (c ++ d).getD 256 0 = c.getD 256 0 := by rw [List.getD_eq_getElem?_getD, List.getD_eq_getElem?_getD, List.getElem?_append_left (by omega)]
  simp only
  rw [if_neg (by simp), e256, if_neg h.c256, ec, ed, if_neg (by rw [h.whc]; simp), if_neg (by
    rintro ⟨a1, a2⟩
    rcases h.whd with a | a
    · rw [a] at a1; simp at a1
    · rw [show 1 + (d.length - 1) = d.length by omega] at a2
      omega)]
theorem told_blk {L c d first : List Nat} {nf : Nat} {P T : List (Nat × Nat × Nat)} {s : ByteArray} {k k' : Nat} {last : Bool} (h : TCok c d first nf P) (hend : Cod c 256) (ht : Tells s k T k') (hk : k ≤ s.size) (hh : ∀ t ∈ T, Has c d t) : Blk L (toldB L c d first nf P T last) ((bytesL s).take k) ((bytesL s).take k') (lastB last) := by
  refine ⟨⟨(((((headB 2 last ++ bitsOf (c.length - 257) 5) ++ bitsOf (d.length - 1) 5) ++ bitsOf (nf - 4) 4) ++ fstB first nf) ++ pieBits first P) ++ (tokBits c d T ++ symB c 256), by unfold toldB; simp only [List.append_assoc]⟩, fun z most hz hm => ?_⟩
  unfold toldB at hz ⊢
  have g7 := hz.mid
  have g6 := hz.left.mid
  have g5 := hz.left.left.mid
  have g4 := hz.left.left.left.mid
  have g3 := hz.left.left.left.left.mid
  have g2 := hz.left.left.left.left.left.mid
  have g1 := hz.left.left.left.left.left.left.mid
  simp only [List.length_append, headB_length, bitsOf_length, fstB_length] at g2 g3 g4 g5 g6 g7
  obtain ⟨n1, n2, n3⟩ := head_at (by omega) g1
  have hkm : k' ≤ most := by
    have h1 := (ht.le.2 hk)
    rw [List.length_take, bytesL_length] at hm
    omega
  have hr := told_read h g2 (by exact g3) (by rw [show L.length + 3 + 10 = L.length + 3 + 5 + 5 by omega]; exact g4) (by rw [show L.length + 3 + 14 = L.length + 3 + 5 + 5 + 4 by omega]; exact g5) (by rw [show L.length + 3 + 14 + 3 * nf = L.length + 3 + 5 + 5 + 4 + 3 * nf by omega]; exact g6)
  refine ⟨?_, n1⟩
  unfold blockF
  rw [if_neg (by omega), if_neg (by omega), n2, if_neg (by omega), if_neg (by omega), if_pos rfl, hr, if_neg (by simp)]
  simp only
  rw [show L.length + 3 + 14 + 3 * nf + (pieBits first P).length = L.length + 3 + 5 + 5 + 4 + 3 * nf + (pieBits first P).length by omega]
  rw [toks_read (by have := h.cl; omega) (by have := h.dl; omega) hend T k k' _ ht hk hh hkm g7]
  congr 2
  simp only [List.length_append, headB_length, bitsOf_length, fstB_length]
end Go.Proofs.YtbcflkdaeboflaaDoor
namespace Go.Proofs.YtbcflkdaeboflaaDoor
open PT
set_option linter.unusedVariables false
set_option maxRecDepth 20000

/-- A pack's first symbol. -/
def sy (t : PT) : Nat := t.syms.headD 0
/-- Packs of one symbol each, none twice. -/
def Sing (F : Nat → Nat) (S : List PT) : Prop := (∀ t ∈ S, t.syms = [sy t] ∧ t.wt = F (sy t) ∧ 0 < F (sy t)) ∧ (S.map sy).Nodup
theorem Sing.ok {F : Nat → Nat} {S : List PT} (h : Sing F S) : OKL F S := fun t ht => by
  obtain ⟨h1, h2, h3⟩ := h.1 t ht
  exact ⟨by rw [h1, h2]; simp, by rw [h1]; intro s hs; simp at hs; rw [hs]; exact h3, by rw [h1]; simp⟩
theorem cntL_count {S : List PT} (h : ∀ t ∈ S, t.syms = [sy t]) (s : Nat) : cntL s S = (S.map sy).count s := by
  induction S with
  | nil => rfl
  | cons t r ih =>
    simp only [cntL, List.map_cons, List.count_cons]
    rw [ih (fun u hu => h u (by simp [hu]))]
    have h1 := h t (by simp)
    unfold PT.cnt
    rw [h1]
    simp only [List.count_cons, List.count_nil]
    omega
theorem count_one {l : List Nat} (h : l.Nodup) {s : Nat} (hm : s ∈ l) : l.count s = 1 := by
  induction l with
  | nil => simp at hm
  | cons t r ih =>
    have hn := List.nodup_cons.1 h
    rw [List.count_cons]
    by_cases e : t = s
    · subst e
      rw [List.count_eq_zero_of_not_mem hn.1]; simp
    · have : (t == s) = false := by simpa using e
      rw [this]
      rcases List.mem_cons.1 hm with h1 | h1
      · exact absurd h1.symm e
      · rw [ih hn.2 h1]; rfl
theorem cnt_take {F : Nat → Nat} {S : List PT} (h : Sing F S) (s x : Nat) : cntL s (S.take x) = if s ∈ (S.map sy).take x then 1 else 0 := by
  rw [cntL_count (fun t ht => (h.1 t (List.mem_of_mem_take ht)).1), List.map_take]
  have hn : ((S.map sy).take x).Nodup := h.2.sublist (List.take_sublist _ _)
  split
  · rename_i hm; exact count_one hn hm
  · rename_i hm; exact List.count_eq_zero_of_not_mem hm
theorem cntL_take_le (s : Nat) (l : List PT) (j : Nat) : cntL s (l.take j) ≤ cntL s l := by
  conv => rhs; rw [← List.take_append_drop j l]
  rw [cntL_append]; omega
theorem Lev.mem {F : Nat → Nat} {S : List PT} (hS : Sing F S) {s : Nat} : ∀ {k : Nat} {l : List PT}, Lev S k l → 0 < cntL s l → s ∈ S.map sy
  | 0, l, h, hc => by
    rw [show l = S from h] at hc
    have := cnt_take hS s S.length
    rw [List.take_length, ← List.length_map (f := sy), List.take_length] at this
    rw [this] at hc
    split at hc
    · assumption
    · omega
  | k + 1, r, ⟨l, m, h, hp, e⟩, hc => by
    rw [e, cntL_perm (mrg_perm S m), cntL_append] at hc
    by_cases h1 : 0 < cntL s S
    · exact Lev.mem hS (k := 0) (show Lev S 0 S from rfl) h1
    · have h2 := Pairs.cnt s hp m.length (Nat.le_refl _)
      rw [List.take_length] at h2
      have h3 := cntL_take_le s l (2 * m.length)
      exact Lev.mem hS h (by omega)
/-- One level down: of the first j so many singles, and pairs of the first ones there; whatever is in those is among these singles. -/
theorem Lev.step {F : Nat → Nat} {S : List PT} (hS : Sing F S) (ha : Asc S) {k : Nat} {r : List PT} (h : Lev S (k + 1) r) (j : Nat) (hj : j ≤ r.length) :
    ∃ l x y, Lev S k l ∧ x + y = j ∧ x ≤ S.length ∧ 2 * y ≤ l.length ∧ (∀ s, cntL s (r.take j) = cntL s (S.take x) + cntL s (l.take (2 * y))) ∧ (wtL (r.take j) = wtL (S.take x) + wtL (l.take (2 * y))) ∧ ∀ s, s ∉ (S.map sy).take x → cntL s (l.take (2 * y)) = 0 := by
  obtain ⟨l, m, hl, hp, rfl⟩ := h
  rw [mrg_length] at hj
  obtain ⟨x, y, h1, h2, h3, h4, h5⟩ := mrg_take S m j ha hj
  have hml := hp.length
  refine ⟨l, x, y, hl, h1, h2, by omega, fun s => ?_, ?_, fun s hs => ?_⟩
  · rw [cntL_perm h4, cntL_append, Pairs.cnt s hp y h3]
  · rw [wtL_perm h4, wtL_append, hp.wt y h3]
  · rcases Nat.eq_zero_or_pos (cntL s (l.take (2 * y))) with h0 | h0
    · exact h0
    · exfalso
      have hmem := Lev.mem hS hl (Nat.lt_of_lt_of_le h0 (cntL_take_le s l _))
      rw [← Pairs.cnt s hp y h3] at h0
      obtain ⟨t, ht, hc⟩ := cntL_pos h0
      have hw := Pairs.heavier hp (Lev.ok hS.ok hl) t (List.mem_of_mem_take ht) hc
      have hd : s ∈ (S.drop x).map sy := by
        rw [List.map_drop]
        have := hmem
        rw [← List.take_append_drop x (S.map sy)] at this
        rcases List.mem_append.1 this with h | h
        · exact absurd h hs
        · exact h
      obtain ⟨u, hu, rfl⟩ := List.mem_map.1 hd
      have := h5 t ht u hu
      have := (hS.1 u (List.mem_of_mem_drop hu)).2.1
      omega
theorem sum_same {α : Type} {L : List α} {f : α → Nat} {d : Nat} (h : ∀ s ∈ L, f s = d) : (L.map f).sum = L.length * d := by
  induction L with
  | nil => simp
  | cons s r ih =>
    simp only [List.map_cons, List.sum_cons, List.length_cons]
    rw [h s (by simp), ih (fun u hu => h u (by simp [hu])), Nat.add_mul, Nat.one_mul]; omega
theorem sum_congr {α : Type} {L : List α} {f g : α → Nat} (h : ∀ s ∈ L, f s = g s) : (L.map f).sum = (L.map g).sum := by rw [List.map_congr_left h]
theorem nodup_apart {ss : List Nat} (h : ss.Nodup) {x s : Nat} (hd : s ∈ ss.drop x) : s ∉ ss.take x := by
  rw [← List.take_append_drop x ss] at h
  have := (List.nodup_append.1 h).2.2
  intro ht
  exact this s ht s hd rfl

/-- The share of what the first j packs of a level lengthen, and the first j themselves. -/
theorem Lev.kraft {F : Nat → Nat} {S : List PT} (hS : Sing F S) (ha : Asc S) : ∀ {k : Nat} {l : List PT} (j : Nat), Lev S k l → j ≤ l.length →
    (∀ s, cntL s (l.take j) ≤ k + 1) ∧ ((S.map sy).map fun s => 2 ^ (k + 1 - cntL s (l.take j))).sum + j * 2 ^ k = S.length * 2 ^ (k + 1)
  | 0, l, j, h, hj => by
    rw [show l = S from h] at hj ⊢
    have hc := fun s => cnt_take hS s j
    refine ⟨fun s => by rw [hc s]; split <;> omega, ?_⟩
    have hsp : (S.map sy) = (S.map sy).take j ++ (S.map sy).drop j := (List.take_append_drop j _).symm
    rw [hsp, List.map_append, List.sum_append]
    rw [sum_same (d := 1) (fun s hs => by rw [hc s, if_pos (by rw [hsp] at hs ⊢; simpa using hs)]), sum_same (d := 2) (fun s hs => by rw [hc s, if_neg (nodup_apart hS.2 hs)])]
    simp
    omega
  | k + 1, r, j, h, hj => by
    obtain ⟨l, x, y, hl, h1, h2, h3, h4, _, h5⟩ := Lev.step hS ha h j hj
    obtain ⟨i1, i2⟩ := Lev.kraft hS ha (2 * y) hl h3
    have hc := fun s => cnt_take hS s x
    refine ⟨fun s => by rw [h4 s, hc s]; have := i1 s; split <;> omega, ?_⟩
    have hsp : (S.map sy) = (S.map sy).take x ++ (S.map sy).drop x := (List.take_append_drop x _).symm
    have e1 : (((S.map sy).take x).map fun s => 2 ^ (k + 1 + 1 - cntL s (r.take j))).sum = (((S.map sy).take x).map fun s => 2 ^ (k + 1 - cntL s (l.take (2 * y)))).sum := sum_congr (fun s hs => by
      rw [h4 s, hc s, if_pos hs, show k + 1 + 1 - (1 + cntL s (l.take (2 * y))) = k + 1 - cntL s (l.take (2 * y)) by omega])
    have e2 : (((S.map sy).drop x).map fun s => 2 ^ (k + 1 + 1 - cntL s (r.take j))).sum = ((S.map sy).drop x).length * 2 ^ (k + 1 + 1) := sum_same (fun s hs => by
      have hn := nodup_apart hS.2 hs
      rw [h4 s, hc s, if_neg hn, h5 s hn]; rfl)
    have e3 : (((S.map sy).drop x).map fun s => 2 ^ (k + 1 - cntL s (l.take (2 * y)))).sum = ((S.map sy).drop x).length * 2 ^ (k + 1) := sum_same (fun s hs => by
      rw [h5 s (nodup_apart hS.2 hs)]; rfl)
    rw [hsp, List.map_append, List.sum_append, e3] at i2
    rw [hsp, List.map_append, List.sum_append, e1, e2]
    have hdl : ((S.map sy).drop x).length = S.length - x := by simp
    rw [hdl] at i2 ⊢
    obtain ⟨Q, hQ⟩ : ∃ Q, (((S.map sy).take x).map fun s => 2 ^ (k + 1 - cntL s (l.take (2 * y)))).sum = Q := ⟨_, rfl⟩
    rw [hQ] at i2 ⊢
    obtain ⟨d, hd⟩ : ∃ d, S.length - x = d := ⟨_, rfl⟩
    have hn : S.length = x + d := by omega
    rw [hd] at i2 ⊢
    rw [hn] at i2 ⊢
    subst h1
    have ep : 2 ^ (k + 1) = 2 * 2 ^ k := by rw [Nat.pow_succ, Nat.mul_comm]
    rw [Nat.pow_succ 2 (k + 1)]
    rw [ep] at i2 ⊢
    generalize 2 ^ k = P at i2 ⊢
    have f1 : d * (2 * P) = 2 * (d * P) := by rw [Nat.mul_left_comm]
    have f2 : 2 * y * P = 2 * (y * P) := by rw [Nat.mul_assoc]
    have f3 : (x + d) * (2 * P) = 2 * (x * P) + 2 * (d * P) := by rw [Nat.add_mul, Nat.mul_left_comm, Nat.mul_left_comm d]
    have f4 : d * (2 * P * 2) = 4 * (d * P) := by rw [show 2 * P * 2 = 4 * P by omega, Nat.mul_left_comm]
    have f5 : (x + y) * (2 * P) = 2 * (x * P) + 2 * (y * P) := by rw [Nat.add_mul, Nat.mul_left_comm, Nat.mul_left_comm y]
    have f6 : (x + d) * (2 * P * 2) = 4 * (x * P) + 4 * (d * P) := by rw [show 2 * P * 2 = 4 * P by omega, Nat.add_mul, Nat.mul_left_comm, Nat.mul_left_comm d]
    rw [f1, f2, f3] at i2
    rw [f4, f5, f6]
    omega
/-- Among the singles one that lies further on is lengthened no more often. -/
theorem Lev.falls {F : Nat → Nat} {S : List PT} (hS : Sing F S) (ha : Asc S) {p q : Nat} (hpq : p ≤ q) (hq : q < (S.map sy).length) : ∀ {k : Nat} {l : List PT} (j : Nat), Lev S k l → j ≤ l.length →
    cntL (S.map sy)[q] (l.take j) ≤ cntL (S.map sy)[p] (l.take j) := by
  have hin : ∀ x, (S.map sy)[q] ∈ (S.map sy).take x → (S.map sy)[p] ∈ (S.map sy).take x := fun x h => by
    obtain ⟨i, hi, e⟩ := List.mem_take_iff_getElem.1 h
    have hiq : i = q := (List.getElem_inj hS.2).1 e
    exact List.mem_take_iff_getElem.2 ⟨p, by omega, rfl⟩
  intro k
  induction k with
  | zero =>
    intro l j h hj
    rw [show l = S from h, cnt_take hS, cnt_take hS]
    by_cases e : (S.map sy)[q] ∈ (S.map sy).take j
    · rw [if_pos e, if_pos (hin j e)]; omega
    · rw [if_neg e]; omega
  | succ k ih =>
    intro r j h hj
    obtain ⟨l, x, y, hl, h1, h2, h3, h4, _, h5⟩ := Lev.step hS ha h j hj
    rw [h4, h4, cnt_take hS, cnt_take hS]
    by_cases e : (S.map sy)[q] ∈ (S.map sy).take x
    · have := ih (2 * y) hl h3
      rw [if_pos e, if_pos (hin x e)]; omega
    · rw [if_neg e, h5 _ e]; omega
end Go.Proofs.YtbcflkdaeboflaaDoor
