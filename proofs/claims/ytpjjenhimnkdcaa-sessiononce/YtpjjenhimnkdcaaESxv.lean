/- Layer 15: acks that a law keeps beside its table: what appending more of them leaves. -/
import Derived.Test.YtpjjenhimnkdcaaESxu
import Derived.Test.YtpjjenhimnkdcaaESxo
import Derived.Maps.AppendAt
import Derived.Laws.AppendOwnNone
namespace Go.Proofs.Ytpjjenhimnkdcaa
open Go.RowKit Go.Maps
set_option linter.unusedVariables false
set_option maxRecDepth 20000

theorem wpList_append_run {P : Program} {w w' : World} {ops : Array Oper} {rest : List Oper} {o : Oper} {a : Act} {Q : Exit → Act → World → Prop} (hgd : o.guard = none) (s x : Operand) (t : TypeId)
    (ho : o.op = .call { callee := .builtin .append, args := #[s, x], argTypes := #[t, t] }) (u v v' : Value) (hs : a.eval s = u) (hx : a.eval x = v)
    (hr : (Builtin.append_ #[t, t] o.type #[u, v]).run P w = .ok v' w') (h : wpList P ops Q rest (a.put o.dst v') w') : wpList P ops Q (o :: rest) a w := by
  refine wpList_plain hgd fun K hK => ?_
  unfold Oper.wp execOp
  simp only [ho, resolve, invoke, builtin, Sem.run_bind, Sem.run_pure, Result.andThen_ok, List.map_toArray, List.map_cons, List.map_nil, hs, hx, hr]
  exact hK _ _ h
/-- The law's state: its table, and the acks that were told so far. -/
structure OS (w wr : World) (t mb : Nat) (L : List Bt) (V TD : List Wt) (vt : Value) : Prop where
  ts : TS wr t mb 64 L V
  hV : ∀ x ∈ V, (fnd L x.p x.s).isSome = true
  row : wr.ownsRow w.heap.size 41 6 vt TD.length (acs L TD)
  ap : ∀ g, vt.ownBlock = some g → Ap wr t mb g
  hD : ∀ x ∈ TD, (fnd L x.p x.s).isSome = true
  lf : LF w wr t mb
theorem OS.step {w wr w' : World} {t mb : Nat} {L L' : List Bt} {V V' TD : List Wt} {vt : Value} (h : OS w wr t mb L V TD vt) (hF : TFr t mb wr w') (hT : TS w' t mb 64 L' V') (hV : ∀ x ∈ V', (fnd L' x.p x.s).isSome = true) (hA : acs L' TD = acs L TD) (hD : ∀ x ∈ TD, (fnd L' x.p x.s).isSome = true) : OS w w' t mb L' V' TD vt :=
  ⟨hT, hV, by rw [hA]; exact rowBlock h.row fun g hg => (hF.kept g (h.ap g hg)).1, fun g hg => (hF.kept g (h.ap g hg)).2, hD, h.lf.fr hF⟩
theorem OS.below {w wr w' : World} {t mb : Nat} {L : List Bt} {V TD : List Wt} {vt : Value} (h : OS w wr t mb L V TD vt) (hb : Below wr.heap.size wr w') : OS w w' t mb L V TD vt :=
  h.step (TFr.below hb h.ts.lt) (h.ts.below hb) h.hV rfl h.hD
theorem OS.put {w wr w' : World} {t mb : Nat} {L : List Bt} {V TD : List Wt} {vt : Value} {b : Bt} (h : OS w wr t mb L V TD vt) (hF : TFr t mb wr w') (hT : TS w' t mb 64 (L ++ [b]) V) : OS w w' t mb (L ++ [b]) V TD vt :=
  h.step hF hT (fun x hx => by rw [fnd_grow b (h.hV x hx)]; exact h.hV x hx) (acs_grow b h.hD) (fun x hx => by rw [fnd_grow b (h.hD x hx)]; exact h.hD x hx)
theorem waitV_sub {q : Nat} {V : List Wt} {x y : Wt} (h : y ∈ waitV q V x) : y ∈ V ∨ y = x := by
  unfold waitV at h
  split at h
  · exact .inl h
  · split at h
    · exact .inl h
    · simpa using h
theorem waitV_len (q : Nat) (V : List Wt) (x : Wt) : (waitV q V x).length ≤ V.length + 1 := by
  unfold waitV
  split
  · omega
  · split
    · omega
    · simp
theorem OS.wait {w wr w' : World} {t mb : Nat} {L : List Bt} {V TD : List Wt} {vt : Value} {p s who : Int} (h : OS w wr t mb L V TD vt) (hf : (fnd L p s).isSome = true) (hF : TFr t mb wr w') (hT : TS w' t mb 64 L (waitV 64 V ⟨p, s, who⟩)) : OS w w' t mb L (waitV 64 V ⟨p, s, who⟩) TD vt :=
  h.step hF hT (fun x hx => by rcases waitV_sub hx with hx | rfl; exact h.hV x hx; exact hf) rfl h.hD
theorem OS.waited {w wr w' : World} {t mb : Nat} {L : List Bt} {V TD : List Wt} {vt : Value} {p s who : Int} (h : OS w wr t mb L V TD vt) (hf : (fnd L p s).isSome = true) (hF : TFr t mb wr w') (hT : TS w' t mb 64 L (waitV 64 V ⟨p, s, who⟩)) : ∃ V2, OS w w' t mb L V2 TD vt ∧ V2.length ≤ V.length + 1 := ⟨_, h.wait hf hF hT, waitV_len _ _ _⟩
theorem acs_length (L : List Bt) (D : List Wt) : (acs L D).length = D.length * 6 := flat_length _ 6 (fun _ => rfl) D
theorem acs_one (L : List Bt) (D : List Wt) : ∀ u ∈ acs L D, u.oneCell' = true := by
  intro u hu
  obtain ⟨x, _, hx⟩ := List.mem_flatMap.1 hu
  unfold akC at hx
  simp at hx
  rcases hx with rfl | rfl | rfl | rfl | rfl | rfl <;> rfl
/-- Acks are appended to those that were told. -/
theorem OS.app {w wr : World} {t mb : Nat} {L : List Bt} {V TD A : List Wt} {vt v : Value} {B : Nat} (h : OS w wr t mb L V TD vt) (hr : wr.ownsRow B 41 6 v A.length (acs L A)) (hA : ∀ x ∈ A, (fnd L x.p x.s).isSome = true) (hlen : TD.length + A.length ≤ 100000) :
    ∃ v' w', (Builtin.append_ #[28, 28] 28 #[vt, v]).run Try.prog wr = .ok v' w' ∧ OS w w' t mb L V (TD ++ A) v' := by
  obtain ⟨i1, hi, hz0, hz1, hz2⟩ := info_split akInfo
  have hD : ∀ x ∈ TD ++ A, (fnd L x.p x.s).isSome = true := fun x hx => by
    rcases List.mem_append.1 hx with hx | hx
    · exact h.hD x hx
    · exact hA x hx
  rcases hr.2 with ⟨e, h0⟩ | ⟨g, cap, cur, e1, _⟩
  · subst e
    have hA0 : A = [] := List.length_eq_zero_iff.1 h0
    subst hA0
    refine ⟨vt, wr, run_append_owned_none (P := Try.prog) (w := wr) w.heap.size 28 28 41 i1 6 Try.underlying28 hi vt TD.length (acs L TD) h.row, ?_⟩
    rw [List.append_nil]
    exact h
  · subst e1
    obtain ⟨v', w', hrun, hown, hg, _, hat⟩ := run_append_own_at (P := Try.prog) wr w.heap.size 28 28 41 i1 (.agg #[.int .i64 0, .int .i64 0, .int .i64 0, .int .i64 0, .int .i64 0, .int .i64 0]) 6 48 Try.underlying28 hi hz0 hz1 hz2 rfl (by decide) vt TD.length (acs L TD) h.row ⟨g, 0, none⟩ A.length cap (acs L A) (acs_length L A) (fun j u hj => by rw [add_zero_addr]; exact rowCell hr hj) (acs_one L A) (by unfold maxLen; omega) (by omega) h.lf.size
    have htn : some t ≠ vt.ownBlock := fun e => (h.ap t e.symm).2.1 rfl
    refine ⟨v', w', hrun, h.ts.grow hg h.ap, h.hV, by rw [acs_append, List.length_append]; exact hown, fun k hk => ?_, hD, h.lf.grow hg htn h.ts.lt fun k hk => ?_⟩
    · rcases hat with e | e
      · exact (h.ap k (by rw [← e]; exact hk)).grow hg htn h.ts.lt
      · have ek : k = wr.heap.size := by rw [e] at hk; simpa using hk.symm
        have hl := (rowLt hown hk).1
        obtain ⟨ov, wv, h3, h4, h5⟩ := h.ts.blk
        have ht := h.ts.lt
        have hm := h.ts.map.lt
        refine ⟨hl, by omega, by omega, fun cs ty m e => ?_⟩
        rw [hg.block t ht htn, h3] at e
        cases e
        refine ⟨fun e => ?_, fun e => ?_⟩
        · have := (rowLt h4 (k := k) (by simpa using e)).1; omega
        · have := (rowLt h5 (k := k) (by simpa using e)).1; omega
    · rcases h.row.2 with ⟨e, _⟩ | ⟨g', cap', cur', e1, e2, _⟩
      · rw [e] at hk; simp [Value.ownBlock] at hk
      · rw [e1] at hk
        have : g' = k := by simpa [Value.ownBlock] using hk
        omega
theorem OS.done {w wr w' : World} {t mb : Nat} {L : List Bt} {V V' TD : List Wt} {vt : Value} (h : OS w wr t mb L V TD vt) (hF : TFr t mb wr w') (hT : TS w' t mb 64 L V') (hs : ∀ x ∈ V', x ∈ V) : OS w w' t mb L V' TD vt :=
  h.step hF hT (fun x hx => h.hV x (hs x hx)) rfl h.hD
theorem OS.told {w wr : World} {t mb : Nat} {L : List Bt} {V TD : List Wt} {vt : Value} (h : OS w wr t mb L V TD vt) : ∃ a c, vt = .slice a TD.length c := rowForm h.row
theorem filt_len (p : Wt → Bool) (V : List Wt) : (V.filter p).length + (V.filter fun x => !p x).length = V.length := by
  induction V with
  | nil => rfl
  | cons x V ih => cases e : p x <;> simp [e] <;> omega
end Go.Proofs.Ytpjjenhimnkdcaa
