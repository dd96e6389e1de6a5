/- Two packs put together; packs by twos. -/
import Derived.Test.YtklipommocijaaaGa
import Derived.Laws.EntriesVeiled
import Derived.Deep.AppendLies
import Derived.Deep.RegionHeldLaw
namespace Go.Proofs.Ytklipommocijaaa
open Go.RowKit PT
set_option linter.unusedVariables false

theorem results_cell {fn : Func} {p : Tmp} {ty : TypeId} (h : fn.results = #[.cell p ty]) (tmps : Array Value) (P : Program) (w : World) :
    (results fn tmps).run P w = ((asAddr (tmps.getD p undef)).run P w).andThen fun a w₁ => (loadVar ty a).run P w₁ := by
  simp only [results, h]
  simp [Sem.run_bind, Result.andThen]
set_option maxHeartbeats 1000000 in
theorem together_ok (a b : PT) (L n : Nat) (w : World) (hL : L < w.heap.size) (hw : a.wt + b.wt < 4611686018427387904) :
    Calls Try.prog 53 #[.agg #[.int .i64 (a.wt : Nat), a.fv], .agg #[.int .i64 (b.wt : Nat), b.fv]] w fun e w' =>
      ∃ x y, e = .returned (.agg #[.int .i64 ((PT.node a b x y).wt : Nat), (PT.node a b x y).fv]) ∧ (x ≠ L ∧ y ≠ L ∧ w'.cell? ⟨x, 1, none⟩ = some a.fv ∧ w'.cell? ⟨y, 1, none⟩ = some b.fv) ∧ w.heap.size ≤ x ∧ w.heap.size ≤ y ∧ Below w.heap.size w w' := by
  obtain ⟨va, hva⟩ : ∃ v, a.fv = .func (.func v) #[] a.cap := ⟨_, rfl⟩
  obtain ⟨vb, hvb⟩ : ∃ v, b.fv = .func (.func v) #[] b.cap := ⟨_, rfl⟩
  have HVA : Hid (a.fv = .func (.func va) #[] a.cap) := hva
  have HVB : Hid (b.fv = .func (.func vb) #[] b.cap) := hvb
  rw [hva, hvb]
  obtain ⟨p, hp⟩ : ∃ p, a.wt = p := ⟨_, rfl⟩
  obtain ⟨q, hq⟩ : ∃ p, b.wt = p := ⟨_, rfl⟩
  have HP : Hid (a.wt = p ∧ b.wt = q) := ⟨hp, hq⟩
  rw [hp, hq]
  rw [hp, hq] at hw
  clear hva hvb hp hq
  obtain ⟨ca, hca⟩ : ∃ p, a.cap = p := ⟨_, rfl⟩
  obtain ⟨cb, hcb⟩ : ∃ p, b.cap = p := ⟨_, rfl⟩
  have HCA : Hid (a.cap = ca ∧ b.cap = cb) := ⟨hca, hcb⟩
  rw [hca, hcb]
  clear hca hcb
  go_enter Try.func53, Try.ntmps53
  go_wp2
  refine bodyPost_ret (v := .agg #[.int .i64 ((p + q : Nat) : Int), .func (.func 56) #[] #[.pointer (some ⟨w.heap.size, 0, none⟩), .pointer (some ⟨w.heap.size + 1, 0, none⟩)]]) ?_ rfl ?_
  · rw [results_cell rfl]
    go_simp
  obtain ⟨o1, ho1⟩ : ∃ o, Obj.cells #[Value.int .i64 (p : Nat), .func (.func va) #[] ca] 57 = o := ⟨_, rfl⟩
  obtain ⟨o2, ho2⟩ : ∃ o, Obj.cells #[Value.int .i64 (q : Nat), .func (.func vb) #[] cb] 57 = o := ⟨_, rfl⟩
  have hbel : ∀ o3, Below w.heap.size w (((w.alloc o1).alloc o2).alloc o3) := fun o3 => (((Below.refl _ _).alloc (Nat.le_refl _) _).alloc (by simp) _).alloc (by simp; omega) _
  refine ⟨w.heap.size, w.heap.size + 1, ?_, ⟨by omega, by omega, ?_, ?_⟩, Nat.le_refl _, by omega, ?_⟩
  · rw [PT.wt_node, HP.out.1, HP.out.2]; rfl
  · subst ho1 ho2; go_simp
  · subst ho1 ho2; go_simp
  · rw [ho1, ho2]; exact hbel _

/-- A row of packs. -/
def PRow (w : World) (b off : Nat) (l : List PT) : Prop := ∀ i (t : PT), l[i]? = some t → w.cell? ⟨b, off + i * 2, none⟩ = some (.int .i64 (t.wt : Nat)) ∧ w.cell? ⟨b, off + i * 2 + 1, none⟩ = some t.fv
def pcs (l : List PT) : List Value := l.flatMap PT.enc
theorem pcs_length (l : List PT) : (pcs l).length = l.length * 2 := by
  induction l with
  | nil => rfl
  | cons t r ih => simp only [pcs, List.flatMap_cons, List.length_append, PT.enc_length, List.length_cons] at ih ⊢; omega
theorem pcs_append (l m : List PT) : pcs (l ++ m) = pcs l ++ pcs m := by simp [pcs]
theorem pcs_get : ∀ (l : List PT) (i : Nat) (t : PT), l[i]? = some t → (pcs l)[i * 2]? = some (.int .i64 (t.wt : Nat)) ∧ (pcs l)[i * 2 + 1]? = some t.fv
  | [], i, t, h => by simp at h
  | u :: r, 0, t, h => by simp at h; subst h; exact ⟨rfl, rfl⟩
  | u :: r, i + 1, t, h => by
    have := pcs_get r i t (by simpa using h)
    rw [show (i + 1) * 2 = i * 2 + 2 by omega, show i * 2 + 2 + 1 = i * 2 + 1 + 2 by omega]
    exact this
theorem PRow.cons {w : World} {b off : Nat} {t : PT} {l : List PT} (h : PRow w b off (t :: l)) : w.cell? ⟨b, off, none⟩ = some (.int .i64 (t.wt : Nat)) ∧ w.cell? ⟨b, off + 1, none⟩ = some t.fv ∧ PRow w b (off + 2) l := by
  obtain ⟨h1, h2⟩ := h 0 t rfl
  refine ⟨by simpa using h1, by simpa using h2, fun i u hu => ?_⟩
  have := h (i + 1) u (by simpa using hu)
  rw [show off + (i + 1) * 2 = off + 2 + i * 2 by omega] at this
  exact this
theorem PRow.lt {w : World} {b off : Nat} {t : PT} {l : List PT} (h : PRow w b off (t :: l)) : b < w.heap.size := lt_cell h.cons.1
theorem PRow.below {w w' : World} {b off B : Nat} {l : List PT} (h : PRow w b off l) (hb : Below B w w') (hlt : b < B) : PRow w' b off l := fun i t ht => by
  obtain ⟨h1, h2⟩ := h i t ht
  rw [hb.cell hlt, hb.cell hlt]
  exact ⟨h1, h2⟩
theorem add_zero_addr (g j : Nat) : (⟨g, 0, none⟩ : Addr).add j = ⟨g, j, none⟩ := by
  unfold Addr.add; split
  · subst_vars; rfl
  · simp
theorem PRow.owned {w : World} {B g n cap : Nat} {l : List PT} (h : w.ownsRow B 57 2 (.slice (some ⟨g, 0, none⟩) n cap) n (pcs l)) : PRow w g 0 l := fun i t ht => by
  obtain ⟨h1, h2⟩ := pcs_get l i t ht
  have := h.cells (g := g) rfl
  have h3 := this _ _ h1
  have h4 := this _ _ h2
  rw [add_zero_addr] at h3 h4
  rw [Nat.zero_add]
  exact ⟨h3, h4⟩
theorem packInfo : (Try.prog.info? 57).map (fun i => (i.zero, i.size, i.bytes)) = some (some (.agg #[.int .i64 0, .nilFunc]), 2, 16) := by kernel_rfl
theorem info_split {t : TypeId} {z : Option Value} {n m : Nat} (h : (Try.prog.info? t).map (fun i => (i.zero, i.size, i.bytes)) = some (z, n, m)) : ∃ i, Try.prog.info? t = some i ∧ i.zero = z ∧ i.size = n ∧ i.bytes = m := by
  cases e : Try.prog.info? t with
  | none => rw [e] at h; simp at h
  | some i => rw [e] at h; simp at h; exact ⟨i, rfl, h.1, h.2.1, h.2.2⟩
theorem news2 (W : World) (p q : Value) (t : TypeId) : ∀ j u, [p, q][j]? = some u → (W.alloc (.cells #[p, q] t)).cell? ((⟨W.heap.size, 0, none⟩ : Addr).add j) = some u := by
  intro j u h
  match j, h with
  | 0, h => simp at h; subst h; simp [Addr.add]
  | 1, h => simp at h; subst h; simp [Addr.add]
theorem one2 (x : Int) (t : PT) : ∀ u ∈ [Value.int .i64 x, t.fv], u.oneCell' = true := by
  intro u hu
  simp only [List.mem_cons, List.not_mem_nil, or_false] at hu
  rcases hu with rfl | rfl <;> rfl
theorem owns_below {w w' : World} {B : Nat} {E : TypeId} {size n : Nat} {v : Value} {xs : List Value} (h : w.ownsRow B E size v n xs) (hb : Below w.heap.size w w') : w'.ownsRow B E size v n xs := by
  refine ⟨h.1, ?_⟩
  rcases h.2 with hn | ⟨g, cap, cur, hv, hg, hh, r⟩
  · exact .inl hn
  · exact .inr ⟨g, cap, cur, hv, hg, (hb.block g (lt_heap hh)).trans hh, r⟩
theorem grown_cell {w w' : World} {r : Option Nat} (hg : w.grownBy w' r) {k i : Nat} {v : Value} (h : w.cell? ⟨k, i, none⟩ = some v) (hk : r ≠ some k) : w'.cell? ⟨k, i, none⟩ = some v := by
  have := hg.block k (lt_cell h) (fun e => hk e.symm)
  simp only [World.cell?, this] at h ⊢
  exact h
theorem own_lt {w : World} {B : Nat} {E : TypeId} {size n : Nat} {v : Value} {xs : List Value} (h : w.ownsRow B E size v n xs) {k : Nat} (hk : w.heap.size ≤ k) : v.ownBlock ≠ some k := by
  rcases h.2 with ⟨rfl, _⟩ | ⟨g, cap, cur, rfl, hgB, hh, _⟩
  · simp [Value.ownBlock]
  · intro e
    have e' : g = k := by simpa [Value.ownBlock] using e
    have := lt_heap hh
    omega
theorem below_grown {B : Nat} {w w' : World} {v : Value} {E : TypeId} {n size : Nat} {xs : List Value} (ho : w.ownsRow B E size v n xs) (hg : w.grownBy w' v.ownBlock) (hB : B ≤ w.heap.size) : Below B w w' :=
  ⟨hg.os, hg.tape, hg.output, hg.size, fun k hk => hg.block k (by omega) (fun e => by
    rcases ho.2 with ⟨rfl, _⟩ | ⟨g, cap, cur, rfl, hgB, _⟩
    · simp [Value.ownBlock] at e
    · have e' : k = g := by simpa [Value.ownBlock] using e
      omega)⟩
end Go.Proofs.Ytklipommocijaaa
