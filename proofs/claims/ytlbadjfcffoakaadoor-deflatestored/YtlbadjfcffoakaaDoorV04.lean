/- Two packs put together; packs by twos. -/
/- Packs by twos. -/
import Derived.Test.YtlbadjfcffoakaaDoorV03
import Derived.Laws.EntriesVeiled
import Derived.Deep.AppendLies
import Derived.Deep.RegionHeldLaw
import Derived.Laws.NewBlocks
namespace Go.Proofs.YtlbadjfcffoakaaDoor
open Go.RowKit PT
set_option linter.unusedVariables false
set_option maxRecDepth 20000

theorem results_cell {fn : Func} {p : Tmp} {ty : TypeId} (h : fn.results = #[.cell p ty]) (tmps : Array Value) (P : Program) (w : World) :
    (results fn tmps).run P w = ((asAddr (tmps.getD p undef)).run P w).andThen fun a w₁ => (loadVar ty a).run P w₁ := by
  simp only [results, h]
  simp [Sem.run_bind, Result.andThen]
set_option maxHeartbeats 1000000 in
theorem together_ok (a b : PT) (L n : Nat) (w : World) (hL : L < w.heap.size) (hw : a.wt + b.wt < 4611686018427387904) :
    Calls Tryd.prog 90 #[.agg #[.int .i64 (a.wt : Nat), a.fv], .agg #[.int .i64 (b.wt : Nat), b.fv]] w fun e w' =>
      ∃ x y, e = .returned (.agg #[.int .i64 ((PT.node a b x y).wt : Nat), (PT.node a b x y).fv]) ∧ (x ≠ L ∧ y ≠ L ∧ w'.cell? ⟨x, 1, none⟩ = some a.fv ∧ w'.cell? ⟨y, 1, none⟩ = some b.fv) ∧ w.heap.size ≤ x ∧ w.heap.size ≤ y ∧ Below w.heap.size w w' := by
  obtain ⟨va, hva⟩ : ∃ v, a.fv = .func (.func v) #[] a.cap := ⟨_, rfl⟩
  obtain ⟨vb, hvb⟩ : ∃ v, b.fv = .func (.func v) #[] b.cap := ⟨_, rfl⟩
  have HVA : Hid (a.fv = .func (.func va) #[] a.cap) := hva
  have HVB : Hid (b.fv = .func (.func vb) #[] b.cap) := hvb
  rw [hva, hvb]
  obtain ⟨p, hp⟩ : ∃ p, a.wt = p := ⟨_, rfl⟩
  obtain ⟨q, hq⟩ : ∃ p, b.wt = p := ⟨_, rfl⟩
  have HP : Hid (a.wt = p ∧ b.wt = q) := ⟨hp, hq⟩
  rw [hp, hq]
  rw [hp, hq] at hw
  clear hva hvb hp hq
  obtain ⟨ca, hca⟩ : ∃ p, a.cap = p := ⟨_, rfl⟩
  obtain ⟨cb, hcb⟩ : ∃ p, b.cap = p := ⟨_, rfl⟩
  have HCA : Hid (a.cap = ca ∧ b.cap = cb) := ⟨hca, hcb⟩
  rw [hca, hcb]
  clear hca hcb
  go_enter Tryd.func90, Tryd.ntmps90
  go_wp2
  refine bodyPost_ret (v := .agg #[.int .i64 ((p + q : Nat) : Int), .func (.func 93) #[] #[.pointer (some ⟨w.heap.size, 0, none⟩), .pointer (some ⟨w.heap.size + 1, 0, none⟩)]]) ?_ rfl ?_
  · rw [results_cell rfl]
    go_simp
  obtain ⟨o1, ho1⟩ : ∃ o, Obj.cells #[Value.int .i64 (p : Nat), .func (.func va) #[] ca] 138 = o := ⟨_, rfl⟩
  obtain ⟨o2, ho2⟩ : ∃ o, Obj.cells #[Value.int .i64 (q : Nat), .func (.func vb) #[] cb] 138 = o := ⟨_, rfl⟩
  have hbel : ∀ o3, Below w.heap.size w (((w.alloc o1).alloc o2).alloc o3) := fun o3 => (((Below.refl _ _).alloc (Nat.le_refl _) _).alloc (by simp) _).alloc (by simp; omega) _
  refine ⟨w.heap.size, w.heap.size + 1, ?_, ⟨by omega, by omega, ?_, ?_⟩, Nat.le_refl _, by omega, ?_⟩
  · rw [PT.wt_node, HP.out.1, HP.out.2]; rfl
  · subst ho1 ho2; go_simp
  · subst ho1 ho2; go_simp
  · rw [ho1, ho2]; exact hbel _

def PRow (w : World) (b off : Nat) (l : List PT) : Prop := ∀ i (t : PT), l[i]? = some t → w.cell? ⟨b, off + i * 2, none⟩ = some (.int .i64 (t.wt : Nat)) ∧ w.cell? ⟨b, off + i * 2 + 1, none⟩ = some t.fv
def pcs (l : List PT) : List Value := l.flatMap PT.enc
theorem pcs_length (l : List PT) : (pcs l).length = l.length * 2 := by
  induction l with
  | nil => rfl
  | cons t r ih => simp only [pcs, List.flatMap_cons, List.length_append, PT.enc_length, List.length_cons] at ih ⊢; omega
theorem pcs_append (l m : List PT) : pcs (l ++ m) = pcs l ++ pcs m := by simp [pcs]
theorem pcs_get : ∀ (l : List PT) (i : Nat) (t : PT), l[i]? = some t → (pcs l)[i * 2]? = some (.int .i64 (t.wt : Nat)) ∧ (pcs l)[i * 2 + 1]? = some t.fv
  | [], i, t, h => by simp at h
  | u :: r, 0, t, h => by simp at h; subst h; exact ⟨rfl, rfl⟩
  | u :: r, i + 1, t, h => by
    have := pcs_get r i t (by simpa using h)
    rw [show (i + 1) * 2 = i * 2 + 2 by omega, show i * 2 + 2 + 1 = i * 2 + 1 + 2 by omega]
    exact this
theorem PRow.cons {w : World} {b off : Nat} {t : PT} {l : List PT} (h : PRow w b off (t :: l)) : w.cell? ⟨b, off, none⟩ = some (.int .i64 (t.wt : Nat)) ∧ w.cell? ⟨b, off + 1, none⟩ = some t.fv ∧ PRow w b (off + 2) l := by
  obtain ⟨h1, h2⟩ := h 0 t rfl
  refine ⟨by simpa using h1, by simpa using h2, fun i u hu => ?_⟩
  have := h (i + 1) u (by simpa using hu)
  rw [show off + (i + 1) * 2 = off + 2 + i * 2 by omega] at this
  exact this
theorem PRow.lt {w : World} {b off : Nat} {t : PT} {l : List PT} (h : PRow w b off (t :: l)) : b < w.heap.size := lt_cell h.cons.1
theorem PRow.below {w w' : World} {b off B : Nat} {l : List PT} (h : PRow w b off l) (hb : Below B w w') (hlt : b < B) : PRow w' b off l := fun i t ht => by
  obtain ⟨h1, h2⟩ := h i t ht
  rw [hb.cell hlt, hb.cell hlt]
  exact ⟨h1, h2⟩
theorem add_zero_addr (g j : Nat) : (⟨g, 0, none⟩ : Addr).add j = ⟨g, j, none⟩ := by
  unfold Addr.add; split
  · subst_vars; rfl
  · simp
theorem PRow.owned {w : World} {B g n cap : Nat} {l : List PT} (h : w.ownsRow B 138 2 (.slice (some ⟨g, 0, none⟩) n cap) n (pcs l)) : PRow w g 0 l := fun i t ht => by
  obtain ⟨h1, h2⟩ := pcs_get l i t ht
  have := h.cells (g := g) rfl
  have h3 := this _ _ h1
  have h4 := this _ _ h2
  rw [add_zero_addr] at h3 h4
  rw [Nat.zero_add]
  exact ⟨h3, h4⟩
theorem packInfo : (Tryd.prog.info? 138).map (fun i => (i.zero, i.size, i.bytes)) = some (some (.agg #[.int .i64 0, .nilFunc]), 2, 16) := by kernel_rfl
theorem info_split {t : TypeId} {z : Option Value} {n m : Nat} (h : (Tryd.prog.info? t).map (fun i => (i.zero, i.size, i.bytes)) = some (z, n, m)) : ∃ i, Tryd.prog.info? t = some i ∧ i.zero = z ∧ i.size = n ∧ i.bytes = m := by
  cases e : Tryd.prog.info? t with
  | none => rw [e] at h; simp at h
  | some i => rw [e] at h; simp at h; exact ⟨i, rfl, h.1, h.2.1, h.2.2⟩
theorem news2 (W : World) (p q : Value) (t : TypeId) : ∀ j u, [p, q][j]? = some u → (W.alloc (.cells #[p, q] t)).cell? ((⟨W.heap.size, 0, none⟩ : Addr).add j) = some u := by
  intro j u h
  match j, h with
  | 0, h => simp at h; subst h; simp [Addr.add]
  | 1, h => simp at h; subst h; simp [Addr.add]
theorem one2 (x : Int) (t : PT) : ∀ u ∈ [Value.int .i64 x, t.fv], u.oneCell' = true := by
  intro u hu
  simp only [List.mem_cons, List.not_mem_nil, or_false] at hu
  rcases hu with rfl | rfl <;> rfl
theorem owns_below {w w' : World} {B : Nat} {E : TypeId} {size n : Nat} {v : Value} {xs : List Value} (h : w.ownsRow B E size v n xs) (hb : Below w.heap.size w w') : w'.ownsRow B E size v n xs := by
  refine ⟨h.1, ?_⟩
  rcases h.2 with hn | ⟨g, cap, cur, hv, hg, hh, r⟩
  · exact .inl hn
  · exact .inr ⟨g, cap, cur, hv, hg, (hb.block g (lt_heap hh)).trans hh, r⟩
theorem grown_cell {w w' : World} {r : Option Nat} (hg : w.grownBy w' r) {k i : Nat} {v : Value} (h : w.cell? ⟨k, i, none⟩ = some v) (hk : r ≠ some k) : w'.cell? ⟨k, i, none⟩ = some v := by
  have := hg.block k (lt_cell h) (fun e => hk e.symm)
  simp only [World.cell?, this] at h ⊢
  exact h
theorem own_lt {w : World} {B : Nat} {E : TypeId} {size n : Nat} {v : Value} {xs : List Value} (h : w.ownsRow B E size v n xs) {k : Nat} (hk : w.heap.size ≤ k) : v.ownBlock ≠ some k := by
  rcases h.2 with ⟨rfl, _⟩ | ⟨g, cap, cur, rfl, hgB, hh, _⟩
  · simp [Value.ownBlock]
  · intro e
    have e' : g = k := by simpa [Value.ownBlock] using e
    have := lt_heap hh
    omega
theorem below_grown {B : Nat} {w w' : World} {v : Value} {E : TypeId} {n size : Nat} {xs : List Value} (ho : w.ownsRow B E size v n xs) (hg : w.grownBy w' v.ownBlock) (hB : B ≤ w.heap.size) : Below B w w' :=
  ⟨hg.os, hg.tape, hg.output, hg.size, fun k hk => hg.block k (by omega) (fun e => by
    rcases ho.2 with ⟨rfl, _⟩ | ⟨g, cap, cur, rfl, hgB, _⟩
    · simp [Value.ownBlock] at e
    · have e' : k = g := by simpa [Value.ownBlock] using e
      omega)⟩
end Go.Proofs.YtlbadjfcffoakaaDoor
namespace Go.Proofs.YtlbadjfcffoakaaDoor
open Go.RowKit PT
set_option linter.unusedVariables false
set_option maxRecDepth 20000

structure PairsSt (w wr : World) (L n : Nat) (l done rest m : List PT) (v : Value) : Prop where
  all : l = done ++ rest
  even : done.length = 2 * m.length
  pairs : Pairs done m
  own : wr.ownsRow w.heap.size 138 2 v m.length (pcs m)
  laid : ∀ u ∈ m, ∃ s t x y, u = PT.node s t x y ∧ Laid w L n s ∧ Laid w L n t ∧ x ≠ L ∧ y ≠ L ∧ wr.cell? ⟨x, 1, none⟩ = some s.fv ∧ wr.cell? ⟨y, 1, none⟩ = some t.fv ∧ v.ownBlock ≠ some x ∧ v.ownBlock ≠ some y
  bel : Below w.heap.size w wr

theorem PairsSt.all_laid {w wr : World} {L n : Nat} {l done rest m : List PT} {v : Value} (h : PairsSt w wr L n l done rest m v) : ∀ t ∈ m, Laid wr L n t := fun u hu => by
  obtain ⟨s, t, x, y, rfl, h1, h2, h3, h4, h5, h6, _⟩ := h.laid u hu
  exact .node h3 h4 h5 h6 (h1.below h.bel) (h2.below h.bel)
theorem PairsSt.more {w wr V2 w1 : World} {L n x y g cap : Nat} {l done rest m : List PT} {s t : PT} {V : Value} {o : Obj} (h : PairsSt w wr L n l done (s :: t :: rest) m V)
    (hs : Laid w L n s) (ht : Laid w L n t) (hx : wr.heap.size ≤ x) (hy : wr.heap.size ≤ y) (hu : x ≠ L ∧ y ≠ L ∧ V2.cell? ⟨x, 1, none⟩ = some s.fv ∧ V2.cell? ⟨y, 1, none⟩ = some t.fv) (hbw : Below wr.heap.size wr V2)
    (hown : w1.ownsRow w.heap.size 138 2 (.slice (some ⟨g, 0, none⟩) (m.length + 1) cap) (m.length + 1) (pcs m ++ [.int .i64 ((PT.node s t x y).wt : Nat), (PT.node s t x y).fv]))
    (hgrow : (V2.alloc o).grownBy w1 V.ownBlock) (hat : V.ownBlock = some g ∨ g = (V2.alloc o).heap.size) :
    PairsSt w w1 L n l (done ++ [s, t]) rest (m ++ [PT.node s t x y]) (.slice (some ⟨g, 0, none⟩) (m.length + 1) cap) := by
  have hal : Below V2.heap.size V2 (V2.alloc o) := (Below.refl _ _).alloc (Nat.le_refl _) _
  have hbV : Below w.heap.size w V2 := h.bel.trans (hbw.mono h.bel.size)
  have hoV : (V2.alloc o).ownsRow w.heap.size 138 2 V m.length (pcs m) := (owns_below h.own hbw).alloc o
  have hbA : Below w.heap.size w (V2.alloc o) := hbV.trans (hal.mono hbV.size)
  have hb1 : Below w.heap.size w w1 := hbA.trans (below_grown hoV hgrow hbA.size)
  have keep : ∀ {k : Nat} {u : Value}, V2.cell? ⟨k, 1, none⟩ = some u → V.ownBlock ≠ some k → w1.cell? ⟨k, 1, none⟩ = some u := fun {k u} hc hk =>
    grown_cell hgrow (by rw [hal.cell (lt_cell hc)]; exact hc) hk
  have notnew : ∀ {k : Nat} {u : Value}, V2.cell? ⟨k, 1, none⟩ = some u → V.ownBlock ≠ some k → (Value.slice (some ⟨g, 0, none⟩) (m.length + 1) cap).ownBlock ≠ some k := fun {k u} hc hk e => by
    have e' : g = k := by simpa [Value.ownBlock] using e
    subst e'
    rcases hat with h' | h'
    · exact hk h'
    · have := lt_cell hc; simp at h'; omega
  obtain ⟨n1, n2, c1, c2⟩ := hu
  refine ⟨by rw [h.all]; simp, by have := h.even; simp; omega, ?_, ?_, ?_, hb1⟩
  · exact h.pairs.append h.even ⟨_, [], rfl, ⟨x, y, rfl⟩, rfl⟩
  · rw [pcs_append, List.length_append]; exact hown
  · intro u hu
    rcases List.mem_append.1 hu with hu | hu
    · obtain ⟨s', t', x', y', rfl, q1, q2, q3, q4, q5, q6, q7, q8⟩ := h.laid u hu
      have q5' : V2.cell? ⟨x', 1, none⟩ = some s'.fv := by rw [hbw.cell (lt_cell q5)]; exact q5
      have q6' : V2.cell? ⟨y', 1, none⟩ = some t'.fv := by rw [hbw.cell (lt_cell q6)]; exact q6
      exact ⟨s', t', x', y', rfl, q1, q2, q3, q4, keep q5' q7, keep q6' q8, notnew q5' q7, notnew q6' q8⟩
    · simp only [List.mem_cons, List.not_mem_nil, or_false] at hu
      subst hu
      have ox := own_lt h.own hx
      have oy := own_lt h.own hy
      exact ⟨s, t, x, y, rfl, hs, ht, n1, n2, keep c1 ox, keep c2 oy, notnew c1 ox, notnew c2 oy⟩

theorem wtL_le {l : List PT} {t : PT} (h : t ∈ l) : t.wt ≤ wtL l := by
  induction l with
  | nil => simp at h
  | cons u r ih =>
    rcases List.mem_cons.1 h with rfl | h
    · simp only [wtL]; omega
    · have := ih h; simp only [wtL]; omega

set_option maxRecDepth 20000 in
set_option maxHeartbeats 4000000 in
theorem pairs_ok (l : List PT) (L n b off c : Nat) (w : World) (hrow : PRow w b off l) (hlaid : ∀ t ∈ l, Laid w L n t) (hL : L < w.heap.size) (hb : b < w.heap.size) (hc : l.length ≤ c) (hlen : l.length ≤ 100000) (hc2 : c ≤ 9223372036854775807) (hwt : wtL l < 4611686018427387904) :
    Calls Tryd.prog 84 #[.slice (some ⟨b, off, none⟩) l.length c] w fun e w' =>
      ∃ v m, e = .returned v ∧ Pairs l m ∧ w'.ownsRow w.heap.size 138 2 v m.length (pcs m) ∧ (∀ t ∈ m, Laid w' L n t) ∧ Below w.heap.size w w' := by
  obtain ⟨i0, hi, hz0, hz1, hz2⟩ := info_split packInfo
  have HROW : Hid (PRow w b off l) := hrow
  have HLAID : Hid (∀ t ∈ l, Laid w L n t) := hlaid
  have HWT : Hid (wtL l < 4611686018427387904) := hwt
  have HI : Hid (Tryd.prog.info? 138 = some i0 ∧ i0.zero = some (.agg #[.int .i64 0, .nilFunc]) ∧ i0.size = 2 ∧ i0.bytes = 16) := ⟨hi, hz0, hz1, hz2⟩
  clear hrow hlaid hwt hi hz0 hz1 hz2
  go_enter Tryd.func84, Tryd.ntmps84
  go_wp2
  go_loopw [0, 3] (fun v0 v3 wr => ∃ (o' c' : Nat) (done rest m : List PT) (V : Value), V = v3 ∧ v0 = .slice (some ⟨b, o', none⟩) rest.length c' ∧ rest.length ≤ c' ∧ c' ≤ 9223372036854775807 ∧ Hid (PRow w b o' rest) ∧ Hid (PairsSt w wr L n l done rest m V)) (fun v0 _ _ => match v0 with | .slice _ k _ => k | _ => 0)
  case atStart => exact ⟨off, c, [], l, [], _, rfl, rfl, hc, hc2, HROW, ⟨rfl, rfl, rfl, World.ownsRow_nil _ _ _ _, by simp, Below.refl _ _⟩⟩
  case round =>
    obtain ⟨o', c', done, rest, m, V, rfl, rfl, hcc, hc2', HR, HS⟩ := hrel
    match rest, hcc, HR, HS with
    | [], hcc, HR, HS =>
      go_wp2
      go_ret
      exact ⟨V, m, rfl, by rw [HS.out.all]; simpa using HS.out.pairs, HS.out.own, HS.out.all_laid, HS.out.bel⟩
    | [t], hcc, HR, HS =>
      go_wp2
      go_ret
      refine ⟨V, m, rfl, ?_, HS.out.own, HS.out.all_laid, HS.out.bel⟩
      rw [HS.out.all]
      simpa using HS.out.pairs.append HS.out.even (show Pairs [t] [] from rfl)
    | s :: t :: rest, hcc, HR, HS =>
      obtain ⟨r1, r2, r3⟩ := HR.out.cons
      obtain ⟨r4, r5, r6⟩ := r3.cons
      have HR6 : Hid (PRow w b (o' + 2 + 2) rest) := r6
      have hbel := HS.out.bel
      have R1 : wr.cell? ⟨b, o', none⟩ = some (.int .i64 (s.wt : Nat)) := by rw [hbel.cell hb]; exact r1
      have R2 : wr.cell? ⟨b, o' + 1, none⟩ = some s.fv := by rw [hbel.cell hb]; exact r2
      have R4 : wr.cell? ⟨b, o' + 2, none⟩ = some (.int .i64 (t.wt : Nat)) := by rw [hbel.cell hb]; exact r4
      have R5 : wr.cell? ⟨b, o' + 2 + 1, none⟩ = some t.fv := by rw [hbel.cell hb]; exact r5
      clear r1 r2 r3 r4 r5 r6 hbel
      obtain ⟨k, hk⟩ : ∃ k, rest.length = k := ⟨_, rfl⟩
      have hlk : (s :: t :: rest).length = k + 2 := by simp [hk]
      have HK : Hid (rest.length = k) := hk
      rw [hlk]
      rw [hlk] at hcc
      clear hk hlk
      have HTG : Hid (∀ W, Below wr.heap.size wr W → Calls Tryd.prog 90 #[.agg #[.int .i64 (s.wt : Nat), s.fv], .agg #[.int .i64 (t.wt : Nat), t.fv]] W fun e w' => ∃ x y, e = .returned (.agg #[.int .i64 ((PT.node s t x y).wt : Nat), (PT.node s t x y).fv]) ∧ (x ≠ L ∧ y ≠ L ∧ w'.cell? ⟨x, 1, none⟩ = some s.fv ∧ w'.cell? ⟨y, 1, none⟩ = some t.fv) ∧ W.heap.size ≤ x ∧ W.heap.size ≤ y ∧ Below W.heap.size W w') := fun W hW => by
        have hst := HS.out.all
        have hs : s ∈ l := by rw [hst]; simp
        have ht : t ∈ l := by rw [hst]; simp
        have hb1 := HS.out.bel.trans (hW.mono HS.out.bel.size)
        have hwl : wtL l = wtL done + (s.wt + (t.wt + wtL rest)) := by rw [hst, wtL_append]; rfl
        exact together_ok s t L n W (by have := hb1.size; omega) (by have := HWT.out; omega)
      have hmk : m.length ≤ 100000 := by
        have h1 := HS.out.even; have h2 := HS.out.all; rw [h2] at hlen; simp at hlen; omega
      go_wp2_with fail
      go_region_held_law (fun w' => w'.cell? ⟨b, o', none⟩ = some (.int .i64 (s.wt : Nat)) ∧ w'.cell? ⟨b, o' + 1, none⟩ = some s.fv ∧ w'.cell? ⟨b, o' + 2, none⟩ = some (.int .i64 (t.wt : Nat)) ∧ w'.cell? ⟨b, o' + 2 + 1, none⟩ = some t.fv)
        (first | assumption | go_keep)
        (first
          | (go_at_call 90; refine (HTG.out _ ((Below.refl _ _).drew)).mono ?_; rintro e V2 ⟨x, y, rfl, hlx, hx1, hy1, hbx⟩; have hbw : Below wr.heap.size wr V2 := ⟨hbx.os, hbx.tape, hbx.output, hbx.size, hbx.block⟩; have hbr : b < wr.heap.size := Nat.lt_of_lt_of_le hb HS.out.bel.size; have hbr2 : b < V2.heap.size := Nat.lt_of_lt_of_le hbr hbw.size; have KS := (⟨by rw [hbw.cell hbr]; exact R1, by rw [hbw.cell hbr]; exact R2, by rw [hbw.cell hbr]; exact R4, by rw [hbw.cell hbr]; exact R5⟩ : V2.cell? ⟨b, o', none⟩ = some (.int .i64 (s.wt : Nat)) ∧ V2.cell? ⟨b, o' + 1, none⟩ = some s.fv ∧ V2.cell? ⟨b, o' + 2, none⟩ = some (.int .i64 (t.wt : Nat)) ∧ V2.cell? ⟨b, o' + 2 + 1, none⟩ = some t.fv); obtain ⟨u, hu⟩ : ∃ u, PT.node s t x y = u := ⟨_, rfl⟩; have HU : Hid (PT.node s t x y = u ∧ (x ≠ L ∧ y ≠ L ∧ V2.cell? ⟨x, 1, none⟩ = some s.fv ∧ V2.cell? ⟨y, 1, none⟩ = some t.fv) ∧ Below wr.heap.size wr V2 ∧ wr.heap.size ≤ x ∧ wr.heap.size ≤ y) := ⟨hu, hlx, hbw, hx1, hy1⟩; have HO : Hid (∀ o, (V2.alloc o).ownsRow w.heap.size 138 2 V m.length (pcs m) ∧ w.heap.size ≤ (V2.alloc o).heap.size) := (fun o => ⟨(owns_below HS.out.own hbw).alloc o, by have h1 := HS.out.bel.size; have h2 := hbw.size; simp; omega⟩); rw [hu]; have KS0 := (⟨by rw [World.cell?_alloc_past _ _ _ hbr2]; exact KS.1, by rw [World.cell?_alloc_past _ _ _ hbr2]; exact KS.2.1, by rw [World.cell?_alloc_past _ _ _ hbr2]; exact KS.2.2.1, by rw [World.cell?_alloc_past _ _ _ hbr2]; exact KS.2.2.2⟩ : (V2.alloc (.cells #[.int .i64 (u.wt : Nat), u.fv] 138)).cell? ⟨b, o', none⟩ = some (.int .i64 (s.wt : Nat)) ∧ (V2.alloc (.cells #[.int .i64 (u.wt : Nat), u.fv] 138)).cell? ⟨b, o' + 1, none⟩ = some s.fv ∧ (V2.alloc (.cells #[.int .i64 (u.wt : Nat), u.fv] 138)).cell? ⟨b, o' + 2, none⟩ = some (.int .i64 (t.wt : Nat)) ∧ (V2.alloc (.cells #[.int .i64 (u.wt : Nat), u.fv] 138)).cell? ⟨b, o' + 2 + 1, none⟩ = some t.fv); clear hu hlx hbx hbw hx1 hy1)
          | (refine step_append_lies _ rfl _ _ 134 rfl w.heap.size 138 i0 (.agg #[.int .i64 0, .nilFunc]) 2 16 Tryd.underlying134 HI.out.1 HI.out.2.1 HI.out.2.2.1 HI.out.2.2.2 rfl (by decide) V m.length (pcs m) rfl (HO.out _).1 ⟨_, 0, none⟩ 1 1 [.int .i64 (u.wt : Nat), u.fv] rfl rfl (news2 _ _ _ _) (one2 _ _) (by decide) (by unfold maxLen; omega) (by omega) (HO.out _).2 _ rfl ?_; intro g cap w1 hown hgrow hat hgl; have hbg := below_grown (HO.out _).1 hgrow (HO.out _).2; have KS1 := (⟨by rw [hbg.cell hb]; exact KS0.1, by rw [hbg.cell hb]; exact KS0.2.1, by rw [hbg.cell hb]; exact KS0.2.2.1, by rw [hbg.cell hb]; exact KS0.2.2.2⟩ : w1.cell? ⟨b, o', none⟩ = some (.int .i64 (s.wt : Nat)) ∧ w1.cell? ⟨b, o' + 1, none⟩ = some s.fv ∧ w1.cell? ⟨b, o' + 2, none⟩ = some (.int .i64 (t.wt : Nat)) ∧ w1.cell? ⟨b, o' + 2 + 1, none⟩ = some t.fv)))
      all_goals
        have H2 : Hid (PairsSt w w1 L n l (done ++ [s, t]) rest (m ++ [u]) (.slice (some ⟨g, 0, none⟩) (m.length + 1) cap)) := by
          obtain ⟨hu, h1, h2, h3, h4⟩ := HU.out
          have hst := HS.out.all
          subst hu
          exact HS.out.more (HLAID.out s (by rw [hst]; simp)) (HLAID.out t (by rw [hst]; simp)) h3 h4 h1 h2 hown hgrow hat
        have H3 : Hid (PRow w b (o' + 2 + 2) rest) := HR6
        clear hown hgrow hat hgl hbg KS1 KS0 KS
        have hlast : (m ++ [u]).length = m.length + 1 := by simp
        go_wp2
        refine ⟨?_, by simp⟩
        by_cases hc0 : c' = 2
        · have hr : rest = [] := List.eq_nil_of_length_eq_zero (by have := HK.out; omega)
          refine ⟨o', c' - 2, done ++ [s, t], rest, m ++ [u], _, rfl, ?_, by have := HK.out; omega, by omega, ?_, H2⟩
          · rw [if_pos hc0, HK.out]
          · rw [hr]; intro i t ht; simp at ht
        · refine ⟨o' + 4, c' - 2, done ++ [s, t], rest, m ++ [u], _, rfl, ?_, by have := HK.out; omega, by omega, H3, H2⟩
          rw [if_neg hc0, HK.out]
end Go.Proofs.YtlbadjfcffoakaaDoor
