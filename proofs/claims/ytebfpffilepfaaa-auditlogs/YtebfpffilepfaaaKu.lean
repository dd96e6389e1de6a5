/- Layer 18: batches one behind the other, parts of their log: what AuditLogs' calls answer. -/
import Derived.Test.YtebfpffilepfaaaKr
namespace Go.Proofs.Ytebfpffilepfaaa
open Go.RowKit Go.Maps Go.Shelf
set_option linter.unusedVariables false
set_option maxRecDepth 20000

/-- A batch of the law's: its number, its records as they were said. -/
abbrev Ba := Nat × List Rec
def szs : List Ba → Nat
  | [] => 0
  | x :: K => x.2.length + szs K
def numb (b : Nat) (M : List Rec) : List Rec := M.mapIdx fun j r => ⟨((b + j : Nat) : Int), r.key, r.val, r.gone⟩
def allOf : Nat → List Ba → List Rec
  | _, [] => []
  | b, x :: K => numb b x.2 ++ allOf (b + x.2.length) K
def aksOf : Nat → List Ba → List Ak
  | _, [] => []
  | b, x :: K => ⟨(x.1 : Nat), 1, (x.1 : Nat), 0, (b : Nat), (x.2.length : Nat)⟩ :: aksOf (b + x.2.length) K
def sdsOf (K : List Ba) : List Sd := K.map fun x => ⟨1, (x.1 : Nat), x.2⟩
theorem szs_snoc (K : List Ba) (x : Ba) : szs (K ++ [x]) = szs K + x.2.length := by
  induction K with
  | nil => simp [szs]
  | cons y K ih => simp only [List.cons_append, szs, ih]; omega
theorem allOf_snoc : ∀ (K : List Ba) (b : Nat) (x : Ba), allOf b (K ++ [x]) = allOf b K ++ numb (b + szs K) x.2
  | [], b, x => by simp [allOf, szs]
  | y :: K, b, x => by
    simp only [List.cons_append, allOf, szs]
    rw [allOf_snoc K, List.append_assoc]
    congr 3
    omega
theorem aksOf_snoc : ∀ (K : List Ba) (b : Nat) (x : Ba), aksOf b (K ++ [x]) = aksOf b K ++ [⟨(x.1 : Nat), 1, (x.1 : Nat), 0, ((b + szs K : Nat) : Int), (x.2.length : Nat)⟩]
  | [], b, x => by simp [aksOf, szs]
  | y :: K, b, x => by
    simp only [List.cons_append, aksOf, szs]
    rw [aksOf_snoc K]
    congr 4
    omega
theorem numb_snoc (b : Nat) (M : List Rec) (r : Rec) : numb b (M ++ [r]) = numb b M ++ [⟨((b + M.length : Nat) : Int), r.key, r.val, r.gone⟩] := by simp [numb]
theorem numb_length (b : Nat) (M : List Rec) : (numb b M).length = M.length := by simp [numb]
theorem allOf_length : ∀ (K : List Ba) (b : Nat), (allOf b K).length = szs K
  | [], _ => rfl
  | x :: K, b => by simp only [allOf, szs, List.length_append, numb_length, allOf_length K]
theorem numb_off {b j : Nat} {M : List Rec} {r : Rec} (h : (numb b M)[j]? = some r) : r.off = ((b + j : Nat) : Int) := by
  unfold numb at h
  rw [List.getElem?_mapIdx, Option.map_eq_some_iff] at h
  obtain ⟨q, _, rfl⟩ := h
  rfl
theorem allOf_off : ∀ (K : List Ba) (b j : Nat) (r : Rec), (allOf b K)[j]? = some r → r.off = ((b + j : Nat) : Int)
  | [], b, j, r, h => by simp [allOf] at h
  | x :: K, b, j, r, h => by
    unfold allOf at h
    rw [List.getElem?_append] at h
    split at h
    · exact numb_off h
    · next hl =>
      rw [numb_length] at hl h
      have := allOf_off K _ _ _ h
      rw [this]
      congr 1
      omega
theorem allOf_zero : ∀ (K : List Ba) (b : Nat) (r : Rec), r ∈ allOf b K → r.zero ∈ zeros (sdsOf K)
  | [], b, r, h => by simp [allOf] at h
  | x :: K, b, r, h => by
    have e : zeros (sdsOf (x :: K)) = x.2.map Rec.zero ++ zeros (sdsOf K) := by simp [zeros, sdsOf]
    rw [e, List.mem_append]
    unfold allOf at h
    rw [List.mem_append] at h
    rcases h with h | h
    · refine .inl ?_
      obtain ⟨j, hj⟩ := List.mem_iff_getElem?.1 h
      unfold numb at hj
      rw [List.getElem?_mapIdx, Option.map_eq_some_iff] at hj
      obtain ⟨q, hq, rfl⟩ := hj
      exact List.mem_map.2 ⟨q, List.mem_of_getElem? hq, rfl⟩
    · exact .inr (allOf_zero K _ r h)
theorem goes_of : ∀ (K : List Ba) (b : Nat), Goes2 (aksOf b K) (sdsOf K)
  | [], _ => trivial
  | x :: K, b => ⟨⟨rfl, rfl, rfl⟩, goes_of K _⟩
theorem dues_of : ∀ (K : List Ba) (b : Nat), (duesOf (aksOf b K) (sdsOf K)).map Due.rec' = allOf b K
  | [], _ => rfl
  | x :: K, b => by
    show (oneD _ x.2 ++ duesOf (aksOf (b + x.2.length) K) (sdsOf K)).map Due.rec' = numb b x.2 ++ allOf _ K
    rw [List.map_append, dues_of K]
    congr 1
    unfold oneD numb
    apply List.ext_getElem
    · simp
    · intro i h1 h2
      simp
theorem dues_step {k : Nat} : ∀ (K : List Ba) (b : Nat), (∀ x ∈ K, x.1 < k) → ∀ d ∈ duesOf (aksOf b K) (sdsOf K), d.step < (k : Nat)
  | [], _, _, d, hd => by simp [aksOf, sdsOf, duesOf] at hd
  | x :: K, b, h, d, hd => by
    have hd' : d ∈ oneD (⟨(x.1 : Nat), 1, (x.1 : Nat), 0, (b : Nat), (x.2.length : Nat)⟩ : Ak) x.2 ++ duesOf (aksOf (b + x.2.length) K) (sdsOf K) := hd
    rw [List.mem_append] at hd'
    rcases hd' with hd' | hd'
    · obtain ⟨j, hj⟩ := List.mem_iff_getElem?.1 hd'
      unfold oneD at hj
      rw [List.getElem?_mapIdx, Option.map_eq_some_iff] at hj
      obtain ⟨q, _, rfl⟩ := hj
      have := h x (by simp)
      show ((x.1 : Nat) : Int) < (k : Nat)
      omega
    · exact dues_step K _ (fun y hy => h y (by simp [hy])) d hd'
theorem up_of {L : List Due} {b : Nat} (h : ∀ j r, (L.map Due.rec')[j]? = some r → r.off = ((b + j : Nat) : Int)) : DUp L := by
  unfold DUp
  rw [List.pairwise_iff_getElem]
  intro i j hi hj hij
  have h1 := h i L[i].rec' (by rw [List.getElem?_map, List.getElem?_eq_getElem hi]; rfl)
  have h2 := h j L[j].rec' (by rw [List.getElem?_map, List.getElem?_eq_getElem hj]; rfl)
  show L[i].rec'.off < L[j].rec'.off
  omega
/-- Batches by rising numbers, none empty, none too long. -/
structure BOk (K : List Ba) : Prop where
  up : K.Pairwise fun x y => x.1 < y.1
  one : ∀ x ∈ K, 1 ≤ x.2.length ∧ x.2.length ≤ 256 ∧ x.1 < 60
theorem aks_mem : ∀ (K : List Ba) (b : Nat) (a : Ak), a ∈ aksOf b K → ∃ x ∈ K, ∃ c, a = ⟨(x.1 : Nat), 1, (x.1 : Nat), 0, ((c : Nat) : Int), (x.2.length : Nat)⟩ ∧ b ≤ c ∧ c + x.2.length ≤ b + szs K
  | [], b, a, h => by simp [aksOf] at h
  | x :: K, b, a, h => by
    unfold aksOf at h
    rw [List.mem_cons] at h
    rcases h with rfl | h
    · exact ⟨x, by simp, b, rfl, Nat.le_refl _, by simp only [szs]; omega⟩
    · obtain ⟨y, hy, c, e, h1, h2⟩ := aks_mem K _ a h
      exact ⟨y, by simp [hy], c, e, by omega, by simp only [szs]; omega⟩
theorem aks_good {K : List Ba} {b : Nat} (h : BOk K) (hb : b + szs K ≤ 1000000) : ∀ a ∈ aksOf b K, a.goodB = true := fun a ha => by
  obtain ⟨x, hx, c, rfl, h1, h2⟩ := aks_mem K b a ha
  obtain ⟨h3, h4, h5⟩ := h.one x hx
  exact (good_iff _).2 ⟨rfl, show (0 : Int) ≤ (c : Nat) by omega, show ((c : Nat) : Int) ≤ 1099511627776 by omega, show (1 : Int) ≤ (x.2.length : Nat) by omega, show ((x.2.length : Nat) : Int) ≤ 256 by omega⟩
theorem aks_ok (K : List Ba) (b : Nat) (h : BOk K) : AOk (aksOf b K) := fun a ha => by
  obtain ⟨x, hx, c, rfl, _⟩ := aks_mem K b a ha
  have := (h.one x hx).2.2
  exact ⟨⟨by show (_ : Int) ≤ 1; omega, by show (1 : Int) ≤ _; omega⟩, ⟨by show (_ : Int) ≤ ((x.1 : Nat) : Int); omega, by show ((x.1 : Nat) : Int) ≤ _; omega⟩⟩
theorem BOk.tail {x : Ba} {K : List Ba} (h : BOk (x :: K)) : BOk K := ⟨(List.pairwise_cons.1 h.up).2, fun y hy => h.one y (by simp [hy])⟩
theorem aks_apart : ∀ (K : List Ba) (b : Nat), BOk K → (aksOf b K).Pairwise fun u v => ¬ (u.prod = v.prod ∧ u.seq = v.seq) ∧ u.base + u.cnt ≤ v.base
  | [], _, _ => List.Pairwise.nil
  | x :: K, b, h => by
    refine List.pairwise_cons.2 ⟨fun v hv => ?_, aks_apart K _ h.tail⟩
    obtain ⟨y, hy, c, rfl, h1, _⟩ := aks_mem K _ v hv
    have h2 := (List.pairwise_cons.1 h.up).1 y hy
    refine ⟨fun e => ?_, ?_⟩
    · have : ((x.1 : Nat) : Int) = (y.1 : Nat) := e.2
      omega
    · show ((b : Nat) : Int) + (x.2.length : Nat) ≤ (c : Nat)
      omega
theorem fbad_clear : ∀ (R P : List Ak), (∀ a ∈ R, a.goodB = true) → (P ++ R).Pairwise (fun u v => ¬ (u.prod = v.prod ∧ u.seq = v.seq) ∧ u.base + u.cnt ≤ v.base) → fbad P R = none
  | [], P, _, _ => rfl
  | a :: R, P, hg, hp => by
    have hb : badA P a = false := by
      refine bad_no (hg a (by simp)) (fun u hu _ => ?_)
      have h1 := (List.pairwise_append.1 hp).2.2 u hu a (by simp)
      unfold clash
      rw [if_neg (fun e => h1.1 ((sameId_iff u a).1 e))]
      cases hm : meetB u a with
      | false => rfl
      | true =>
        have := (meet_iff u a).1 hm
        omega
    rw [fbad_no hb]
    exact fbad_clear R (P ++ [a]) (fun x hx => hg x (by simp [hx])) (by rw [List.append_assoc]; exact hp)
/-- A fetch of a part of a log. -/
def Part (A : List Rec) (f : Fe) : Prop := f.err = 0 ∧ 1000 ≤ f.step ∧ f.step ≤ 2000 ∧ ∃ fr n : Nat, fr + n ≤ A.length ∧ f.from' = ((fr : Nat) : Int) ∧ f.rec' = (A.drop fr).take n
/-- Offsets from 0 on. -/
def Log0 (A : List Rec) : Prop := ∀ j r, A[j]? = some r → r.off = ((j : Nat) : Int)
theorem part_get {A : List Rec} {fr n j : Nat} {r : Rec} (h : ((A.drop fr).take n)[j]? = some r) : A[fr + j]? = some r := by
  rw [List.getElem?_take] at h
  split at h
  · rwa [List.getElem?_drop] at h
  · cases h
theorem rises_from {fr : Nat} : ∀ (T P : List Rec), (∀ j r, (P ++ T)[j]? = some r → r.off = ((fr + j : Nat) : Int)) → risesG ((fr : Nat) : Int) P T = true
  | [], P, _ => rfl
  | r :: T, P, h => by
    have hr := h P.length r (by simp)
    have hs : stepBad ((fr : Nat) : Int) P r = false := by
      unfold stepBad
      rw [Bool.or_eq_false_iff]
      refine ⟨decide_eq_false (by omega), ?_⟩
      rcases List.eq_nil_or_concat P with e | ⟨Q, q, e⟩
      · subst e; rfl
      · rw [List.concat_eq_append] at e
        subst e
        have hq := h Q.length q (by simp)
        rw [List.getLast?_append]
        simp only [List.getLast?_singleton, Option.some_or]
        refine decide_eq_false ?_
        rw [List.length_append] at hr
        simp only [List.length_cons, List.length_nil] at hr
        omega
    unfold risesG
    rw [hs, Bool.not_false, Bool.true_and]
    exact rises_from T (P ++ [r]) (by rw [List.append_assoc]; exact h)
theorem noted_part {A : List Rec} : ∀ (F : List Fe), (∀ f ∈ F, Part A f) → ∀ r ∈ noted F, r ∈ A := fun F h r hr => by
  unfold noted at hr
  rw [List.mem_flatMap] at hr
  obtain ⟨f, hf, hr⟩ := hr
  obtain ⟨he, _, _, fr, n, _, _, e⟩ := h f hf
  rw [if_pos he, e] at hr
  exact List.mem_of_mem_drop (List.mem_of_mem_take hr)
theorem log_inj {A : List Rec} (h : Log0 A) {q r : Rec} (hq : q ∈ A) (hr : r ∈ A) (e : q.off = r.off) : q = r := by
  obtain ⟨i, hi⟩ := List.mem_iff_getElem?.1 hq
  obtain ⟨j, hj⟩ := List.mem_iff_getElem?.1 hr
  have h1 := h i q hi
  have h2 := h j r hj
  have : i = j := by omega
  subst this
  rw [hi] at hj
  cases hj
  rfl
theorem ffbad_clear {A Z : List Rec} (hA : Log0 A) (hZ : ∀ r ∈ A, r.zero ∈ Z) : ∀ (R P : List Fe), (∀ f ∈ P ++ R, Part A f) → ffbad Z P R = none
  | [], P, _ => rfl
  | f :: R, P, h => by
    obtain ⟨he, _, _, fr, n, hl, h1, h2⟩ := h f (by simp)
    have hm : ∀ r ∈ f.rec', r ∈ A := fun r hr => by rw [h2] at hr; exact List.mem_of_mem_drop (List.mem_of_mem_take hr)
    have hb : badF Z P f = 0 := by
      refine badF_good he ?_ (fun r hr q hq e => ?_) (fun r hr => hZ r (hm r hr))
      · rw [h1, h2]
        refine rises_from _ [] (fun j r hj => ?_)
        rw [List.nil_append] at hj
        exact hA _ r (part_get hj)
      · exact log_inj hA (noted_part P (fun f hf => h f (by simp [hf])) q hq) (hm r hr) e
    rw [ffbad_no hb]
    exact ffbad_clear hA hZ R (P ++ [f]) (by rw [List.append_assoc]; exact h)
theorem part_told {A : List Rec} (hA : Log0 A) {D : List Due} (hD : ∀ d ∈ D, d.rec' ∈ A) {f : Fe} (hf : Part A f) : ¬ Lk D f := by
  obtain ⟨he, _, _, fr, n, hl, h1, h2⟩ := hf
  rintro ⟨_, z, hz, d, hd, h3, h4, h5⟩
  apply h5
  obtain ⟨i, hi⟩ := List.mem_iff_getElem?.1 (hD d hd)
  have ho : d.off = ((i : Nat) : Int) := hA i _ hi
  rw [h2] at hz ⊢
  have hlen : ((A.drop fr).take n).length = n := by rw [List.length_take, List.length_drop]; omega
  rw [List.getLast?_eq_getElem?, hlen] at hz
  have hzo := hA _ z (part_get hz)
  have hn : 0 < n := by
    rcases Nat.eq_zero_or_pos n with e | e
    · subst e; simp at hz
    · exact e
  rw [h1] at h3
  refine List.mem_iff_getElem?.2 ⟨i - fr, ?_⟩
  rw [List.getElem?_take, if_pos (by omega), List.getElem?_drop]
  rw [show fr + (i - fr) = i by omega]
  exact hi
end Go.Proofs.Ytebfpffilepfaaa
