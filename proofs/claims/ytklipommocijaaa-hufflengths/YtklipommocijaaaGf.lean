/- The comparison of packs, and the insertion sort of packs, from a world of the sort's to a world of the sort's. -/
import Derived.Test.YtklipommocijaaaGe
import Derived.Test.YtklipommocijaaaShg
import Derived.Shelf.SlSortCmp.KitK
namespace Go.Proofs.Ytklipommocijaaa
open Go.RowKit PT Go.Sort
set_option linter.unusedVariables false

def cf (x y : PT) : Int := Lib.compareInt (x.wt : Int) (y.wt : Int)
theorem cf_lt (x y : PT) : ltOf cf x y = decide (x.wt < y.wt) := by
  unfold ltOf cf Lib.compareInt
  by_cases h : (x.wt : Int) < (y.wt : Int)
  · have : x.wt < y.wt := by omega
    simp [h, this]
  · have : ¬ x.wt < y.wt := by omega
    by_cases h2 : (y.wt : Int) < (x.wt : Int)
    · simp [h, h2]; omega
    · simp [h, h2]; omega
theorem cf_swo : SWO (ltOf cf) where
  irrefl x := by rw [cf_lt]; simp
  trans x y z h1 h2 := by rw [cf_lt] at *; simp at *; omega
  ntrans x y z h1 h2 := by rw [cf_lt] at *; simp at *; omega

set_option maxHeartbeats 1000000 in
theorem cmp_call (x y : PT) (W : World) : Calls Try.prog 45 #[.agg x.enc.toArray, .agg y.enc.toArray] W fun e w' => e = .returned (.int .i64 (cf x y)) ∧ ∃ q os', w' = grow (W.drewN q) os' := by
  have hcon := fun W' => AnyG.cmp_Compare_int Try.laysCmp (x.wt : Int) (y.wt : Int) W'
  change ∀ W', Calls Try.prog 46 _ _ _ at hcon
  obtain ⟨r, hr⟩ : ∃ r, cf x y = r := ⟨_, rfl⟩
  unfold cf at hr
  rw [hr] at hcon
  have hr' : cf x y = r := hr
  rw [hr']
  have HC : Hid _ := hcon
  obtain ⟨va, hva⟩ : ∃ v, x.fv = .func (.func v) #[] x.cap := ⟨_, rfl⟩
  obtain ⟨vb, hvb⟩ : ∃ v, y.fv = .func (.func v) #[] y.cap := ⟨_, rfl⟩
  unfold PT.enc
  rw [hva, hvb]
  clear hcon hr hr' hva hvb
  go_enter Try.func45, Try.ntmps45
  go_wp2_with (go_at_call 46; refine (HC.out _).mono ?_; rintro e w' ⟨rfl, rfl⟩)
  go_ret
  exact ⟨rfl, 0, _, by rw [alloc_eq_grow, alloc_eq_grow, grow_grow]; rfl⟩
theorem cmpLays (blk off size : Nat) (w : World) : CmpLays Try.prog 45 #[] PT.enc 2 cf blk off size w := fun m os dk _ x y => cmp_call x y _

theorem ins_ok (blk off cap a b : Nat) (d0 d : Array PT) (w0 w : World) (R : RowK PT.enc 2 w0 blk off d0) (hs : d0.size = d.size) (S : SWK PT.enc 2 w0 blk off d w) (hab : a ≤ b) (hb : b ≤ d.size) (hsz : d.size < 4611686018427387904) :
    Calls Try.prog 54 #[.slice (some ⟨blk, off, none⟩) d.size cap, .int .i64 a, .int .i64 b, .func (.func 45) #[] #[]] w fun e w' =>
      e = .returned (.tuple #[]) ∧ ∃ d', PermIn a b d d' ∧ SortedIn (ltOf cf) a b d' ∧ SWK PT.enc 2 w0 blk off d' w' := by
  obtain ⟨h1, h2⟩ := insertionSort_holds cf_swo d a b hab hb
  have eg : ∀ args w, (callFunc 45 args).run Try.prog w = .ok (.enter 45 args) w := enters_of Try.func45 (by kernel_rfl) rfl
  refine (AnyQ.insertionSortCmpFunc Try.laysIns 2 Try.isAgg57 Try.sizeOf57 PT.enc R.hk R.h1 cf 45 #[] blk off cap a b d w eg (cmpLays _ _ _ _) (S.holds R.hblk R.hH hs.symm) (S.lt R.hblk) hab hb hsz).mono ?_
  rintro e w' ⟨rfl, n, os, rfl⟩
  exact ⟨rfl, _, h1, h2, S.on R.hblk n _ os h1.1⟩
end Go.Proofs.Ytklipommocijaaa
