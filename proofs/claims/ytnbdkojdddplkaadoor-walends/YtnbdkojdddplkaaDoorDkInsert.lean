/- The walks of slices.Insert and slices.Delete at files. -/
import Derived.Test.YtnbdkojdddplkaaDoorDkRow
import Derived.Test.YtnbdkojdddplkaaDoorRows
import Derived.WalkKit
import Derived.BigQuiet
import Derived.Deep.RegionLaw
import Derived.Laws.Externs
import Derived.Lib.SliceRun
namespace Go.Proofs.YtnbdkojdddplkaaDoor.Dk
open Go.RowKit

theorem Tryd.info99 : (Tryd.prog.info? 99).map (fun i => (i.zero, i.size, i.bytes)) = some (some (.agg #[.string ⟨#[]⟩, .slice none 0 0]), 2, 40) := by kernel_rfl

set_option maxHeartbeats 1000000 in
theorem insert_end (v : Value) (n vb : Nat) (xs : List Value) (s d : Value) (w : World) (h : w.ownsRow 0 99 2 v n xs) (hn : n ≤ 1000000000) (hvb : w.heap[vb]? = some (.cells #[s, d] 99 (0, 0))) (hs : s.oneCell' = true) (hd : d.oneCell' = true) :
    Calls Tryd.prog 81 #[v, .int .i64 n, .slice (some ⟨vb, 0, none⟩) 1 1] w fun e w' => ∃ v', e = .returned v' ∧ w'.ownsRow 0 99 2 v' (n + 1) (xs ++ [s, d]) ∧ w.grownBy w' v.ownBlock ∧ (v'.ownBlock = v.ownBlock ∨ v'.ownBlock = some w.heap.size) := by
  obtain ⟨i, hi, hz0, hz1, hz2⟩ := info_parts Tryd.info99
  have hcell : ∀ j u, [s, d][j]? = some u → w.cell? ((⟨vb, 0, none⟩ : Addr).add j) = some u := by
    intro j u hj
    rw [Addr.add_lit, Nat.zero_add, cell_of_row w vb j _ 99 _ hvb]
    simpa using hj
  obtain ⟨v', w', hr, hO, hg, _, hat⟩ := run_append_own_at (P := Tryd.prog) w 0 58 58 99 i _ 2 40 Tryd.underlying58 hi hz0 hz1 hz2 rfl (by decide) v n xs h ⟨vb, 0, none⟩ 1 1 [s, d] rfl hcell (by simp [hs, hd]) (by simp only [maxLen]; omega) (by omega) (Nat.zero_le _)
  have HX : Hid (w'.ownsRow 0 99 2 v' (n + 1) (xs ++ [s, d]) ∧ w.grownBy w' v.ownBlock ∧ (v'.ownBlock = v.ownBlock ∨ v'.ownBlock = some w.heap.size)) := ⟨hO, hg, hat⟩
  clear hO hg hat hcell
  rcases own_shape h with ⟨rfl, rfl⟩ | ⟨g, cap, rfl, hc1, hc2, hc3⟩
  · have hr' : ∀ ty, (Builtin.append_ #[58, 57] ty #[.slice none 0 0, .slice (some ⟨vb, 0, none⟩) 1 1]).run Tryd.prog w = .ok v' w' := fun ty => by
      rw [append_types w 58 99 ty 57 58 99 99 i _ _ _ _ Tryd.underlying58 hi Tryd.underlying57 Tryd.underlying58]
      exact hr
    clear h hr hi hz0 hz1 hz2
    go_enter Tryd.func81, Tryd.ntmps81
    go_wp2_with (at_builtin; refine Lib.wpList_append_run _ rfl _ _ _ _ rfl _ _ rfl rfl _ _ (hr' _) ?_)
    go_ret
    exact ⟨_, rfl, HX.out⟩
  · have hr' : ∀ ty, (Builtin.append_ #[58, 57] ty #[.slice (some ⟨g, 0, none⟩) n cap, .slice (some ⟨vb, 0, none⟩) 1 1]).run Tryd.prog w = .ok v' w' := fun ty => by
      rw [append_types w 58 99 ty 57 58 99 99 i _ _ _ _ Tryd.underlying58 hi Tryd.underlying57 Tryd.underlying58]
      exact hr
    have hc2' : cap ≤ 9223372036854775807 := hc2
    clear h hr hi hz0 hz1 hz2 hc2
    go_enter Tryd.func81, Tryd.ntmps81
    go_wp2_with (at_builtin; refine Lib.wpList_append_run _ rfl _ _ _ _ rfl _ _ rfl rfl _ _ (hr' _) ?_)
    all_goals go_ret
    all_goals exact ⟨_, rfl, HX.out⟩
end Go.Proofs.YtnbdkojdddplkaaDoor.Dk
