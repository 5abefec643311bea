/- The walks of words (where there is no fault), open and Program. The walks of signOf, termText and literalText. The walk of Print. The walks of only and Fact. -/
import Derived.Test.YtcfhpodpkficaaaGreatDoorPart08
import Derived.Deep.RegionHeld
namespace Go.Proofs.YtcfhpodpkficaaaGreatDoor.Sy
open Go.RowKit
open Lx (Wd tx cellsW wpList_append_run bs scanAt Sg)
open Vl (Tm Fr)

/-- What words gives. -/
def Ws (s : ByteArray) (w : World) (e : Ending) (w' : World) : Prop := ∃ v, e = .returned (.tuple #[v, .int .i64 0]) ∧ w'.ownsRow w.heap.size 101 3 v (wordsL (bs s)).length (cellsW (wordsL (bs s))) ∧ Below w.heap.size w w'

set_option maxRecDepth 10000 in
theorem words_good (s : ByteArray) (w : World) (hg : Sg w) (hs : s.size ≤ 4000) {L : List Wd} (h : scanAt (bs s) 0 = some L) :
    Calls Tryz.prog 41 #[.string s] w fun e w' => Ws s w e w' := by
  have HS := hide (Lx.scan_any s w hg hs)
  have e : wordsL (bs s) = L := by rw [wordsL, h]
  unfold Ws
  rw [e]
  go_enter Tryz.func41, Tryz.ntmps41
  go_wp2_with fail
  refine Calls.mono HS.out ?_
  rintro e w1 (⟨v, L', h1, rfl, hr⟩ | ⟨h1, _⟩)
  · obtain rfl : L = L' := Option.some.inj (h.symm.trans h1)
    have HR := hide hr
    obtain ⟨ao, cap, rfl, _⟩ := hr.slice
    clear hr h1 h HS
    go_wp2_with fail
    go_ret2
    exact ⟨_, rfl, HR.out.row, HR.out.below⟩
  · rw [h] at h1
    cases h1

theorem words_long (s : ByteArray) (w : World) (hs : 4000 < s.size) :
    Calls Tryz.prog 41 #[.string s] w fun e w' => e = .returned (.tuple #[.slice none 0 0, .int .i64 8]) ∧ w' = w := by
  have HS := hide (Lx.scan_long s w hs)
  go_enter Tryz.func41, Tryz.ntmps41
  go_wp2_with fail
  refine Calls.mono HS.out ?_
  rintro e w1 ⟨rfl, hw⟩
  have hw' := hw.symm
  subst hw'
  go_wp2_with fail
  go_ret2
  exact ⟨rfl, rfl⟩

theorem open_of (s : ByteArray) (w : World) (hs : s.size ≤ 4000) (HW : Calls Tryz.prog 41 #[.string s] w fun e w' => Ws s w e w') :
    Calls Tryz.prog 21 #[.string s] w fun e w' => ∃ r v, e = .returned (.tuple #[.pointer (some ⟨r, 0, none⟩), .int .i64 0]) ∧ Rd w' r v (wordsL (bs s)) 0 ∧ Below w.heap.size w w' ∧ w.heap.size ≤ r := by
  have hlen := (words_ok (bs s)).2
  rw [Lx.bs_length] at hlen
  have HW' := hide HW
  clear HW
  go_enter Tryz.func21, Tryz.ntmps21
  go_wp2_with fail
  refine Calls.mono HW'.out ?_
  rintro e w1 ⟨v, rfl, hr, hb⟩
  have HR := hide hr
  have HB := hide hb
  have hsz := hb.size
  obtain ⟨_, ao, cap, rfl⟩ := own_len hr
  clear hr hb HW'
  go_wp2_with fail
  go_ret2
  refine ⟨_, _, rfl, ⟨Bx.new w1 _ _, Vl.own_zero (HR.out.alloc _), Nat.zero_le _, by omega⟩, HB.out.alloc hsz _, hsz⟩

theorem open_long (s : ByteArray) (w : World) (hs : 4000 < s.size) :
    Calls Tryz.prog 21 #[.string s] w fun e w' => ∃ p, e = .returned (.tuple #[p, .int .i64 8]) ∧ Below w.heap.size w w' := by
  have HW := hide (words_long s w hs)
  go_enter Tryz.func21, Tryz.ntmps21
  go_wp2_with fail
  refine Calls.mono HW.out ?_
  rintro e w1 ⟨rfl, hw⟩
  have hw' := hw.symm
  subst hw'
  go_wp2_with fail
  go_ret2
  exact ⟨_, rfl, Lx.below_box _ _⟩

def cellsRz (zs : List (Rul × Value × Value)) : List Value := zs.flatMap fun z => [.int .i64 z.1.1.1, .string z.1.1.2.1, z.2.1, z.2.2]
theorem cellsRz_snoc (zs : List (Rul × Value × Value)) (z : Rul × Value × Value) : cellsRz (zs ++ [z]) = cellsRz zs ++ [.int .i64 z.1.1.1, .string z.1.1.2.1, z.2.1, z.2.2] := by simp [cellsRz]
/-- A row of rules. -/
def isRs (w : World) (ls : List Rul) (y : Value) : Prop := ∃ zs : List (Rul × Value × Value), zs.map (·.1) = ls ∧ w.ownsRow 0 36 4 y zs.length (cellsRz zs) ∧ ∀ z ∈ zs, isTs w z.1.1.2.2 z.2.1 ∧ isLs w z.1.2 z.2.2
theorem isRs_below {w w' : World} {ls : List Rul} {y : Value} (ht : isRs w ls y) (hb : Below w.heap.size w w') : isRs w' ls y := by
  obtain ⟨zs, h1, h2, h3⟩ := ht
  exact ⟨zs, h1, Lx.own_below h2 hb, fun z hz => ⟨isTs_below (h3 z hz).1 hb, isLs_below (h3 z hz).2 hb⟩⟩
theorem isLs_grow {W W' : World} {ls : List Lit} {y : Value} (h : isLs W ls y) {b e s n : Nat} {u : Value} {xs : List Value} (ho : W.ownsRow b e s u n xs) (he : e ≠ 53) (he2 : e ≠ 33) (hf : Fr (fun k => u.ownBlock = some k) W W') : isLs W' ls y := by
  obtain ⟨zs, h1, h2, h3⟩ := h
  exact ⟨zs, h1, Vl.own_kept h2 hf fun _ hk hk2 => Vl.own_ne ho h2 he2 hk2 hk, fun z hz => isTs_grow (h3 z hz) ho he hf⟩

def joinP (acc : List Rul) : Except Bool (List Rul) → Except Bool (List Rul)
  | .error e => .error e
  | .ok l => .ok (acc ++ l)
theorem joinP_nil (R : Except Bool (List Rul)) : joinP [] R = R := by cases R <;> rfl
theorem progL_err {n : Nat} {ws : List Wd} {e : Bool} (hw : ws ≠ []) (h : clauseL ws = .error e) : progL n ws = .error e := by
  obtain ⟨x, t, rfl⟩ := List.exists_cons_of_ne_nil hw
  cases n <;> simp [progL, h]
theorem progL_zero {ws : List Wd} {p : Rul × List Wd} (hw : ws ≠ []) (h : clauseL ws = .ok p) : progL 0 ws = .error true := by
  obtain ⟨x, t, rfl⟩ := List.exists_cons_of_ne_nil hw
  simp [progL, h]
theorem progL_more {n : Nat} {ws : List Wd} {c : Rul} {r : List Wd} (hw : ws ≠ []) (h : clauseL ws = .ok (c, r)) : progL (n + 1) ws = joinP [c] (progL n r) := by
  obtain ⟨x, t, rfl⟩ := List.exists_cons_of_ne_nil hw
  simp only [progL, h]
  cases progL n r <;> rfl
theorem progL_nil (n : Nat) : progL n [] = .ok [] := by cases n <;> rfl
theorem joinP_joinP (a b : List Rul) (R : Except Bool (List Rul)) : joinP a (joinP b R) = joinP (a ++ b) R := by
  cases R with
  | error e => rfl
  | ok p => simp [joinP]

/-- What Program gives of words. -/
def Pg (R : Except Bool (List Rul)) (w : World) (e : Ending) (w' : World) : Prop :=
  (match R with
  | .error c => e = .returned (.tuple #[.slice none 0 0, .int .i64 (if c = true then 8 else 4)])
  | .ok l => ∃ y, e = .returned (.tuple #[y, .int .i64 0]) ∧ isRs w' l y) ∧ Below w.heap.size w w'

theorem program_long (s : ByteArray) (w : World) (hs : 4000 < s.size) :
    Calls Tryz.prog 9 #[.string s] w fun e w' => Pg (.error true) w e w' := by
  have HO := hide (open_long s w hs)
  go_enter Tryz.func9, Tryz.ntmps9
  go_wp2_with fail
  refine Calls.mono HO.out ?_
  rintro e w1 ⟨p, rfl, hb⟩
  go_wp2_with fail
  go_ret2
  exact ⟨rfl, hb⟩

set_option maxRecDepth 10000 in
set_option maxHeartbeats 4000000 in
theorem program_of (s : ByteArray) (w : World) (hs : s.size ≤ 4000) (hT : Tb w) (HW : Calls Tryz.prog 41 #[.string s] w fun e w' => Ws s w e w') :
    Calls Tryz.prog 9 #[.string s] w fun e w' => Pg (progL 30 (wordsL (bs s))) w e w' := by
  have HO := hide (open_of s w hs HW)
  have HL := hide (words_ok (bs s)).1
  have HTb := hide hT
  clear HW hT
  obtain ⟨L, hL⟩ : ∃ L, wordsL (bs s) = L := ⟨_, rfl⟩
  rw [hL] at HO HL ⊢
  clear hL
  go_enter Tryz.func9, Tryz.ntmps9
  go_wp2_with fail
  refine Calls.mono HO.out ?_
  rintro e w0 ⟨r, v, rfl, hr0, hb0, hrw⟩
  have H := hide hr0
  have HB := hide hb0
  have HT0 := hide (HTb.out.below hb0)
  have hrlt := hr0.lt
  have hsz0 := hb0.size
  clear HO hr0 hb0 HTb
  go_wp2_with fail
  go_loopw [6] (fun y wr => ∃ (zs : List (Rul × Value × Value)) (b : Nat), zs.length ≤ 30 ∧ Hid (wr.ownsRow w0.heap.size 36 4 y zs.length (cellsRz zs)) ∧ Hid (∀ z ∈ zs, isTs wr z.1.1.2.2 z.2.1 ∧ isLs wr z.1.2 z.2.2) ∧ Hid (Gg w0 r v L b wr) ∧ Hid (progL 30 L = joinP (zs.map (·.1)) (progL (30 - zs.length) (L.drop b)))) (fun y _ => 31 - lenOf y)
  case atStart => exact ⟨[], 0, Nat.zero_le _, ⟨by simp [cellsRz], .inl ⟨rfl, rfl⟩⟩, fun z hz => absurd hz (by simp), Gg.refl H.out, (joinP_nil _).symm⟩
  case round =>
    obtain ⟨zs, b, hacc, HO, HZ, HG, HE⟩ := hrel
    have HD := hide (done_any HG.out.rd)
    obtain ⟨hlen, ao, cap, rfl⟩ := own_len HO.out
    have hle := HG.out.rd.le
    by_cases hdone : b = L.length
    · rw [show decide (b = L.length) = true by simpa using hdone] at HD
      have HE' : Hid (progL 30 L = .ok (zs.map (·.1))) := by
        rw [HE.out, drop_end L b (by omega), progL_nil]
        show Except.ok _ = _
        simp
      go_wp2_with fail
      refine Calls.mono HD.out ?_
      rintro e w1 ⟨rfl, n, rfl⟩
      go_wp2_with fail
      go_ret2
      rw [HE'.out]
      refine ⟨⟨_, rfl, ⟨zs, rfl, Vl.own_zero (Lx.own_below HO.out (below_drewN _ _)), fun z hz => ⟨isTs_below (HZ.out z hz).1 (below_drewN _ _), isLs_below (HZ.out z hz).2 (below_drewN _ _)⟩⟩⟩, ?_⟩
      have hF : Below w.heap.size w0 wr := HG.out.fr.below (fun k hk => by omega) hsz0
      exact (HB.out.trans hF).trans ((below_drewN wr n).mono (Nat.le_trans hsz0 HG.out.fr.size))
    · rw [show decide (b = L.length) = false by simpa using hdone] at HD
      have hne : L.drop b ≠ [] := by
        intro e0
        have := congrArg List.length e0
        rw [List.length_drop] at this
        simp at this
        omega
      have HC : Hid (∀ n, Calls Tryz.prog 23 #[.pointer (some ⟨r, 0, none⟩)] (wr.drewN n) fun e w' => Out isRul rulz (clauseL (L.drop b)) r v L b (wr.drewN n) e w') := fun n =>
        clause_any (HG.out.below (below_drewN wr n)).rd HL.out (HT0.out.kept H.out (HG.out.below (below_drewN wr n)).fr)
      obtain ⟨R, hR⟩ : ∃ R, Hid (clauseL (L.drop b) = R) := ⟨_, rfl⟩
      rw [hR.out] at HC
      go_wp2_with fail
      refine Calls.mono HD.out ?_
      rintro e w1 ⟨rfl, n, rfl⟩
      go_wp2_with fail
      refine Calls.mono (HC.out n) ?_
      intro e w1 ho
      cases R with
      | error c =>
        obtain ⟨rfl, hf⟩ := ho
        have HE' : Hid (progL 30 L = .error c) := by
          show _ = _
          rw [HE.out, progL_err hne hR.out]
          rfl
        have F1 : Fr (fun k => k = r) w0 w1 := (HG.out.below (below_drewN wr n)).fr.trans hf (fun _ _ e => e)
        have HF1 : Hid (∀ o, Below w.heap.size w (w1.alloc o)) := fun o => HB.out.trans ((F1.alloc o).below (fun k hk => by omega) hsz0)
        clear hf F1 HC HO HG HZ HE HD
        simp only [rulz]
        cases c
        all_goals simp only [Bool.false_eq_true, if_false, if_true]
        all_goals go_wp2_with fail
        all_goals go_ret2
        all_goals (rw [HE'.out]; exact ⟨rfl, HF1.out _⟩)
      | ok p =>
        obtain ⟨t, rest⟩ := p
        obtain ⟨y, b', rfl, ⟨va, vb, rfl, hva, hvb⟩, hr, hd, hbb, hf⟩ := ho
        subst hd
        obtain ⟨_, aoa, capa, rfl⟩ := own_len hva
        obtain ⟨aob, capb, rfl⟩ := isLs_shape hvb
        have GN := (HG.out.below (below_drewN wr n))
        have G1 : Hid (Gg w0 r v L b' w1) := GN.then hr hf
        have O1 : Hid (w1.ownsRow w0.heap.size 36 4 (.slice ao zs.length cap) zs.length (cellsRz zs)) := GN.rd.kept hf (Lx.own_below HO.out (below_drewN wr n)) (by decide)
        have Z1 : Hid (∀ z ∈ zs ++ [(t, Value.slice aoa t.1.2.2.length capa, Value.slice aob t.2.length capb)], isTs w1 z.1.1.2.2 z.2.1 ∧ isLs w1 z.1.2 z.2.2) := fun z hz => by
          rcases List.mem_append.1 hz with hz | hz
          · exact ⟨isTs_kept GN.rd hf (isTs_below (HZ.out z hz).1 (below_drewN _ _)), isLs_kept GN.rd hf (isLs_below (HZ.out z hz).2 (below_drewN _ _))⟩
          · obtain rfl : z = (t, Value.slice aoa t.1.2.2.length capa, Value.slice aob t.2.length capb) := by simpa using hz
            exact ⟨hva, hvb⟩
        clear hf hr HG HO HC HZ hva hvb GN HD
        by_cases hfull : zs.length = 30
        · have gf : ((zs.length : Int) == 30) = true := by simp; omega
          have HE' : Hid (progL 30 L = .error true) := by
            rw [HE.out, hfull, Nat.sub_self, progL_zero hne hR.out]
            rfl
          have HF1 : Hid (∀ o, Below w.heap.size w (w1.alloc o)) := fun o => HB.out.trans ((G1.out.fr.alloc o).below (fun k hk => by omega) hsz0)
          clear HE hR O1 G1 hfull Z1
          go_wp2_with fail
          go_ret2
          rw [HE'.out]
          exact ⟨rfl, HF1.out _⟩
        · have gf : ((zs.length : Int) == 30) = false := by simp; omega
          have hsz := G1.out.fr.size
          obtain ⟨g3, cap3, w3, hap, HO3, HF3⟩ := push_row 24 36 4 72 _ Tryz.underlying24 Tryz.info36 rfl (by decide) (by decide) (O1.out.alloc (.cells #[.int .i64 t.1.1, .string t.1.2.1, .slice aoa t.1.2.2.length capa, .slice aob t.2.length capb] 36)) [.int .i64 t.1.1, .string t.1.2.1, .slice aoa t.1.2.2.length capa, .slice aob t.2.length capb] rfl (by simp [Value.oneCell']) (by omega) (by simp; omega)
          have hap' : ∀ ty, (Builtin.append_ #[24, 24] ty #[.slice ao zs.length cap, .slice (some ⟨w1.heap.size + 1, 0, none⟩) 1 1]).run Tryz.prog ((w1.alloc (.cells #[.int .i64 t.1.1, .string t.1.2.1, .slice aoa t.1.2.2.length capa, .slice aob t.2.length capb] 36)).alloc (.cells #[.int .i64 t.1.1, .string t.1.2.1, .slice aoa t.1.2.2.length capa, .slice aob t.2.length capb] 36)) = .ok (.slice (some ⟨g3, 0, none⟩) (zs.length + 1) cap3) w3 := fun ty => by
            have := hap ty
            simpa using this
          have G3 : Hid (Gg w0 r v L b' w3) := (G1.out.alloc _).grow H.out HF3.out fun k hk => (O1.out.lt k hk).1
          have O1a := O1.out.alloc (.cells #[.int .i64 t.1.1, .string t.1.2.1, .slice aoa t.1.2.2.length capa, .slice aob t.2.length capb] 36)
          have Z3 : Hid (∀ z ∈ zs ++ [(t, Value.slice aoa t.1.2.2.length capa, Value.slice aob t.2.length capb)], isTs w3 z.1.1.2.2 z.2.1 ∧ isLs w3 z.1.2 z.2.2) := fun z hz => ⟨isTs_grow (isTs_below (Z1.out z hz).1 (Lx.below_box w1 _)) O1a (by decide) HF3.out, isLs_grow (isLs_below (Z1.out z hz).2 (Lx.below_box w1 _)) O1a (by decide) (by decide) HF3.out⟩
          have hrow : Hid (w3.ownsRow w0.heap.size 36 4 (.slice (some ⟨g3, 0, none⟩) (zs.length + 1) cap3) (zs.length + 1) (cellsRz (zs ++ [(t, Value.slice aoa t.1.2.2.length capa, Value.slice aob t.2.length capb)]))) := by
            rw [cellsRz_snoc]
            exact HO3.out
          have HE' : Hid (progL 30 L = joinP ((zs ++ [(t, Value.slice aoa t.1.2.2.length capa, Value.slice aob t.2.length capb)]).map (·.1)) (progL (30 - (zs ++ [(t, Value.slice aoa t.1.2.2.length capa, Value.slice aob t.2.length capb)]).length) (L.drop b'))) := by
            obtain ⟨m, hm⟩ : ∃ m, 30 - zs.length = m + 1 := ⟨30 - zs.length - 1, by omega⟩
            have hm2 : 30 - (zs ++ [(t, Value.slice aoa t.1.2.2.length capa, Value.slice aob t.2.length capb)]).length = m := by simp; omega
            rw [HE.out, hm, hm2, progL_more hne hR.out, joinP_joinP, List.map_append]
            rfl
          clear HE hR O1 O1a G1 hap HO3 HF3 Z1
          go_wp2_with (at_builtin; refine wpList_append_run _ rfl (.tmp 31) (.tmp 33) 24 24 rfl _ _ rfl rfl (hap' _) ?_)
          go_roundw
          case rel =>
            refine ⟨zs ++ [(t, Value.slice aoa t.1.2.2.length capa, Value.slice aob t.2.length capb)], b', by simp; omega, ?_, Z3, G3, HE'⟩
            show World.ownsRow _ _ _ _ _ _ _
            rw [List.length_append]
            exact hrow.out
          case measure => simp [lenOf]; omega
end Go.Proofs.YtcfhpodpkficaaaGreatDoor.Sy
namespace Go.Proofs.YtcfhpodpkficaaaGreatDoor.Sy
open Go.RowKit
open Lx (Wd tx)
open Vl (Tm Fr prt factS Fm Pow10)

def signS (k : Int) : ByteArray := if k = 3 then ⟨#[61]⟩ else if k = 4 then ⟨#[33, 61]⟩ else if k = 5 then ⟨#[60]⟩ else if k = 6 then ⟨#[60, 61]⟩ else ⟨#[]⟩

set_option maxRecDepth 10000 in
set_option maxHeartbeats 2000000 in
theorem signOf_any (k : Int) (w : World) (h : Tb w) :
    Calls Tryz.prog 48 #[.int .i64 k] w fun e w' => e = .returned (.string (signS k)) ∧ Below w.heap.size w w' := by
  obtain ⟨c0, c1, c2, c3, c4, c5, c6, c7⟩ := h.cells
  have i0 := ix0
  have i1 := ix1
  have i2 := ix2
  have i3 := ix3
  clear h
  by_cases h0 : k = 3
  · have hk : signS k = ⟨#[61]⟩ := by rw [h0]; rfl
    rw [hk]
    have e0 : ((3 : Int) == k) = true := by simp; omega
    clear h0 hk
    go_enter Tryz.func48, Tryz.ntmps48
    go_wp2_with fail
    clear c0 c1 c2 c3 c4 c5 c6 c7
    refine wp_loop_rounds 5 ?_
    rw [rounds_succ]
    go_wp2_with fail
    go_ret
    exact ⟨rfl, below1 w _⟩
  by_cases h1 : k = 4
  · have hk : signS k = ⟨#[33, 61]⟩ := by rw [h1]; rfl
    rw [hk]
    have e0 : ((3 : Int) == k) = false := by simp; omega
    have e1 : ((4 : Int) == k) = true := by simp; omega
    clear h0 h1 hk
    go_enter Tryz.func48, Tryz.ntmps48
    go_wp2_with fail
    clear c0 c1 c2 c3 c4 c5 c6 c7
    refine wp_loop_rounds 5 ?_
    rw [rounds_succ]
    go_wp2_with fail
    rw [rounds_succ]
    go_wp2_with fail
    go_ret
    exact ⟨rfl, below2 w _ _⟩
  by_cases h2 : k = 5
  · have hk : signS k = ⟨#[60]⟩ := by rw [h2]; rfl
    rw [hk]
    have e0 : ((3 : Int) == k) = false := by simp; omega
    have e1 : ((4 : Int) == k) = false := by simp; omega
    have e2 : ((5 : Int) == k) = true := by simp; omega
    clear h0 h1 h2 hk
    go_enter Tryz.func48, Tryz.ntmps48
    go_wp2_with fail
    clear c0 c1 c2 c3 c4 c5 c6 c7
    refine wp_loop_rounds 5 ?_
    rw [rounds_succ]
    go_wp2_with fail
    rw [rounds_succ]
    go_wp2_with fail
    rw [rounds_succ]
    go_wp2_with fail
    go_ret
    exact ⟨rfl, below3 w _ _ _⟩
  by_cases h3 : k = 6
  · have hk : signS k = ⟨#[60, 61]⟩ := by rw [h3]; rfl
    rw [hk]
    have e0 : ((3 : Int) == k) = false := by simp; omega
    have e1 : ((4 : Int) == k) = false := by simp; omega
    have e2 : ((5 : Int) == k) = false := by simp; omega
    have e3 : ((6 : Int) == k) = true := by simp; omega
    clear h0 h1 h2 h3 hk
    go_enter Tryz.func48, Tryz.ntmps48
    go_wp2_with fail
    clear c0 c1 c2 c3 c4 c5 c6 c7
    refine wp_loop_rounds 5 ?_
    rw [rounds_succ]
    go_wp2_with fail
    rw [rounds_succ]
    go_wp2_with fail
    rw [rounds_succ]
    go_wp2_with fail
    rw [rounds_succ]
    go_wp2_with fail
    go_ret
    exact ⟨rfl, below4 w _ _ _ _⟩
  have hk : signS k = ⟨#[]⟩ := by simp [signS, h0, h1, h2, h3]
  rw [hk]
  have e0 : ((3 : Int) == k) = false := by simp; omega
  have e1 : ((4 : Int) == k) = false := by simp; omega
  have e2 : ((5 : Int) == k) = false := by simp; omega
  have e3 : ((6 : Int) == k) = false := by simp; omega
  clear h0 h1 h2 h3 hk
  go_enter Tryz.func48, Tryz.ntmps48
  go_wp2_with fail
  clear c0 c1 c2 c3 c4 c5 c6 c7
  refine wp_loop_rounds 5 ?_
  rw [rounds_succ]
  go_wp2_with fail
  rw [rounds_succ]
  go_wp2_with fail
  rw [rounds_succ]
  go_wp2_with fail
  rw [rounds_succ]
  go_wp2_with fail
  rw [rounds_succ]
  go_wp2_with fail
  go_ret
  exact ⟨rfl, below4 w _ _ _ _⟩

theorem ts_of {w : World} {v : Value} {D : List Tm} (h : isTs w D v) : Vl.Ts w v D := by
  rcases Vl.own_shape h with ⟨rfl, h0⟩ | ⟨g, cap, rfl, h1, _⟩
  · exact ⟨none, 0, by rw [h0], by omega, fun hp => by omega⟩
  · refine ⟨_, cap, rfl, h1, fun hp => ⟨g, 0, rfl, fun i hi => ?_⟩⟩
    have hc := Vl.cellsT_get D i hi
    rw [Nat.zero_add]
    exact ⟨(h.cellAt _ (by omega)).trans hc.1, (h.cellAt _ (by omega)).trans hc.2.1, (h.cellAt _ (by omega)).trans hc.2.2⟩

/-- A term that was read. -/
def OkT (t : Tm) : Prop := (t.1 = 3 → -2147483648 ≤ t.2.2 ∧ t.2.2 ≤ 2147483648) ∧ t.2.1.size ≤ 16
theorem prt_small {t : Tm} (h : OkT t) : (prt t).size ≤ 100 := by
  unfold Vl.prt
  split
  · rename_i h3
    have hb := h.1 h3
    by_cases hz : t.2.2 = 0
    · rw [hz, Vl.size_list]
      simp [Lib.itoa, Lib.decDigits]
    · have hd := Vl.dg_len 20 t.2.2.natAbs (by omega)
      rw [Vl.size_list]
      show (Lib.itoa t.2.2).length ≤ 100
      rw [Vl.itoa_dg _ hz]
      split
      · rw [List.length_cons]; omega
      · omega
  · have := h.2
    omega

theorem termText_any {w : World} {v : Value} {D : List Tm} (h : isTs w D v) (i : Nat) (hi : i < D.length) (hf : D[i].1 = 3 → Fm w D[i].2.2) (hl : D.length ≤ 1000) :
    Calls Tryz.prog 49 #[v, .int .i64 (i : Int)] w fun e w' => e = .returned (.string (prt D[i])) ∧ Below w.heap.size w w' := by
  have HP := hide (Vl.print_any D[i] w hf)
  obtain ⟨ao, cap, rfl, _, hc⟩ := ts_of h
  obtain ⟨g, off, rfl, hc2⟩ := hc (by omega)
  obtain ⟨c0, c1, c2⟩ := hc2 i hi
  have hlt : (i : Int) < (D.length : Int) := by omega
  clear hc hc2 hf h
  generalize D[i] = t at *
  go_enter Tryz.func49, Tryz.ntmps49
  go_wp2_with fail
  refine Calls.mono HP.out ?_
  rintro e w1 ⟨rfl, hb⟩
  go_wp2_with fail
  go_ret
  exact ⟨rfl, hb⟩

/-- A literal that was read. -/
structure OkL (l : Lit) : Prop where
  name : l.2.1.size ≤ 16
  few : l.2.2.length ≤ 4
  terms : ∀ t ∈ l.2.2, OkT t
  kind : 1 ≤ l.1 ∧ l.1 ≤ 6
  two : 3 ≤ l.1 → l.2.2.length = 2
def litS (l : Lit) : ByteArray :=
  if 3 ≤ l.1 then prt (l.2.2.getD 0 (0, ⟨#[]⟩, 0)) ++ ⟨#[32]⟩ ++ signS l.1 ++ ⟨#[32]⟩ ++ prt (l.2.2.getD 1 (0, ⟨#[]⟩, 0))
  else if l.1 = 2 then ⟨#[33]⟩ ++ factS l.2.1 l.2.2 else factS l.2.1 l.2.2
theorem fact_small (l : Lit) (h : OkL l) : (factS l.2.1 l.2.2).size ≤ 5000 := by
  have h1 := Vl.join_len l.2.2 (fun t ht => by have := prt_small (h.terms t ht); omega)
  have h2 := h.name
  have h3 := h.few
  rw [Vl.size_list]
  show (Vl.factL l.2.1 l.2.2).length ≤ _
  rw [Vl.size_list] at h2
  unfold Vl.factL
  split
  · omega
  · simp only [List.length_append, List.length_cons, List.length_nil]
    omega

theorem sign_small (k : Int) : (signS k).size ≤ 2 := by
  unfold signS
  repeat' split
  all_goals decide
theorem sign_some {k : Int} (h : 3 ≤ k) (h6 : k ≤ 6) : ((signS k).toList == []) = false := by
  have : k = 3 ∨ k = 4 ∨ k = 5 ∨ k = 6 := by omega
  rcases this with rfl | rfl | rfl | rfl <;> simp [signS, Lib.toList_data]
theorem sign_none {k : Int} (h : ¬ 3 ≤ k) : ((signS k).toList == []) = true := by
  simp [signS, show ¬ k = 3 by omega, show ¬ k = 4 by omega, show ¬ k = 5 by omega, show ¬ k = 6 by omega, Lib.toList_data]

set_option maxRecDepth 10000 in
set_option maxHeartbeats 4000000 in
theorem literalText_any {w : World} {l : Lit} {va : Value} (h : isTs w l.2.2 va) (hl : OkL l) (hT : Tb w) (hp : Pow10 w) :
    Calls Tryz.prog 30 #[.agg #[.int .i64 l.1, .string l.2.1, va]] w fun e w' => e = .returned (.string (litS l)) ∧ Below w.heap.size w w' := by
  have HSg : Hid (∀ o, Calls Tryz.prog 48 #[.int .i64 l.1] (w.alloc o) fun e w' => e = .returned (.string (signS l.1)) ∧ Below (w.alloc o).heap.size (w.alloc o) w') := fun o => signOf_any l.1 _ (hT.below (Lx.below_box w o))
  have HFm : ∀ t ∈ l.2.2, t.1 = 3 → ∀ W, Below w.heap.size w W → Fm W t.2.2 := fun t ht h3 W hb => .inr ⟨hp.below hb, (hl.terms t ht).1 h3⟩
  have hss := sign_small l.1
  obtain ⟨_, ao, cap, rfl⟩ := own_len h
  by_cases h3 : 3 ≤ l.1
  · have hsg := sign_some h3 hl.kind.2
    have h2 := hl.two h3
    have e : litS l = prt (l.2.2[0]'(by omega)) ++ ⟨#[32]⟩ ++ signS l.1 ++ ⟨#[32]⟩ ++ prt (l.2.2[1]'(by omega)) := by
      rw [litS, if_pos h3]
      simp [List.getD, List.getElem?_eq_getElem (show 0 < l.2.2.length by omega), List.getElem?_eq_getElem (show 1 < l.2.2.length by omega)]
    have HP : Hid (∀ (W : World) (j : Int), Below w.heap.size w W → (j = 0 ∨ j = 1) → Calls Tryz.prog 49 #[.slice ao l.2.2.length cap, .int .i64 j] W fun e w' => e = .returned (.string (if j = 0 then prt (l.2.2[0]'(by omega)) else prt (l.2.2[1]'(by omega)))) ∧ Below W.heap.size W w') := fun W j hb hj => by
      rcases hj with rfl | rfl
      · exact termText_any (isTs_below h hb) 0 (by omega) (fun h3 => HFm _ (List.getElem_mem _) h3 W hb) (by omega)
      · exact termText_any (isTs_below h hb) 1 (by omega) (fun h3 => HFm _ (List.getElem_mem _) h3 W hb) (by omega)
    have p0 := prt_small (hl.terms _ (List.getElem_mem (show 0 < l.2.2.length by omega)))
    have p1 := prt_small (hl.terms _ (List.getElem_mem (show 1 < l.2.2.length by omega)))
    rw [e]
    clear e HFm hp hT h hl
    generalize prt (l.2.2[0]'_) = P0 at *
    generalize prt (l.2.2[1]'_) = P1 at *
    generalize signS l.1 = S at *
    clear h2
    go_enter Tryz.func30, Tryz.ntmps30
    go_wp2_with fail
    refine Calls.mono (HSg.out _) ?_
    rintro e w1 ⟨rfl, hb1⟩
    have hB1 : Bx w1 w.heap.size 33 #[.int .i64 l.1, .string l.2.1, .slice ao l.2.2.length cap] := (Bx.new w _ _).below hb1
    have HB1 := hide ((Lx.below_box w _).trans (hb1.mono (by simp)))
    obtain ⟨⟨c0, c1, c2⟩, _, _, _⟩ := hB1.three
    have HBb := hide hB1
    have HB2 : Hid (∀ W, Below w1.heap.size w1 W → Calls Tryz.prog 49 #[.slice ao l.2.2.length cap, .int .i64 1] W fun e w' => e = .returned (.string P1) ∧ w'.cell? ⟨w.heap.size, 2, none⟩ = some (.slice ao l.2.2.length cap) ∧ Below w.heap.size w w') := fun W hb => (HP.out W 1 (HB1.out.trans (hb.mono HB1.out.size)) (Or.inr rfl)).mono fun e w' ⟨he, hb2⟩ => ⟨he, ((HBb.out.below (hb.trans (hb2.mono hb.size)))).three.1.2.2, (HB1.out.trans (hb.mono HB1.out.size)).trans (hb2.mono (Nat.le_trans HB1.out.size hb.size))⟩
    have hd1 : Below w1.heap.size w1 w1.drew := (Below.refl _ _).drew
    have HP1 : Hid (Calls Tryz.prog 49 #[.slice ao l.2.2.length cap, .int .i64 0] w1.drew fun e w' => e = .returned (.string P0) ∧ w'.cell? ⟨w.heap.size, 2, none⟩ = some (.slice ao l.2.2.length cap) ∧ Hid (Calls Tryz.prog 49 #[.slice ao l.2.2.length cap, .int .i64 1] w' fun e w'' => e = .returned (.string P1) ∧ w''.cell? ⟨w.heap.size, 2, none⟩ = some (.slice ao l.2.2.length cap) ∧ Below w.heap.size w w'')) := (HP.out w1.drew 0 (HB1.out.trans (hd1.mono HB1.out.size)) (Or.inl rfl)).mono fun e w' ⟨he, hb2⟩ => ⟨he, ((HBb.out.below (hd1.trans (hb2.mono hd1.size)))).three.1.2.2, HB2.out _ (hd1.trans (hb2.mono hd1.size))⟩
    clear hd1 hb1 HSg HP HB2 HB1 HBb
    go_wp2_with fail
    go_region_held (fun w' => w'.cell? ⟨w.heap.size, 2, none⟩ = some (.slice ao l.2.2.length cap)) (first | exact c2 | exact m0)
      (first
        | (go_at_call 49; refine Calls.mono m1.out ?_; rintro e w2 ⟨rfl, m0, m2⟩)
        | (go_at_call 49; refine Calls.mono HP1.out ?_; rintro e w2 ⟨rfl, m0, m1⟩))
    all_goals go_wp2_with fail
    all_goals go_ret
    all_goals exact ⟨rfl, m2⟩
  · have hsg := sign_none h3
    have HF : Hid (∀ W, Below w.heap.size w W → Calls Tryz.prog 50 #[.agg #[.string l.2.1, .slice ao l.2.2.length cap]] W fun e w' => e = .returned (.string (factS l.2.1 l.2.2)) ∧ Below W.heap.size W w') := fun W hb =>
      Vl.fact_any l.2.1 _ l.2.2 W (ts_of (isTs_below h hb)) (by have := hl.few; omega) (by have := hl.name; omega) (fun t ht => by have := prt_small (hl.terms t ht); omega) (fun t ht h3 => HFm t ht h3 W hb)
    have hsf := fact_small l hl
    have e : litS l = if l.1 = 2 then ⟨#[33]⟩ ++ factS l.2.1 l.2.2 else factS l.2.1 l.2.2 := by rw [litS, if_neg h3]
    have hk := hl.kind
    rw [e]
    clear e HFm hp hT h hl
    generalize factS l.2.1 l.2.2 = P0 at *
    generalize signS l.1 = S at *
    go_enter Tryz.func30, Tryz.ntmps30
    go_wp2_with fail
    refine Calls.mono (HSg.out _) ?_
    rintro e w1 ⟨rfl, hb1⟩
    have hB1 : Bx w1 w.heap.size 33 #[.int .i64 l.1, .string l.2.1, .slice ao l.2.2.length cap] := (Bx.new w _ _).below hb1
    have HB1 := hide ((Lx.below_box w _).trans (hb1.mono (by simp)))
    obtain ⟨⟨c0, c1, c2⟩, _, _, _⟩ := hB1.three
    have HBb := hide hB1
    have HF1 := hide (HF.out w1 HB1.out)
    clear hB1 hb1 HSg HF
    go_wp2_with fail
    refine Calls.mono HF1.out ?_
    rintro e w2 ⟨rfl, hb2⟩
    have d0 := (HBb.out.below hb2).three.1.1
    have HB2 := hide (HB1.out.trans (hb2.mono HB1.out.size))
    clear c0 c1 c2 HF1 hb2 HB1 HBb
    by_cases h2 : l.1 = 2
    · have g2 : (l.1 == 2) = true := by simpa using h2
      go_wp2_with fail
      go_ret
      first
        | exact ⟨rfl, HB2.out⟩
        | (rw [if_pos h2]; exact ⟨rfl, HB2.out⟩)
    · have g2 : (l.1 == 2) = false := by simpa using h2
      go_wp2_with fail
      go_ret
      first
        | exact ⟨rfl, HB2.out⟩
        | (rw [if_neg h2]; exact ⟨rfl, HB2.out⟩)

end Go.Proofs.YtcfhpodpkficaaaGreatDoor.Sy
namespace Go.Proofs.YtcfhpodpkficaaaGreatDoor.Sy
open Go.RowKit
open Lx (Wd tx)
open Vl (Tm Fr prt factS Fm Pow10)

structure OkR (q : Rul) : Prop where
  head : OkL q.1
  body : ∀ l ∈ q.2, OkL l
  few : q.2.length ≤ 6
def litT (l : Lit) : List UInt8 := (litS l).data.toList
def ruleL (q : Rul) : List UInt8 := if q.2 = [] then litT q.1 ++ [46] else litT q.1 ++ [32, 58, 45, 32] ++ Lib.join (q.2.map litT) [44, 32] ++ [46]
def ruleS (q : Rul) : ByteArray := ⟨(ruleL q).toArray⟩
theorem lit_small {l : Lit} (h : OkL l) : (litS l).size ≤ 5001 := by
  have hf := fact_small l h
  unfold litS
  split
  · rename_i h3
    have h2 := h.two h3
    have e0 : l.2.2.getD 0 (0, ⟨#[]⟩, 0) = l.2.2[0]'(by omega) := by simp [List.getD, List.getElem?_eq_getElem (show 0 < l.2.2.length by omega)]
    have e1 : l.2.2.getD 1 (0, ⟨#[]⟩, 0) = l.2.2[1]'(by omega) := by simp [List.getD, List.getElem?_eq_getElem (show 1 < l.2.2.length by omega)]
    rw [e0, e1]
    have p0 := prt_small (h.terms _ (List.getElem_mem (show 0 < l.2.2.length by omega)))
    have p1 := prt_small (h.terms _ (List.getElem_mem (show 1 < l.2.2.length by omega)))
    have ps := sign_small l.1
    have hb : (ByteArray.mk #[32]).size = 1 := rfl
    simp only [ByteArray.size_append, hb]
    omega
  · split
    · have hb : (ByteArray.mk #[33]).size = 1 := rfl
      rw [ByteArray.size_append, hb]
      omega
    · omega
theorem tail_len2 : ∀ r : List (List UInt8), (∀ x ∈ r, x.length ≤ 5001) → (Lib.joinTail [44, 32] r).length ≤ 5003 * r.length
  | [], _ => by simp [Lib.joinTail]
  | x :: r, h => by
    have h1 := tail_len2 r (fun y hy => h y (by simp [hy]))
    have hx := h x (by simp)
    simp [Lib.joinTail] at h1 ⊢
    omega
theorem join_len2 (ls : List Lit) (h : ∀ l ∈ ls, OkL l) : (Lib.join (ls.map litT) [44, 32]).length ≤ 5003 * ls.length := by
  cases ls with
  | nil => simp [Lib.join_nil]
  | cons l r =>
    rw [List.map_cons, Lib.join_cons, List.length_append]
    have h1 := tail_len2 (r.map litT) (fun x hx => by
      obtain ⟨y, hy, rfl⟩ := List.mem_map.1 hx
      have := lit_small (h y (by simp [hy]))
      rw [Vl.size_list] at this
      exact this)
    have h2 := lit_small (h l (by simp))
    rw [Vl.size_list] at h2
    have h3 : (litT l).length ≤ 5001 := h2
    rw [List.length_map] at h1
    rw [List.length_cons]
    omega
def rowS (ls : List Lit) (k : Nat) : List Value := (ls.take k).map (fun l => .string (litS l)) ++ List.replicate (ls.length - k) (.string ⟨#[]⟩)
theorem rowS_len (ls : List Lit) (k : Nat) (h : k ≤ ls.length) : (rowS ls k).length = ls.length := by simp [rowS]; omega
theorem rowS_set (ls : List Lit) (k : Nat) (h : k < ls.length) : (rowS ls k).set k (.string (litS ls[k])) = rowS ls (k + 1) := by
  unfold rowS
  have hl : ((ls.take k).map (fun l => Value.string (litS l))).length = k := by simp; omega
  rw [List.set_append_right _ _ (by omega), hl, Nat.sub_self, List.take_succ_eq_append_getElem h, List.map_append]
  obtain ⟨m, hm⟩ : ∃ m, ls.length - k = m + 1 := ⟨ls.length - k - 1, by omega⟩
  have hm2 : ls.length - (k + 1) = m := by omega
  rw [hm, hm2, List.replicate_succ]
  simp

theorem made_rowS (ls : List Lit) : madeCells (Value.string ⟨#[]⟩).cells ls.length = (rowS ls 0).toArray := by
  apply Array.ext'
  apply List.ext_getElem?
  intro j
  by_cases hj : j < ls.length
  · simp [madeCells, rowS, hj, Value.cells, Nat.mod_one]
  · simp [madeCells, rowS, hj]
theorem make_rowS (ls : List Lit) (hl : ls.length ≤ 1000) (W : World) : (Instr.makeSlice 67 (.int .i64 (ls.length : Int)) (.int .i64 (ls.length : Int))).run Tryz.prog W = .ok (.slice (some ⟨W.heap.size, 0, none⟩) ls.length ls.length) (W.alloc (.cells (rowS ls 0).toArray 9)) := by
  obtain ⟨i, hi, hz, hsize, hby⟩ := info_parts Vl.Tryz.info9
  have h := run_make (P := Tryz.prog) W 67 9 i (.string ⟨#[]⟩) Tryz.underlying67 hi hz .i64 .i64 (ls.length : Int) (ls.length : Int) (by omega) (by omega) (by rw [hby]; omega) (by omega)
  rw [hsize, Nat.mul_one] at h
  simp only [Int.toNat_natCast] at h
  rw [made_rowS] at h
  exact h

theorem joinS_any (b : Nat) (ls : List Lit) (W : World) (hl : ls.length ≤ 1000) (hp : ∀ l ∈ ls, OkL l) (hb : Bx W b 9 (rowS ls ls.length).toArray) :
    Calls Tryz.prog 31 #[.slice (some ⟨b, 0, none⟩) ls.length ls.length, .string ⟨#[44, 32]⟩] W fun e w' => e = .returned (.string ⟨(Lib.join (ls.map litT) [44, 32]).toArray⟩) ∧ Below W.heap.size W w' := by
  have e1 : (ls.map litS).length = ls.length := List.length_map _
  have e2 : (ls.map litS).map (·.data.toList) = ls.map litT := by simp [litT]
  have hj := join_len2 ls hp
  have h := Tryz.strings_Join b 0 ls.length (ls.map litS) ⟨#[44, 32]⟩ W (fun j x hx => by
    rw [Nat.zero_add, hb.c]
    rw [List.getElem?_map] at hx
    have e3 : rowS ls ls.length = ls.map (fun l => .string (litS l)) := by simp [rowS]
    rw [e3, List.getElem?_toArray, List.getElem?_map]
    cases hL : ls[j]? with
    | none => rw [hL] at hx; simp at hx
    | some u =>
      rw [hL] at hx
      simp only [Option.map_some, Option.some.injEq] at hx ⊢
      rw [hx]) hb.lt (by omega) (by omega) (by rw [e2]; show (Lib.join (ls.map litT) [44, 32]).length ≤ _; omega)
  rw [e1, e2] at h
  exact h

/-- A body's row, cell by cell. -/
theorem isLs_cells {w : World} {ls : List Lit} {ao : Option Addr} {n cap : Nat} (h : isLs w ls (.slice ao n cap)) : n = ls.length ∧ (0 < ls.length → ∃ g, ao = some ⟨g, 0, none⟩ ∧ ∀ i (hi : i < ls.length), ∃ va, isTs w ls[i].2.2 va ∧ w.cell? ⟨g, i * 3, none⟩ = some (.int .i64 ls[i].1) ∧ w.cell? ⟨g, i * 3 + 1, none⟩ = some (.string ls[i].2.1) ∧ w.cell? ⟨g, i * 3 + 2, none⟩ = some va) := by
  obtain ⟨zs, rfl, h2, h3⟩ := h
  have hlm : (zs.map (·.1)).length = zs.length := List.length_map _
  refine ⟨by rw [hlm]; exact (own_len h2).1, fun hp => ?_⟩
  rcases Lx.own_shape h2 with ⟨e, h0⟩ | ⟨g, cap', e, _⟩
  · omega
  · simp only [Value.slice.injEq] at e
    obtain ⟨rfl, rfl, rfl⟩ := e
    refine ⟨g, rfl, fun i hi0 => ?_⟩
    have hi : i < zs.length := by omega
    refine ⟨zs[i].2, ?_⟩
    have e : zs = zs.take i ++ zs[i] :: zs.drop (i + 1) := by simp
    have hl : (cellsLz (zs.take i)).length = i * 3 := by
      have : ∀ q : List (Lit × Value), (cellsLz q).length = q.length * 3 := fun q => by
        induction q with
        | nil => rfl
        | cons z q ih => simp [cellsLz] at ih ⊢; omega
      rw [this]; simp; omega
    have e2 : cellsLz zs = cellsLz (zs.take i) ++ (.int .i64 zs[i].1.1 :: .string zs[i].1.2.1 :: zs[i].2 :: cellsLz (zs.drop (i + 1))) := by
      conv => lhs; rw [e]
      unfold cellsLz
      rw [List.flatMap_append, List.flatMap_cons]
      rfl
    have hc : ∀ j, j < 3 → w.cell? ⟨g, i * 3 + j, none⟩ = [.int .i64 zs[i].1.1, .string zs[i].1.2.1, zs[i].2][j]? := fun j hj => by
      rw [h2.cellAt _ (by omega), e2, List.getElem?_append_right (by omega), hl, Nat.add_sub_cancel_left]
      match j, hj with
      | 0, _ => rfl
      | 1, _ => rfl
      | 2, _ => rfl
    have hz := h3 zs[i] (List.getElem_mem _)
    simp only [List.getElem_map]
    exact ⟨hz, hc 0 (by decide), hc 1 (by decide), hc 2 (by decide)⟩

set_option maxRecDepth 10000 in
set_option maxHeartbeats 4000000 in
theorem print_rule {w : World} {q : Rul} {y : Value} (h : isRul w q y) (hq : OkR q) (hT : Tb w) (hp : Pow10 w) :
    Calls Tryz.prog 12 #[y] w fun e w' => e = .returned (.string (ruleS q)) ∧ Below w.heap.size w w' := by
  obtain ⟨va, vb, rfl, hva, hvb⟩ := h
  obtain ⟨_, aoa, capa, rfl⟩ := own_len hva
  obtain ⟨aob, capb, rfl⟩ := isLs_shape hvb
  have HH : Hid (∀ o, Calls Tryz.prog 30 #[.agg #[.int .i64 q.1.1, .string q.1.2.1, .slice aoa q.1.2.2.length capa]] (w.alloc o) fun e w' => e = .returned (.string (litS q.1)) ∧ Below (w.alloc o).heap.size (w.alloc o) w') := fun o =>
    literalText_any (isTs_below hva (Lx.below_box w o)) hq.head (hT.below (Lx.below_box w o)) (hp.below (Lx.below_box w o))
  have hh := lit_small hq.head
  have hfew := hq.few
  by_cases hz : q.2 = []
  · have e : ruleS q = litS q.1 ++ ⟨#[46]⟩ := Vl.bytes_ext (by rw [Vl.bytes_app]; simp [ruleS, ruleL, hz, litT])
    have hz' : q.2.length = 0 := by rw [hz]; rfl
    rw [e]
    clear e hva hvb hT hp
    rw [hz']
    generalize litS q.1 = P at *
    go_enter Tryz.func12, Tryz.ntmps12
    go_wp2_with fail
    refine Calls.mono (HH.out _) ?_
    rintro e w1 ⟨rfl, hb1⟩
    have hB1 : Bx w1 w.heap.size 36 #[.int .i64 q.1.1, .string q.1.2.1, .slice aoa q.1.2.2.length capa, .slice aob 0 capb] := (Bx.new w _ _).below hb1
    have HB1 := hide ((Lx.below_box w _).trans (hb1.mono (by simp)))
    have c3 := hB1.four.1.2.2.2
    clear hB1 hb1 HH
    go_wp2_with fail
    go_ret
    exact ⟨rfl, HB1.out⟩
  · have hpos : 0 < q.2.length := List.length_pos_iff.2 hz
    have hg0 : ((q.2.length : Int) == 0) = false := by simp; omega
    obtain ⟨g, rfl, hc⟩ := (isLs_cells hvb).2 hpos
    have HC := hide hc
    have hmk := make_rowS q.2 (by omega)
    have HQ := hide hq
    have HP := hide hp
    have HT := hide hT
    have e : ruleS q = litS q.1 ++ ⟨#[32, 58, 45, 32]⟩ ++ ⟨(Lib.join (q.2.map litT) [44, 32]).toArray⟩ ++ ⟨#[46]⟩ := Vl.bytes_ext (by rw [Vl.bytes_app, Vl.bytes_app, Vl.bytes_app]; simp [ruleS, ruleL, hz, litT])
    rw [e]
    clear e hva hvb hT hp hc
    generalize litS q.1 = P at *
    go_enter Tryz.func12, Tryz.ntmps12
    go_wp2_with fail
    refine Calls.mono (HH.out _) ?_
    rintro e w1 ⟨rfl, hb1⟩
    have hB1 : Bx w1 w.heap.size 36 #[.int .i64 q.1.1, .string q.1.2.1, .slice aoa q.1.2.2.length capa, .slice (some ⟨g, 0, none⟩) q.2.length capb] := (Bx.new w _ _).below hb1
    have HB1 := hide ((Lx.below_box w _).trans (hb1.mono (by simp)))
    have c3 := hB1.four.1.2.2.2
    have c3' := fun o => (hB1.below (Lx.below_box w1 o)).four.1.2.2.2
    clear hB1 hb1 HH
    go_wp2_with fail
    clear c3 c3' hmk
    go_loopw [23] (fun i wr => ∃ k : Nat, i = .int .i64 k ∧ k ≤ q.2.length ∧ Hid (Bx wr w1.heap.size 9 (rowS q.2 k).toArray) ∧ Hid (Below w.heap.size w wr) ∧ w1.heap.size < wr.heap.size) (fun i _ => q.2.length - (intOf i).toNat)
    case atStart => exact ⟨0, rfl, Nat.zero_le _, Bx.new w1 _ _, HB1.out.alloc HB1.out.size _, by simp⟩
    case round =>
      obtain ⟨k, rfl, hk, HR, HW, hsz⟩ := hrel
      have hs1 := HB1.out.size
      by_cases hlt : k < q.2.length
      · have hlt' : (k : Int) < (q.2.length : Int) := by omega
        obtain ⟨va, hva, d0, d1, d2⟩ := HC.out k hlt
        obtain ⟨_, ao2, cap2, rfl⟩ := own_len hva
        have k0 := (World.cell?_of_block (HW.out.block g (World.block_lt_of_cell? w _ d0))).trans d0
        have k1 := (World.cell?_of_block (HW.out.block g (World.block_lt_of_cell? w _ d1))).trans d1
        have k2 := (World.cell?_of_block (HW.out.block g (World.block_lt_of_cell? w _ d2))).trans d2
        have HLt : Hid (∀ o, Calls Tryz.prog 30 #[.agg #[.int .i64 q.2[k].1, .string q.2[k].2.1, .slice ao2 q.2[k].2.2.length cap2]] (wr.alloc o) fun e w' => e = .returned (.string (litS q.2[k])) ∧ Below (wr.alloc o).heap.size (wr.alloc o) w') := fun o =>
          have hb := HW.out.alloc HW.out.size o
          literalText_any (isTs_below hva hb) (HQ.out.body _ (List.getElem_mem _)) (HT.out.below hb) (HP.out.below hb)
        have HS := hide (rowS_set q.2 k hlt)
        have hrl := rowS_len q.2 k hk
        clear d0 d1 d2 hva HC
        generalize litS q.2[k] = PL at *
        generalize q.2[k] = l at *
        go_wp2_with fail
        refine Calls.mono (HLt.out _) ?_
        rintro e w2 ⟨rfl, hb2⟩
        have hB2 : Bx w2 w1.heap.size 9 (rowS q.2 k).toArray := (HR.out.below (Lx.below_box wr _)).below hb2
        have hW2 : Below w.heap.size w w2 := (HW.out.alloc HW.out.size _).trans (hb2.mono (by have := HW.out.size; simp; omega))
        have hs2 := hb2.size
        simp at hs2
        obtain ⟨x, hx⟩ : ∃ x, w2.cell? ⟨w1.heap.size, k, none⟩ = some x := by
          rw [hB2.c]
          exact ⟨_, Array.getElem?_eq_getElem (by simp [hrl]; omega)⟩
        have hfz := hB2.f k
        have HB3 : Hid (Bx (w2.setCell ⟨w1.heap.size, k, none⟩ (.string PL)) w1.heap.size 9 (rowS q.2 (k + 1)).toArray) := by
          have := hB2.set k (.string PL)
          show Bx _ _ _ _
          rw [← HS.out]
          simpa using this
        have HW3 : Hid (Below w.heap.size w (w2.setCell ⟨w1.heap.size, k, none⟩ (.string PL))) := hW2.setCell (by show _ ≤ w1.heap.size; omega) _
        clear hB2 hW2 hb2 HLt HS HR HW
        go_wp2_with fail
        go_roundw
        case rel => exact ⟨k + 1, by go_num, by omega, HB3, HW3, by rw [Vl.setCell_size]; omega⟩
        case measure => simp [intOf]; omega
      · have hke : k = q.2.length := by omega
        subst hke
        have HJ := hide (joinS_any w1.heap.size q.2 wr (by omega) HQ.out.body HR.out)
        have hj := join_len2 q.2 HQ.out.body
        obtain ⟨J, HJe⟩ : ∃ J, Hid ((⟨(Lib.join (q.2.map litT) [44, 32]).toArray⟩ : ByteArray) = J) := ⟨_, rfl⟩
        have hJ : J.size ≤ 100000 := by
          rw [← HJe.out, Vl.size_list]
          show (Lib.join (q.2.map litT) [44, 32]).length ≤ _
          omega
        rw [HJe.out] at HJ
        clear hj
        go_wp2_with fail
        refine Calls.mono HJ.out ?_
        rintro e w2 ⟨rfl, hb2⟩
        have HB2 := hide (HW.out.trans (hb2.mono HW.out.size))
        clear HJ hb2
        go_wp2_with fail
        go_ret
        rw [HJe.out]
        exact ⟨rfl, HB2.out⟩
end Go.Proofs.YtcfhpodpkficaaaGreatDoor.Sy
namespace Go.Proofs.YtcfhpodpkficaaaGreatDoor.Sy
open Go.RowKit
open Lx (Wd tx cellsW bs)
open Vl (Tm Fr)

theorem sz38 : (Tryz.prog.info? 38).map (·.size) = some 2 := by kernel_rfl
theorem Bx.two {w : World} {b : Nat} {T : TypeId} {x y : Value} (h : Bx w b T #[x, y]) : (w.cell? ⟨b, 0, none⟩ = some x ∧ w.cell? ⟨b, 1, none⟩ = some y) ∧ w.frozen? ⟨b, 0, none⟩ = false ∧ w.frozen? ⟨b, 1, none⟩ = false :=
  ⟨⟨h.c 0, h.c 1⟩, h.f 0, h.f 1⟩

/-- What only gives. -/
def On (R : Except Bool Lit) (r : Nat) (w : World) (e : Ending) (w' : World) : Prop :=
  (match R with
  | .error c => e = .returned (.tuple #[litz, .int .i64 (if c = true then 8 else 4)])
  | .ok l => ∃ y, e = .returned (.tuple #[y, .int .i64 0]) ∧ isLit w' l y) ∧ Fr (fun k => k = r) w w'

set_option maxRecDepth 10000 in
set_option maxHeartbeats 4000000 in
theorem only_any (f : FuncId) (g : Wd → Option Tm) (hf : TermF f g) (he : Go.Proofs.Enters Tryz.prog f) {w : World} {r : Nat} {v : Value} {L : List Wd} {a : Nat} (h : Rd w r v L a) (hL : ∀ x ∈ L, OkF x) :
    Calls Tryz.prog 35 #[.pointer (some ⟨r, 0, none⟩), .func (.func f) #[.pointer (some ⟨r, 0, none⟩)] #[]] w fun e w' => On (onlyL g (L.drop a)) r w e w' := by
  have HA : Hid (∀ o, Calls Tryz.prog 42 #[.pointer (some ⟨r, 0, none⟩), .func (.func f) #[.pointer (some ⟨r, 0, none⟩)] #[]] (w.alloc o) fun e w' => Out isLit litz (atomL g (L.drop a)) r v L a (w.alloc o) e w') := fun o => atom_any f g hf he (h.below (Lx.below_box w o)) hL
  have H := hide h
  have hrlt := h.lt
  clear h hL hf he
  obtain ⟨R, hR⟩ : ∃ R, Hid (atomL g (L.drop a) = R) := ⟨_, rfl⟩
  rw [hR.out] at HA
  go_enter Tryz.func35, Tryz.ntmps35
  go_wp2_with fail
  refine Calls.mono (HA.out _) ?_
  intro e w1 ho
  cases R with
  | error c =>
    obtain ⟨rfl, hf1⟩ := ho
    have HE : Hid (onlyL g (L.drop a) = .error c) := by show _ = _; rw [onlyL, hR.out]
    have hB1 := hide fun o => ((Bx.new w #[.int .i64 0, .string ⟨#[]⟩, .slice none 0 0] 33).fr hf1 (by omega)).below (Lx.below_box w1 o)
    have F1 := hide fun o => (((Gg.refl H.out).alloc (.cells #[.int .i64 0, .string ⟨#[]⟩, .slice none 0 0] 33)).fr.trans hf1 (fun _ _ e => e)).alloc o
    have c0 := fun o => (hB1.out o).three.1.1
    have c1 := fun o => (hB1.out o).three.1.2.1
    have c2 := fun o => (hB1.out o).three.1.2.2
    have f0 := fun o => (hB1.out o).three.2.1
    have f1 := fun o => (hB1.out o).three.2.2.1
    have f2 := fun o => (hB1.out o).three.2.2.2
    clear HA hf1
    simp only [litz]
    cases c
    all_goals simp only [Bool.false_eq_true, if_false, if_true]
    all_goals go_wp2_with fail
    all_goals refine bodyPost_ret (ret_cell rfl _ _ w.heap.size 33 _ rfl ((((hB1.out _).set 0 _).set 1 _).set 2 _) Tryz.underlying33 sz33) rfl ?_
    all_goals (rw [HE.out]; exact ⟨rfl, fr3 (F1.out _) _ (Nat.le_refl _) _ _ _⟩)
  | ok p =>
    obtain ⟨l, rest⟩ := p
    obtain ⟨y, a1, rfl, ⟨va, rfl, hva⟩, hr1, hd1, hlt1, hf1⟩ := ho
    subst hd1
    obtain ⟨_, aoa, capa, rfl⟩ := own_len hva
    have hs1 := hf1.size
    simp at hs1
    have HE : Hid (onlyL g (L.drop a) = if takeR [46] (L.drop a1) = [] then .ok l else .error false) := by show _ = _; rw [onlyL, hR.out]
    have G1 := hide fun o => (((Gg.refl H.out).alloc (.cells #[.int .i64 0, .string ⟨#[]⟩, .slice none 0 0] 33)).then hr1 hf1).alloc o
    have hB1 := hide fun o => ((Bx.new w #[.int .i64 0, .string ⟨#[]⟩, .slice none 0 0] 33).fr hf1 (by omega)).below (Lx.below_box w1 o)
    have V1 := hide fun o => isTs_below hva (Lx.below_box w1 o)
    have HT2 := hide fun o => take_any [46] (by decide) (G1.out o).rd
    clear HA hf1 hr1 hva hR
    go_wp2_with fail
    refine Calls.mono (HT2.out _) ?_
    rintro e w2 ⟨rfl, a2, hr2, hd2, ha2, hf2⟩
    have G2 := hide ((G1.out _).then hr2 hf2)
    have hB2 := hide ((hB1.out _).fr hf2 (by omega))
    have hS2 := hide ((Bx.new w1 #[.int .i64 l.1, .string l.2.1, .slice aoa l.2.2.length capa] 33).fr hf2 (by omega))
    have V2 := hide (isTs_kept (G1.out _).rd hf2 (V1.out _))
    have HD := hide (done_any G2.out.rd)
    rw [← hd2] at HE
    have hle2 := hr2.le
    clear HT2 hr2 hf2 G1 hB1 V1 hd2
    go_wp2_with fail
    refine Calls.mono HD.out ?_
    rintro e w3 ⟨rfl, n, rfl⟩
    have G3 := hide (G2.out.below (below_drewN w2 n))
    have hB3 := hide (hB2.out.below (below_drewN w2 n))
    have hS3 := hide (hS2.out.below (below_drewN w2 n))
    have V3 := hide (isTs_below V2.out (below_drewN w2 n))
    obtain ⟨⟨c0, c1, c2⟩, f0, f1, f2⟩ := hB2.out.three
    obtain ⟨⟨d0, d1, d2⟩, _, _, _⟩ := hS2.out.three
    clear G2 hB2 hS2 V2 HD
    by_cases hd : a2 = L.length
    · rw [show decide (a2 = L.length) = true by simpa using hd]
      have HE' : Hid (onlyL g (L.drop a) = .ok l) := by show _ = _; rw [HE.out, if_pos (drop_end L a2 (by omega))]
      clear HE
      go_wp2_with fail
      refine bodyPost_ret (ret_cell rfl _ _ w.heap.size 33 _ rfl (((hB3.out.set 0 _).set 1 _).set 2 _) Tryz.underlying33 sz33) rfl ?_
      rw [HE'.out]
      exact ⟨⟨_, rfl, ⟨_, rfl, isTs_put3 V3.out hB3.out (by decide) _ _ _⟩⟩, fr3 G3.out.fr _ (Nat.le_refl _) _ _ _⟩
    · rw [show decide (a2 = L.length) = false by simpa using hd]
      have HE' : Hid (onlyL g (L.drop a) = .error false) := by
        show _ = _
        rw [HE.out, if_neg (by
          intro e0
          have := congrArg List.length e0
          rw [List.length_drop] at this
          simp at this
          omega)]
      clear HE
      go_wp2_with fail
      refine bodyPost_ret (ret_cell rfl _ _ w.heap.size 33 _ rfl (((hB3.out.set 0 _).set 1 _).set 2 _) Tryz.underlying33 sz33) rfl ?_
      rw [HE'.out]
      exact ⟨rfl, fr3 G3.out.fr _ (Nat.le_refl _) _ _ _⟩

/-- What Fact gives of words. -/
def Fa (R : Except Bool Lit) (w : World) (e : Ending) (w' : World) : Prop :=
  (match R with
  | .error c => e = .returned (.tuple #[.agg #[.string ⟨#[]⟩, .slice none 0 0], .int .i64 (if c = true then 8 else 4)])
  | .ok l => ∃ va, e = .returned (.tuple #[.agg #[.string l.2.1, va], .int .i64 0]) ∧ isTs w' l.2.2 va) ∧ Below w.heap.size w w'

set_option maxRecDepth 10000 in
set_option maxHeartbeats 4000000 in
theorem fact_of (s : ByteArray) (w : World) (hs : s.size ≤ 4000) (HW : ∀ o, Calls Tryz.prog 41 #[.string s] (w.alloc o) fun e w' => Ws s (w.alloc o) e w') :
    Calls Tryz.prog 14 #[.string s] w fun e w' => Fa (onlyL constW (wordsL (bs s))) w e w' := by
  have HO := hide fun o => open_of s (w.alloc o) hs (HW o)
  have HL := hide (words_ok (bs s)).1
  have hmf := mk_func
  clear HW
  obtain ⟨L, hL⟩ : ∃ L, wordsL (bs s) = L := ⟨_, rfl⟩
  rw [hL] at HO HL ⊢
  clear hL
  obtain ⟨R, hR⟩ : ∃ R, Hid (onlyL constW L = R) := ⟨_, rfl⟩
  rw [hR.out]
  go_enter Tryz.func14, Tryz.ntmps14
  go_wp2_with fail
  refine Calls.mono (HO.out _) ?_
  rintro e w1 ⟨r, v, rfl, hr1, hb1, hrw⟩
  have hs1 := hb1.size
  simp at hs1 hrw
  have hB1 := hide ((Bx.new w #[.string ⟨#[]⟩, .slice none 0 0] 38).below hb1)
  have HB1 := hide ((Lx.below_box w _).trans (hb1.mono (by simp)))
  have HC := hide (only_any 36 constW constant_f enters36 hr1 HL.out)
  rw [List.drop_zero, hR.out] at HC
  have hrl := hr1.lt
  clear HO hr1 hb1 HL
  clear hR
  go_wp2_with fail
  refine Calls.mono HC.out ?_
  rintro e w2 ⟨ho, hf2⟩
  have hB2 := hide fun o => (hB1.out.fr hf2 (by omega)).below (Lx.below_box w2 o)
  have HB2 := hide fun o => HB1.out.trans ((hf2.alloc o).below (fun k hk => by omega) HB1.out.size)
  have c0 := fun o => (hB2.out o).two.1.1
  have c1 := fun o => (hB2.out o).two.1.2
  have f0 := fun o => (hB2.out o).two.2.1
  have f1 := fun o => (hB2.out o).two.2.2
  clear HC hf2 hB1 HB1
  cases R with
  | error c =>
    have ho' : e = .returned (.tuple #[.agg #[.int .i64 0, .string ⟨#[]⟩, .slice none 0 0], .int .i64 (if c = true then 8 else 4)]) := ho
    subst ho'
    cases c
    all_goals simp only [Bool.false_eq_true, if_false, if_true]
    all_goals go_wp2_with fail
    all_goals refine bodyPost_ret (ret_cell rfl _ _ w.heap.size 38 _ rfl (((hB2.out _).set 0 _).set 1 _) Tryz.underlying38 sz38) rfl ?_
    all_goals exact ⟨rfl, ((HB2.out _).setCell (by simp) _).setCell (by simp) _⟩
  | ok l =>
    obtain ⟨y, rfl, ⟨va, rfl, hva⟩⟩ := ho
    obtain ⟨_, aoa, capa, rfl⟩ := own_len hva
    have V2 := hide fun o => isTs_below hva (Lx.below_box w2 o)
    clear hva
    go_wp2_with fail
    refine bodyPost_ret (ret_cell rfl _ _ w.heap.size 38 _ rfl (((hB2.out _).set 0 _).set 1 _) Tryz.underlying38 sz38) rfl ?_
    exact ⟨⟨_, rfl, isTs_put (isTs_put (V2.out _) (hB2.out _) (by decide) 0 _) ((hB2.out _).set 0 _) (by decide) 1 _⟩, ((HB2.out _).setCell (by simp) _).setCell (by simp) _⟩

end Go.Proofs.YtcfhpodpkficaaaGreatDoor.Sy
