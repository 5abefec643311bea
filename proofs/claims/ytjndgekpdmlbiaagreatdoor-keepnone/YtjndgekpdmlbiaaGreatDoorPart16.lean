/- The walk of Get; First and Last of an open log. The walks of begun and of the law WalNone. A log's own file is read as the log; Append on a disk without room. What is read off any file is a front of it; the file that an open log leaves is the log's own. The walk of countUpTo. -/
import Derived.Test.YtjndgekpdmlbiaaGreatDoorPart15
import Derived.Deep.RegionHeld
import Derived.Lib.SlBytesConst
namespace Go.Proofs.YtjndgekpdmlbiaaGreatDoor.Wl
open Go.RowKit Dk

/-- The last number. -/
def lastL (first : Int) (ds : List (List UInt8)) : Int := if ds.length = 0 then 0 else first + ds.length - 1
theorem LW.first {w : World} {B p pd : Nat} {s : St} {F : Nat → Prop} {first : Int} {ds : List (List UInt8)} (h : LW w B p pd s F first ds) :
    Calls Tryz.prog 50 #[.pointer (some ⟨p, 0, none⟩)] w fun e w' => e = .returned (.int .i64 first) ∧ w' = w := by
  obtain ⟨_, ⟨vr, rs, G, h1, rfl, _⟩, _, _⟩ := h
  exact first_any p pd first vr rs G w h1
theorem LW.last {w : World} {B p pd : Nat} {s : St} {F : Nat → Prop} {first : Int} {ds : List (List UInt8)} (h : LW w B p pd s F first ds) :
    Calls Tryz.prog 48 #[.pointer (some ⟨p, 0, none⟩)] w fun e w' => e = .returned (.int .i64 (lastL first ds)) ∧ ∃ m, w' = w.drewN m := by
  obtain ⟨_, ⟨vr, rs, G, h1, rfl, _⟩, _, _⟩ := h
  have := last_any p pd first vr rs G w h1
  unfold lastN at this
  unfold lastL
  rw [List.length_map]
  exact this

set_option maxHeartbeats 2000000 in
set_option maxRecDepth 20000 in
theorem get_hit (B p pd : Nat) (s : St) (F : Nat → Prop) (first : Int) (ds : List (List UInt8)) (i : Nat) (w : World) (h : LW w B p pd s F first ds) (hi : i < ds.length) (h1 : 1 ≤ first) (hl : ds.length ≤ 1000000000) (hfi : first + ds.length ≤ 9223372036854775807) (hb : ds[i].length ≤ 1000000000) :
    Calls Tryz.prog 81 #[.pointer (some ⟨p, 0, none⟩), .int .i64 (first + i)] w fun e w' => ∃ v', e = .returned (.tuple #[v', .bool true]) ∧ w'.ownsRow w.heap.size 5 1 v' ds[i].length (cells8 ds[i]) ∧ Below w.heap.size w w' := by
  have HF : Hid (_) := h.first
  have HL : Hid (_) := h.last
  obtain ⟨_, ⟨vr, rs, G, hL, rfl, _⟩, _, _⟩ := h
  have hi' : i < rs.length := by simpa using hi
  have hlast : lastL first (rs.map Re.data) = first + rs.length - 1 := by unfold lastL; rw [if_neg (by omega), List.length_map]
  rw [hlast] at HL
  obtain ⟨X, HX⟩ : ∃ X, Hid (X = (rs.map Re.data)[i]) := ⟨(rs.map Re.data)[i], (rfl : _ = (rs.map Re.data)[i])⟩
  rw [← HX.out] at hb ⊢
  have hXd : rs[i].data = X := by rw [HX.out]; simp
  rw [List.length_map] at hl hfi
  obtain ⟨c0, c1, c2, _⟩ := hL.cells
  obtain ⟨ao, cap, rfl, hao⟩ := hL.shape
  obtain ⟨g, rfl⟩ := hao (by omega)
  have cd := (hL.cell i hi').1
  have hS := (hL.data rs[i] (List.getElem_mem hi')).sl
  rw [hXd] at hS
  obtain ⟨aod, capd, hdv, _, _⟩ := hS.shape
  rw [hdv] at cd hS
  obtain ⟨XL, HXL⟩ : ∃ XL, Hid (XL = X.length) := ⟨_, (rfl : _ = _)⟩
  have HC : Hid (∀ w1, Below w.heap.size w w1 → Calls Tryz.prog 58 #[.slice aod XL capd] w1 fun e w' => ∃ ao' L' cap', e = .returned (.slice ao' L' cap') ∧ Hid (w'.ownsRow w.heap.size 5 1 (.slice ao' L' cap') X.length (cells8 X) ∧ Below w.heap.size w w')) := by
    intro w1 hb1
    rw [HXL.out]
    refine (clone_any _ X w1 (hS.below hb1) (by omega)).mono ?_
    rintro e w' ⟨v', rfl, hO, hb'⟩
    obtain ⟨ao', L', cap', rfl⟩ := own_slice hO
    exact ⟨ao', L', cap', rfl, own_base hO (fun k hk => by have := (hO.lt k hk).1; have := hb1.size; omega), hb1.trans (hb'.mono hb1.size)⟩
  rw [← HXL.out] at cd
  have HC' : Hid (∀ m, Calls Tryz.prog 58 #[.slice aod XL capd] (w.drewN m).drew fun e w' => ∃ ao' L' cap', e = .returned (.slice ao' L' cap') ∧ Hid (w'.cell? ⟨p, 1, none⟩ = some (.int .i64 first) ∧ w'.cell? ⟨p, 2, none⟩ = some (.slice (some ⟨g, 0, none⟩) rs.length cap) ∧ w'.cell? ⟨g, i * 2, none⟩ = some (.slice aod XL capd)) ∧ Hid (w'.ownsRow w.heap.size 5 1 (.slice ao' L' cap') X.length (cells8 X) ∧ Below w.heap.size w w')) := fun m => by
    refine (HC.out (w.drewN m).drew ⟨rfl, rfl, rfl, Nat.le_refl _, fun _ _ => rfl⟩).mono ?_
    rintro e w' ⟨ao', L', cap', rfl, hX⟩
    have hbw := hX.out.2
    exact ⟨ao', L', cap', rfl, ⟨below_cell hbw c1, below_cell hbw c2, below_cell hbw cd⟩, hX⟩
  obtain ⟨N, HN⟩ : ∃ N, Hid (N = rs.length) := ⟨_, (rfl : _ = _)⟩
  rw [← HN.out] at c2 HL hi' hl hfi HC'
  have hlt : (i : Int) < (N : Int) := by omega
  have n1 : ¬ first + (i : Int) < 1 := by omega
  have n2 : ¬ first + (i : Int) < first := by omega
  have n3 : ¬ first + (N : Int) - 1 < first + (i : Int) := by omega
  have hsub : IntKind.i64.wrap (first + (i : Int) - first) = (i : Int) := by rw [IntKind.wrap_i64]; omega
  have HD : Hid (∀ m, (w.drewN m).drew.cell? ⟨p, 1, none⟩ = some (.int .i64 first) ∧ (w.drewN m).drew.cell? ⟨p, 2, none⟩ = some (.slice (some ⟨g, 0, none⟩) N cap) ∧ (w.drewN m).drew.cell? ⟨g, i * 2, none⟩ = some (.slice aod XL capd)) := fun m => ⟨c1, c2, cd⟩
  clear hL hS hao hXd hlast hdv HC HX hl hfi hb h1 c0 c1 c2 cd
  clear hi
  go_enter Tryz.func81, Tryz.ntmps81
  go_wp2_with (first
    | (go_at_call 50; refine Calls.mono HF.out ?_; rintro e w' ⟨rfl, hw⟩; have hw' := hw.symm; subst hw')
    | (go_at_call 48; refine Calls.mono HL.out ?_; rintro e w' ⟨rfl, m, rfl⟩; have HCm : Hid (_) := HC'.out m; have HDm : Hid (_) := HD.out m; clear HC' HD))
  go_region_held (fun u => u.cell? ⟨p, 1, none⟩ = some (.int .i64 first) ∧ u.cell? ⟨p, 2, none⟩ = some (.slice (some ⟨g, 0, none⟩) N cap) ∧ u.cell? ⟨g, i * 2, none⟩ = some (.slice aod XL capd))
    (first | exact HDm.out | exact HD5.out)
    (first | (go_at_call 58; refine Calls.mono HCm.out ?_; rintro e w5 ⟨ao5, L5, cap5, rfl, HD5, HX5⟩))
  all_goals go_wp2
  all_goals go_ret2
  all_goals exact ⟨_, rfl, HX5.out⟩
end Go.Proofs.YtjndgekpdmlbiaaGreatDoor.Wl
namespace Go.Proofs.YtjndgekpdmlbiaaGreatDoor.Wl
open Go.RowKit Dk

def sev : List UInt8 := [115, 101, 118, 101, 110]
def sZ : St := ⟨1048576, [], []⟩
def sR (X : List UInt8) : St := ⟨1048576, [⟨nmW, X⟩], []⟩
theorem sZ_room : (⟨roomN 1048576, [], []⟩ : St) = sZ := by
  have h : roomN 1048576 = 1048576 := by decide +kernel
  rw [h]
  rfl
theorem sZ_file : fileOf sZ nmW = [] := rfl
theorem load_nil : loadR (Fr.scanL (fileOf sZ nmW)).1 0 [] = (0, []) := by rw [sZ_file, Fr.scan_nil]; rfl
theorem sZ_open : openS sZ = sZ := by
  unfold openS
  rw [load_nil, sZ_file]
  rfl
theorem look_one (X : List UInt8) : Dk.look nmW [⟨nmW, X⟩] = some ⟨nmW, X⟩ := by simp [Dk.look]
theorem sZ_now (X : List UInt8) : (sZ.push (.app nmW X)).now = [⟨nmW, X⟩] := by
  show Dk.run [] [.app nmW X] = _
  simp [Dk.run, Dk.ap, Dk.look, Dk.del, Dk.ins]
theorem sR_now (X : List UInt8) : (sR X).now = [⟨nmW, X⟩] := rfl
theorem sR_file (X : List UInt8) : fileOf (sR X) nmW = X := by
  unfold fileOf
  rw [sR_now, look_one]
  rfl
theorem scan_one (b : List UInt8) (h : b.length ≤ 65536) : (Fr.scanL (Fr.sealL b)).1 = [b] := by
  have h1 := Fr.first_seal b [] h
  rw [List.append_nil] at h1
  rw [Fr.scan_some h1]
  have hd : (Fr.sealL b).drop (8 + b.length) = [] := List.drop_of_length_le (by rw [Fr.seal_len]; omega)
  rw [hd, Fr.scan_nil]
theorem load_one (n : Int) (d : List UInt8) (h0 : 1 ≤ n) (h1 : n ≤ 9223372036854775807) (hl : d.length ≤ 32768) : loadR (Fr.scanL (fileOf (sR (recB n d)) nmW)).1 0 [] = (n, [d]) := by
  rw [sR_file]
  unfold recB
  have e1 := enc_le n
  have e2 := enc_le (d.length : Int)
  rw [scan_one _ (by simp only [List.length_append]; omega)]
  unfold loadR
  rw [unseal_rec n d (by omega) h1 hl]
  have hm : mayL 0 [] n = true := by simp [mayL]; exact h0
  simp only [hm, if_true]
  unfold loadR
  rfl

end Go.Proofs.YtjndgekpdmlbiaaGreatDoor.Wl
namespace Go.Proofs.YtjndgekpdmlbiaaGreatDoor.Wl
open Go.RowKit Dk

/-- What a log's seals hold. -/
def bodies (n : Int) : List (List UInt8) → List (List UInt8)
  | [] => []
  | b :: r => (Bn.enc n ++ (Bn.enc (b.length : Int) ++ b)) :: bodies (n + 1) r
theorem scan_file : ∀ (ds : List (List UInt8)) (n : Int), (∀ d ∈ ds, d.length ≤ 32768) → (Fr.scanL (fileB n ds)).1 = bodies n ds
  | [], n, _ => by rw [fileB, Fr.scan_nil]; rfl
  | d :: ds, n, h => by
    have hd := h d List.mem_cons_self
    have e1 := enc_le n
    have e2 := enc_le (d.length : Int)
    have h1 := Fr.first_seal (Bn.enc n ++ (Bn.enc (d.length : Int) ++ d)) (fileB (n + 1) ds) (by simp only [List.length_append]; omega)
    have hf : fileB n (d :: ds) = Fr.sealL (Bn.enc n ++ (Bn.enc (d.length : Int) ++ d)) ++ fileB (n + 1) ds := rfl
    rw [hf, Fr.scan_some h1, ← Fr.seal_len, List.drop_left, bodies, scan_file ds (n + 1) (fun x hx => h x (List.mem_cons_of_mem _ hx))]
theorem load_more : ∀ (ds : List (List UInt8)) (n f : Int) (acc : List (List UInt8)), (∀ d ∈ ds, d.length ≤ 32768) → 1 ≤ f → acc ≠ [] → n = f + acc.length → n + ds.length ≤ 9223372036854775808 → loadR (bodies n ds) f acc = (f, acc ++ ds)
  | [], n, f, acc, _, _, _, _, _ => by rw [bodies, loadR, List.append_nil]
  | d :: ds, n, f, acc, h, hf, ha, hn, hb => by
    have hal : acc.length ≠ 0 := fun e => ha (List.eq_nil_of_length_eq_zero e)
    rw [List.length_cons] at hb
    rw [bodies, loadR, unseal_rec n d (by omega) (by omega) (h d List.mem_cons_self)]
    have hm : mayL f acc n = true := by
      unfold mayL
      rw [if_neg hal]
      simp only [Bool.and_eq_true, decide_eq_true_eq, Bool.or_eq_true]
      exact ⟨by omega, Or.inr (by omega)⟩
    simp only [hm, if_true, if_neg hal]
    rw [load_more ds (n + 1) f (acc ++ [d]) (fun x hx => h x (List.mem_cons_of_mem _ hx)) hf (by simp) (by rw [List.length_append]; simp; omega) (by omega), List.append_assoc]
    rfl
theorem load_file (ds : List (List UInt8)) (n : Int) (h : ∀ d ∈ ds, d.length ≤ 32768) (h1 : 1 ≤ n) (hb : n + ds.length ≤ 9223372036854775808) : loadR (Fr.scanL (fileB n ds)).1 0 [] = (if ds.length = 0 then 0 else n, ds) := by
  rw [scan_file ds n h]
  cases ds with
  | nil => rfl
  | cons d ds =>
    rw [List.length_cons] at hb
    rw [bodies, loadR, unseal_rec n d (by omega) (by omega) (h d List.mem_cons_self)]
    have hm : mayL 0 [] n = true := by simp [mayL]; exact h1
    simp only [hm, if_true, List.length_nil]
    have := load_more ds (n + 1) n ([] ++ [d]) (fun x hx => h x (List.mem_cons_of_mem _ hx)) h1 (by simp) (by simp) (by omega)
    rw [this]
    simp

set_option maxHeartbeats 2000000 in
theorem app_full (B p pd : Nat) (s : St) (F : Nat → Prop) (first : Int) (ds : List (List UInt8)) (n : Int) (bv : Value) (b : List UInt8) (w : World) (h : LW w B p pd s F first ds) (hS : Sl w bv b) (ht : Fr.Tab w) (hn : n ≤ 9223372036854775807) (hm : mayL first ds n = true) (hl : b.length ≤ 32768)
    (hr : s.room < (used s.now : Int) + (recB n b).length) (hms : s.mass + 40000 ≤ 1000000000) :
    Calls Tryz.prog 121 #[.pointer (some ⟨p, 0, none⟩), .int .i64 n, bv] w fun e w' => e = .returned (.int .i64 2) ∧ Hid (Below w.heap.size w w') := by
  obtain ⟨aob, capb, rfl, _, _⟩ := hS.shape
  have HM : Hid (_) := h.may n hn
  rw [hm] at HM
  have m1 : 1 ≤ n := by
    unfold mayL at hm
    simp only [Bool.and_eq_true, decide_eq_true_eq] at hm
    exact hm.1
  have hrs := recB_size n b ⟨by omega, hn⟩ hl
  obtain ⟨X, HX⟩ : ∃ X, Hid (X = recB n b) := ⟨recB n b, (rfl : _ = recB n b)⟩
  rw [← HX.out] at hr hrs
  have HC : Hid (∀ m, Calls Tryz.prog 137 #[.int .i64 n, .slice aob b.length capb] (w.drewN m) fun e w2 => ∃ ao cap, e = .returned (.slice ao X.length cap) ∧ w2.cell? ⟨p, 0, none⟩ = some (.pointer (some ⟨pd, 0, none⟩)) ∧ Hid (Calls Tryz.prog 132 #[.pointer (some ⟨pd, 0, none⟩), .string nmW, .slice ao X.length cap] w2 fun e w3 => e = .returned (.int .i64 2) ∧ Hid (Below w.heap.size w w3))) := by
    intro m
    have hb1 : Below w.heap.size w (w.drewN m) := ⟨rfl, rfl, rfl, Nat.le_refl _, fun _ _ => rfl⟩
    refine (seal_any n (.slice aob b.length capb) b (w.drewN m) (hS.below hb1) (ht.drew m) ⟨by omega, hn⟩ hl).mono ?_
    rintro e w2 ⟨ao, L, cap, rfl, hO, hb2⟩
    have hb2' : Below w.heap.size w w2 := hb1.trans hb2
    have hSX := Sl.of_own hO
    obtain ⟨ao', cap', e2, _, _⟩ := hSX.shape
    simp only [Value.slice.injEq] at e2
    obtain ⟨rfl, rfl, rfl⟩ := e2
    rw [← HX.out]
    have hW2 := h.below hb2'
    refine ⟨ao, cap, rfl, hW2.cell0, ?_⟩
    refine (append_room pd s F nmW ao X.length cap w2 hW2.dk (by decide) hr (by omega) (by omega)).mono ?_
    rintro e w3 ⟨rfl, hb3⟩
    exact ⟨rfl, hb2'.trans (hb3.mono hb2'.size)⟩
  clear h hS ht hn hm hr hms m1 hrs
  have hl' : ¬ (32768 : Int) < (b.length : Int) := by omega
  simp only [nmW] at HC
  go_enter Tryz.func121, Tryz.ntmps121
  go_wp2_with (first
    | (go_at_call 75; refine Calls.mono HM.out ?_; rintro e w1 ⟨rfl, m, rfl⟩; have HC1 : Hid (_) := HC.out m; clear HC)
    | (go_at_call 137; refine Calls.mono HC1.out ?_; rintro e w2 ⟨ao2, cap2, rfl, c2, HC2⟩; clear HC1)
    | (go_at_call 132; refine Calls.mono HC2.out ?_; rintro e w3 ⟨rfl, HC3⟩; clear HC2))
  go_ret
  exact ⟨rfl, HC3.out⟩
end Go.Proofs.YtjndgekpdmlbiaaGreatDoor.Wl
namespace Go.Proofs.YtjndgekpdmlbiaaGreatDoor.Wl
open Go.RowKit Dk

theorem scan_front : ∀ (m : Nat) (bs : List UInt8), bs.length ≤ m → ((Fr.scanL bs).1.flatMap Fr.sealL) <+: bs
  | 0, bs, h => by
    have : bs = [] := List.eq_nil_of_length_eq_zero (by omega)
    subst this
    rw [Fr.scan_nil]
    exact List.prefix_refl _
  | m + 1, bs, h => by
    cases hf : Fr.firstB bs with
    | none => rw [Fr.scan_none hf]; exact List.nil_prefix
    | some b =>
      have hs := Fr.first_some hf
      rw [Fr.scan_some hf]
      have ih := scan_front m (bs.drop (8 + b.length)) (by rw [List.length_drop]; have := hs.2.2; omega)
      rw [List.flatMap_cons]
      obtain ⟨r, hr⟩ := ih
      refine ⟨r, ?_⟩
      rw [List.append_assoc, hr]
      exact hs.2.1.symm
theorem load_front : ∀ (bs : List (List UInt8)) (f : Int) (acc : List (List UInt8)) (g : Int) (ds : List (List UInt8)), loadR bs f acc = (g, ds) → ∃ more, ds = acc ++ more ∧ (more = [] → g = f) ∧ (acc ≠ [] → g = f) ∧ fileB (if acc.length = 0 then g else f + acc.length) more <+: bs.flatMap Fr.sealL ∧ (∀ d ∈ more, d.length ≤ 32768) ∧ (more ≠ [] → 1 ≤ (if acc.length = 0 then g else f + acc.length) ∧ (if acc.length = 0 then g else f + acc.length) + more.length ≤ 9223372036854775808)
  | [], f, acc, g, ds, h => by
    rw [loadR, Prod.mk.injEq] at h
    obtain ⟨rfl, rfl⟩ := h
    exact ⟨[], by simp, fun _ => rfl, fun _ => rfl, List.nil_prefix, by simp, fun h => absurd rfl h⟩
  | body :: r, f, acc, g, ds, h => by
    rw [loadR] at h
    cases hu : unsealL body with
    | none =>
      rw [hu] at h
      simp only [Prod.mk.injEq] at h
      obtain ⟨rfl, rfl⟩ := h
      exact ⟨[], by simp, fun _ => rfl, fun _ => rfl, List.nil_prefix, by simp, fun h => absurd rfl h⟩
    | some nd =>
      obtain ⟨n, d⟩ := nd
      rw [hu] at h
      simp only at h
      by_cases hm : mayL f acc n = true
      · rw [if_pos hm] at h
        have hb := unseal_back hu
        obtain ⟨m1, m2⟩ : 1 ≤ n ∧ (acc.length = 0 ∨ n - 1 = (if acc.length = 0 then 0 else f + acc.length - 1)) := by simpa [mayL] using hm
        obtain ⟨more, h1, h2, h3, h4, h5, h6⟩ := load_front r _ _ g ds h
        have hg : g = if acc.length = 0 then n else f := h3 (by simp)
        have hnum : (if acc.length = 0 then g else f + acc.length) = n := by
          by_cases ha : acc.length = 0
          · rw [if_pos ha, hg, if_pos ha]
          · rw [if_neg ha] at m2 ⊢
            omega
        have hnext : (if (acc ++ [d]).length = 0 then g else (if acc.length = 0 then n else f) + ((acc ++ [d]).length : Int)) = n + 1 := by
          rw [if_neg (by simp), List.length_append]
          by_cases ha : acc.length = 0
          · rw [if_pos ha]; simp [ha]
          · rw [if_neg ha]
            rw [if_neg ha] at hnum
            simp
            omega
        rw [hnext] at h4 h6
        refine ⟨d :: more, by rw [h1]; simp, fun e => by simp at e, fun ha => ?_, ?_, fun x hx => ?_, ?_⟩
        · rw [hg, if_neg (fun e => ha (List.eq_nil_of_length_eq_zero e))]
        · rw [hnum, fileB, List.flatMap_cons]
          unfold recB
          rw [← hb.1]
          exact (List.prefix_append_right_inj _).2 h4
        · rcases List.mem_cons.1 hx with rfl | hx
          · exact hb.2.2.2
          · exact h5 x hx
        · intro _
          rw [hnum, List.length_cons]
          refine ⟨m1, ?_⟩
          by_cases hmo : more = []
          · subst hmo
            simp
            omega
          · have := (h6 hmo).2
            omega
      · rw [if_neg hm, Prod.mk.injEq] at h
        obtain ⟨rfl, rfl⟩ := h
        exact ⟨[], by simp, fun _ => rfl, fun _ => rfl, List.nil_prefix, by simp, fun h => absurd rfl h⟩
/-- What is read off a file: its own file is a front of that file, and is read as it. -/
theorem load_any (fb : List UInt8) (g : Int) (ds : List (List UInt8)) (h : loadR (Fr.scanL fb).1 0 [] = (g, ds)) : fileB g ds <+: fb ∧ (ds = [] → g = 0) ∧ (∀ d ∈ ds, d.length ≤ 32768) ∧ (ds ≠ [] → 1 ≤ g ∧ g + ds.length ≤ 9223372036854775808) ∧ loadR (Fr.scanL (fileB g ds)).1 0 [] = (g, ds) := by
  obtain ⟨more, h1, h2, _, h4, h5, h6⟩ := load_front _ 0 [] g ds h
  simp only [List.nil_append] at h1
  subst h1
  simp only [List.length_nil, if_true] at h4 h6
  refine ⟨h4.trans (scan_front _ fb (Nat.le_refl _)), h2, h5, h6, ?_⟩
  cases ds with
  | nil => rw [h2 rfl, fileB, Fr.scan_nil]; rfl
  | cons d r =>
    have h7 := h6 (by simp)
    rw [load_file (d :: r) g h5 h7.1 h7.2, if_neg (by simp)]
end Go.Proofs.YtjndgekpdmlbiaaGreatDoor.Wl
namespace Go.Proofs.YtjndgekpdmlbiaaGreatDoor.Wl
open Go.RowKit Dk

/-- How many records have numbers up to n. -/
def cnt (first : Int) (ds : List (List UInt8)) (n : Int) : Nat := if lastL first ds ≤ n then ds.length else (n - first + 1).toNat

set_option maxHeartbeats 1000000 in
theorem count_any (B p pd : Nat) (s : St) (F : Nat → Prop) (first : Int) (ds : List (List UInt8)) (n : Int) (w : World) (h : LW w B p pd s F first ds) (h0 : 0 ≤ n) (h1 : n ≤ 9223372036854775806) :
    Calls Tryz.prog 79 #[.pointer (some ⟨p, 0, none⟩), .int .i64 n] w fun e w' => e = .returned (.int .i64 (cnt first ds n : Nat)) ∧ ∃ m, w' = w.drewN m := by
  have HL : Hid (_) := h.last
  obtain ⟨_, ⟨vr, rs, G, hL, rfl, _⟩, _, _⟩ := h
  obtain ⟨c0, c1, c2, _⟩ := hL.cells
  obtain ⟨ao, cap, rfl, _⟩ := hL.shape
  have hfit := hL.fit
  have HD : Hid (∀ m, (w.drewN m).cell? ⟨p, 1, none⟩ = some (.int .i64 first) ∧ (w.drewN m).cell? ⟨p, 2, none⟩ = some (.slice ao rs.length cap)) := fun m => ⟨c1, c2⟩
  unfold cnt
  rw [List.length_map]
  obtain ⟨l, Hl⟩ : ∃ l, Hid (l = lastL first (rs.map Re.data)) := ⟨_, (rfl : _ = _)⟩
  rw [← Hl.out] at HL ⊢
  obtain ⟨N, HN⟩ : ∃ N, Hid (N = rs.length) := ⟨_, (rfl : _ = _)⟩
  rw [← HN.out] at HD hfit ⊢
  clear hL c0 c1 c2
  by_cases hc : l ≤ n
  · rw [if_pos hc]
    go_enter Tryz.func79, Tryz.ntmps79
    go_wp2_with (go_at_call 48; refine Calls.mono HL.out ?_; rintro e w1 ⟨rfl, m, rfl⟩; obtain ⟨d1, d2⟩ := HD.out m; clear HD)
    go_ret
    exact ⟨rfl, m, rfl⟩
  · rw [if_neg hc]
    by_cases hz : n - first + 1 < 0
    · have hT : ((n - first + 1).toNat : Int) = 0 := by omega
      rw [hT]
      go_enter Tryz.func79, Tryz.ntmps79
      go_wp2_with (go_at_call 48; refine Calls.mono HL.out ?_; rintro e w1 ⟨rfl, m, rfl⟩; obtain ⟨d1, d2⟩ := HD.out m; clear HD)
      go_ret
      exact ⟨rfl, m, rfl⟩
    · have hT : ((n - first + 1).toNat : Int) = n - first + 1 := by omega
      rw [hT]
      go_enter Tryz.func79, Tryz.ntmps79
      go_wp2_with (go_at_call 48; refine Calls.mono HL.out ?_; rintro e w1 ⟨rfl, m, rfl⟩; obtain ⟨d1, d2⟩ := HD.out m; clear HD)
      go_ret
      exact ⟨rfl, m, rfl⟩
end Go.Proofs.YtjndgekpdmlbiaaGreatDoor.Wl
