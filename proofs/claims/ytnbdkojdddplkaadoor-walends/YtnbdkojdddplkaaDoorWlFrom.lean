/- The walks of From and Until. -/
import Derived.Test.YtnbdkojdddplkaaDoorWlSeals
namespace Go.Proofs.YtnbdkojdddplkaaDoor.Wl
open Go.RowKit Dk

/-- The name of the copy. -/
def nmC : ByteArray := ⟨#[119, 46, 99, 111, 112, 121]⟩

/-- A log whose memory goes on by itself. -/
theorem LW.own {w w' : World} {B p pd : Nat} {s : St} {F G : Nat → Prop} {first first' : Int} {ds ds' : List (List UInt8)} {vr : Value} {rs : List Re} (h : LW w B p pd s F first ds) (hG : ∀ k, G k → ¬ F k ∧ B ≤ k) (hL : Lg w' p pd first' vr rs G) (hd : rs.map Re.data = ds') (hf : Dk.Fr (fun k => G k ∨ k = p) w w') :
    LW w' B p pd s F first' ds' ∧ Dk.Fr (fun k => F k ∨ B ≤ k) w w' := by
  refine ⟨⟨h.dk.kept hf (fun k hk hk2 => ?_), ⟨vr, rs, G, hL, hd, hG⟩, h.np, h.new⟩, hf.mono (fun k _ hk => ?_)⟩
  · rcases hk2 with hk2 | rfl
    · exact (hG k hk2).1 hk
    · exact h.np hk
  · rcases hk with hk | rfl
    · exact Or.inr (hG k hk).2
    · exact Or.inr h.new
theorem LW.dropBack {w : World} {B p pd : Nat} {s : St} {F : Nat → Prop} {first : Int} {ds : List (List UInt8)} (h : LW w B p pd s F first ds) (k : Nat) (hk : k < ds.length) (hl : ds.length ≤ 1000000000) :
    Calls Tryd.prog 38 #[.pointer (some ⟨p, 0, none⟩), .int .i64 (k : Int)] w fun e w' => e = .returned (.tuple #[]) ∧ Hid (LW w' B p pd s F (if k = 0 then 0 else first) (ds.take k) ∧ Dk.Fr (fun k => F k ∨ B ≤ k) w w') := by
  obtain ⟨_, ⟨vr, rs, G, h1, rfl, h3⟩, _, _⟩ := id h
  rw [List.length_map] at hk hl
  refine (dropBack_any p pd first vr rs G k w h1 hk hl).mono ?_
  rintro e w' ⟨rfl, ⟨vr', hL⟩, hf⟩
  exact ⟨rfl, h.own h3 hL (by rw [List.map_take]) hf⟩
theorem LW.dropFront {w : World} {B p pd : Nat} {s : St} {F : Nat → Prop} {first : Int} {ds : List (List UInt8)} (h : LW w B p pd s F first ds) (k : Nat) (h0 : 0 < k) (hk : k ≤ ds.length) (hl : ds.length ≤ 1000000000) (hfl : (fileB first ds).length ≤ 1000000000) (hfit : first + ds.length ≤ 9223372036854775807) :
    Calls Tryd.prog 40 #[.pointer (some ⟨p, 0, none⟩), .int .i64 (k : Int)] w fun e w' => e = .returned (.tuple #[]) ∧ Hid (LW w' B p pd s F (if k = ds.length then 0 else first + k) (ds.drop k) ∧ Dk.Fr (fun k => F k ∨ B ≤ k) w w') := by
  obtain ⟨_, ⟨vr, rs, G, h1, rfl, h3⟩, _, _⟩ := id h
  rw [List.length_map] at hk hl hfit ⊢
  refine (dropFront_any p pd first vr rs G k w h1 h0 hk hl hfl hfit).mono ?_
  rintro e w' ⟨rfl, ⟨vr', rs', hL, hd⟩, hf⟩
  exact ⟨rfl, h.own h3 hL hd hf⟩
theorem LW.endOf {w : World} {B p pd : Nat} {s : St} {F : Nat → Prop} {first : Int} {ds : List (List UInt8)} (h : LW w B p pd s F first ds) (k : Nat) (hk : k ≤ ds.length) (hl : ds.length ≤ 1000000000) :
    Calls Tryd.prog 37 #[.pointer (some ⟨p, 0, none⟩), .int .i64 (k : Int)] w fun e w' => e = .returned (.int .i64 ((fileB first (ds.take k)).length : Nat)) ∧ w' = w := by
  obtain ⟨_, ⟨vr, rs, G, h1, rfl, h3⟩, _, _⟩ := id h
  rw [List.length_map] at hk hl
  exact endOf_any p pd first vr rs G k w h1 hk hl
theorem LW.seals {w : World} {B p pd : Nat} {s : St} {F : Nat → Prop} {first : Int} {ds : List (List UInt8)} (h : LW w B p pd s F first ds) (ht : Fr.Tab w) (k : Nat) (hk : k ≤ ds.length) (hl : ds.length ≤ 1000000) (hd : ∀ d ∈ ds, d.length ≤ 32768) (hfl : (fileB first ds).length ≤ 900000000) (hfit : first + ds.length ≤ 9223372036854775807) :
    Calls Tryd.prog 60 #[.pointer (some ⟨p, 0, none⟩), .int .i64 (k : Int)] w fun e w' => ∃ ao L cap, e = .returned (.slice ao L cap) ∧ Hid (w'.ownsRow w.heap.size 5 1 (.slice ao L cap) (fileB (first + k) (ds.drop k)).length (cells8 (fileB (first + k) (ds.drop k))) ∧ Below w.heap.size w w') := by
  obtain ⟨_, ⟨vr, rs, G, h1, rfl, h3⟩, _, _⟩ := id h
  have hsp := congrArg List.length (fileB_split first (rs.map Re.data) k hk)
  rw [List.length_append] at hsp
  rw [List.length_map] at hk hl hfit
  exact sealsFrom_any p pd first vr rs G k w h1 ht hk hl (fun r hr => hd _ (List.mem_map_of_mem hr)) (by omega) hfit
theorem LW.cell2 {w : World} {B p pd : Nat} {s : St} {F : Nat → Prop} {first : Int} {ds : List (List UInt8)} (h : LW w B p pd s F first ds) : ∃ ao cap, w.cell? ⟨p, 2, none⟩ = some (.slice ao ds.length cap) := by
  obtain ⟨_, ⟨vr, rs, G, h1, rfl, h3⟩, _, _⟩ := id h
  obtain ⟨ao, cap, rfl, _⟩ := h1.shape
  rw [List.length_map]
  exact ⟨ao, cap, h1.cells.2.2.1⟩
theorem LW.fit {w : World} {B p pd : Nat} {s : St} {F : Nat → Prop} {first : Int} {ds : List (List UInt8)} (h : LW w B p pd s F first ds) : 0 ≤ first ∧ first + ds.length ≤ 9223372036854775808 ∧ (ds = [] → first = 0) := by
  obtain ⟨_, ⟨vr, rs, G, h1, rfl, h3⟩, _, _⟩ := id h
  rw [List.length_map]
  exact ⟨h1.fit.1, h1.fit.2, fun e => h1.zero (List.map_eq_nil_iff.1 e)⟩

set_option maxHeartbeats 400000 in
theorem from_low (p : Nat) (n : Int) (w : World) (hn : n < 1) : Calls Tryd.prog 15 #[.pointer (some ⟨p, 0, none⟩), .int .i64 n] w fun e w' => e = .returned (.int .i64 1) ∧ w' = w := by
  go_enter Tryd.func15, Tryd.ntmps15
  go_wp2
  go_ret
  exact ⟨rfl, rfl⟩
set_option maxHeartbeats 400000 in
theorem until_low (p : Nat) (n : Int) (w : World) (hn : n < 1) : Calls Tryd.prog 16 #[.pointer (some ⟨p, 0, none⟩), .int .i64 n] w fun e w' => e = .returned (.int .i64 1) ∧ w' = w := by
  go_enter Tryd.func16, Tryd.ntmps16
  go_wp2
  go_ret
  exact ⟨rfl, rfl⟩

set_option maxHeartbeats 1000000 in
theorem from_same (B p pd : Nat) (s : St) (F : Nat → Prop) (first : Int) (ds : List (List UInt8)) (n : Int) (w : World) (h : LW w B p pd s F first ds) (h1 : 1 ≤ n) (hn : n ≤ 9223372036854775807) (hk : cnt first ds (n - 1) = ds.length) :
    Calls Tryd.prog 15 #[.pointer (some ⟨p, 0, none⟩), .int .i64 n] w fun e w' => e = .returned (.int .i64 0) ∧ ∃ m, w' = w.drewN m := by
  have HC : Hid (_) := count_any B p pd s F first ds (n - 1) w h (by omega) (by omega)
  rw [hk] at HC
  obtain ⟨ao, cap, c2⟩ := h.cell2
  have HD : Hid (∀ m, (w.drewN m).cell? ⟨p, 2, none⟩ = some (.slice ao ds.length cap)) := fun m => c2
  clear h hk c2
  generalize ds.length = N at *
  go_enter Tryd.func15, Tryd.ntmps15
  go_wp2_with (go_at_call 35; refine Calls.mono HC.out ?_; rintro e w1 ⟨rfl, m, rfl⟩; have d2 := HD.out m; clear HD)
  go_ret
  exact ⟨rfl, m, rfl⟩

set_option maxHeartbeats 2000000 in
set_option maxRecDepth 20000 in
theorem from_ok (B p pd : Nat) (s : St) (F : Nat → Prop) (first : Int) (ds : List (List UInt8)) (n : Int) (k : Nat) (f : Fl) (w : World) (h : LW w B p pd s F first ds) (h1 : 1 ≤ n) (hn : n ≤ 9223372036854775807) (hk : cnt first ds (n - 1) = k) (hlt : k < ds.length) (hl : ds.length ≤ 1000000000)
    (hlook : Dk.look nmW s.now = some f) (hfb : f.bs = fileB first ds) (hm : s.mass + 1 ≤ 1000000000) :
    Calls Tryd.prog 15 #[.pointer (some ⟨p, 0, none⟩), .int .i64 n] w fun e w' => e = .returned (.int .i64 0) ∧ Hid (∃ F', LW w' B p pd (s.push (.cut nmW (fileB first (ds.take k)).length)) F' (if k = 0 then 0 else first) (ds.take k) ∧ (∀ j, F' j → F j ∨ w.heap.size ≤ j) ∧ Dk.Fr (fun j => F j ∨ B ≤ j) w w') := by
  have HC : Hid (_) := count_any B p pd s F first ds (n - 1) w h (by omega) (by omega)
  rw [hk] at HC
  obtain ⟨ao, cap, c2⟩ := h.cell2
  have c0 := h.cell0
  have HD : Hid (∀ m, (w.drewN m).cell? ⟨p, 2, none⟩ = some (.slice ao ds.length cap)) := fun m => c2
  have HD0 : Hid (∀ m, (w.drewN m).drew.cell? ⟨p, 0, none⟩ = some (.pointer (some ⟨pd, 0, none⟩))) := fun m => c0
  obtain ⟨z, Hz⟩ : ∃ z, Hid (z = (fileB first (ds.take k)).length) := ⟨_, (rfl : _ = _)⟩
  rw [← Hz.out]
  have hzl : z ≤ f.bs.length := by rw [Hz.out, hfb]; exact fileB_take_le first ds k
  obtain ⟨f', Hf'⟩ : ∃ f', Hid (f' = if k = 0 then 0 else first) := ⟨if k = 0 then 0 else first, (rfl : _ = _)⟩
  rw [← Hf'.out]
  have HE : Hid (∀ m, Calls Tryd.prog 37 #[.pointer (some ⟨p, 0, none⟩), .int .i64 (k : Int)] (w.drewN m).drew fun e w' => e = .returned (.int .i64 (z : Int)) ∧ w' = (w.drewN m).drew) := fun m => by
    have := ((h.drew m).drew 1).endOf k (by omega) hl
    rw [← Hz.out] at this
    exact this
  have HX : Hid (∀ m, Calls Tryd.prog 36 #[.pointer (some ⟨pd, 0, none⟩), .string nmW, .int .i64 (z : Int)] (w.drewN m).drew fun e w3 => e = .returned (.int .i64 0) ∧ w3.cell? ⟨p, 0, none⟩ = some (.pointer (some ⟨pd, 0, none⟩)) ∧ Hid (Calls Tryd.prog 38 #[.pointer (some ⟨p, 0, none⟩), .int .i64 (k : Int)] w3 fun e w' => e = .returned (.tuple #[]) ∧ Hid (∃ F', LW w' B p pd (s.push (.cut nmW z)) F' f' (ds.take k) ∧ (∀ j, F' j → F j ∨ w.heap.size ≤ j) ∧ Dk.Fr (fun j => F j ∨ B ≤ j) w w'))) := by
    intro m
    have hbd : Below w.heap.size w (w.drewN m).drew := ⟨rfl, rfl, rfl, Nat.le_refl _, fun _ _ => rfl⟩
    have hW := h.below hbd
    refine (cut_ok pd s F nmW z f (w.drewN m).drew hW.dk hlook hzl hm).mono ?_
    rintro e w3 ⟨rfl, hD3, hf3⟩
    have hW3 := hW.disk hD3 hf3
    refine ⟨rfl, hW3.cell0, ?_⟩
    refine (hW3.dropBack k hlt hl).mono ?_
    rintro e w' ⟨rfl, hL, hf⟩
    rw [← Hf'.out] at hL
    refine ⟨rfl, _, hL, fun j hj => ?_, ((Fr.of_below hbd).trans (hf3.mono (G := fun j => F j ∨ B ≤ j) (fun _ _ h => Or.inl h)) (fun _ _ h => h)).trans hf (fun j hj hF => ?_)⟩
    · rcases hj with hj | hj
      · exact Or.inl hj
      · exact Or.inr hj.1
    · rcases hF with (hF | hF) | hF
      · exact Or.inl hF
      · have := hF.1
        simp at this
        omega
      · exact Or.inr hF
  have hne : ((k : Int) == (ds.length : Int)) = false := by rw [beq_eq_false_iff_ne]; omega
  simp only [nmW] at HX ⊢
  obtain ⟨PP, HPP⟩ : ∃ PP : World → Prop, Hid (PP = fun w' => ∃ F', LW w' B p pd (s.push (.cut ⟨#[119]⟩ z)) F' f' (ds.take k) ∧ (∀ j, F' j → F j ∨ w.heap.size ≤ j) ∧ Dk.Fr (fun j => F j ∨ B ≤ j) w w') := ⟨_, (rfl : _ = _)⟩
  have HP := HPP.out
  rw [funext_iff] at HP
  simp only [← HP] at HX ⊢
  clear h hk hlt hlook hfb hzl hm hl c2 c0 Hz Hf' HP HPP
  generalize ds.length = N at *
  go_enter Tryd.func15, Tryd.ntmps15
  go_wp2_with (go_at_call 35; refine Calls.mono HC.out ?_; rintro e w1 ⟨rfl, m, rfl⟩; have d2 := HD.out m; have d0 := HD0.out m; have HEm : Hid (_) := HE.out m; have HXm : Hid (_) := HX.out m; clear HD HD0 HE HX)
  go_region_held (fun u => u.cell? ⟨p, 0, none⟩ = some (.pointer (some ⟨pd, 0, none⟩)))
    (first | exact d0 | exact d3)
    (first
      | (go_at_call 37; refine Calls.mono HEm.out ?_; rintro e w' ⟨rfl, hw⟩; have hw' := hw.symm; subst hw')
      | (go_at_call 36; refine Calls.mono HXm.out ?_; rintro e w3 ⟨rfl, d3, HY⟩))
  go_wp2_with (go_at_call 38; refine Calls.mono HY.out ?_; rintro e w4 ⟨rfl, HZ⟩)
  go_ret
  exact ⟨rfl, HZ⟩
end Go.Proofs.YtnbdkojdddplkaaDoor.Wl
