/- start. Orders of literals: who is next, traces; mayBegin; next and remove on the walk. Make. The law's first steps: the walk of begun. The reference's place, bound, vars. -/
import Derived.Test.YtjejpjpdfdcnlaaPart16
import Derived.Deep.RegionHeldLaw
import Derived.Test.YtjejpjpdfdcnlaaPart12
namespace Go.Proofs.Ytjejpjpdfdcnlaa.Qu
open Go.RowKit
open Vl (Fr Tm)
open Sy (isTs isLs Bx)
open Ck (TsB Nm)

/-- What start has made when i literals are gone through and k terms of the next. -/
def Sg (w wr : World) (bv : Value) (ls : List Sy.Lit) (i j k : Nat) : Prop :=
  ∃ pv wv f t N D V P dm, Wl w.heap.size wr (w.heap.size + 1) w.heap.size bv pv wv (.slice none 0 0) (.slice none 0 0) f j (gOf ls []) t j [] [] N D V P dm ∧ Cu ls i k P dm ∧ N ≤ 4 * i + k ∧ (∀ a, In f j a ↔ a < j) ∧ Below w.heap.size w wr
theorem Sg.below {w wr wr' : World} {bv : Value} {ls : List Sy.Lit} {i j k : Nat} (h : Sg w wr bv ls i j k) (hb : Below wr.heap.size wr wr') : Sg w wr' bv ls i j k := by
  obtain ⟨pv, wv, f, t, N, D, V, P, dm, h1, h2, h3, h4, h5⟩ := h
  exact ⟨pv, wv, f, t, N, D, V, P, dm, h1.below hb, h2, h3, h4, h5.trans (hb.mono h5.size)⟩
theorem Sg.bel {w wr : World} {bv : Value} {ls : List Sy.Lit} {i j k : Nat} (h : Sg w wr bv ls i j k) : Below w.heap.size w wr := by
  obtain ⟨pv, wv, f, t, N, D, V, P, dm, h1, h2, h3, h4, h5⟩ := h
  exact h5
theorem Sg.zero (w : World) (bv : Value) (ls : List Sy.Lit) : Sg w ((w.alloc (.map #[] 0)).alloc (.cells #[bv, .slice none 0 0, .slice none 0 0, .map (some w.heap.size), .slice none 0 0, .slice none 0 0] 54)) bv ls 0 0 0 := by
  have hsz : (w.alloc (.map #[] 0)).heap.size = w.heap.size + 1 := by simp
  have hb1 : Below w.heap.size w (w.alloc (.map #[] 0)) := (Below.refl _ w).alloc (Nat.le_refl _) _
  have hb2 : Below (w.alloc (.map #[] 0)).heap.size (w.alloc (.map #[] 0)) ((w.alloc (.map #[] 0)).alloc (.cells #[bv, .slice none 0 0, .slice none 0 0, .map (some w.heap.size), .slice none 0 0, .slice none 0 0] 54)) := (Below.refl _ _).alloc (Nat.le_refl _) _
  have hq := heap_alloc_new (w.alloc (.map #[] 0)) (.cells #[bv, .slice none 0 0, .slice none 0 0, .map (some w.heap.size), .slice none 0 0, .slice none 0 0] 54)
  rw [hsz] at hq
  have hn : ∀ {W : World} {e s : Nat}, W.ownsRow 0 e s (.slice none 0 0) 0 [] := fun {W e s} => ⟨by simp, .inl ⟨rfl, rfl⟩⟩
  refine ⟨.slice none 0 0, .slice none 0 0, fun _ => 0, fun _ => -1, 0, .map [], fun _ => .slice none 0 0, fun _ => [], fun _ => false, ⟨⟨hq, hn, hn, by omega, (fun k hk => by omega), (fun k hk => by omega), (fun a ha => by omega)⟩, (fun c _ hc => by omega), hn, hn, map_fr (World.ownsMap_made w Try.prog 9 heldR) (Fr.of_below (F := fun _ => False) hb2) (fun e => e), fun x => rfl, (fun x hx => by cases hx), (fun x hx => by cases hx), (fun k hk => by cases hk), (fun k hk => by cases hk), (fun k hk => by cases hk), (fun x y _ hx => by cases hx), by omega, by omega, (fun k hk => by cases hk), (fun k hk => by cases hk), (fun k hk => by cases hk), (fun k hk => by cases hk), (fun x hx => by cases hx), by have := hb1.size; have := hb2.size; omega⟩, Cu.zero ls _, by omega, fun a => ⟨fun ⟨k, hk, _⟩ => by omega, (fun h => by omega)⟩, hb1.trans (hb2.mono (by omega))⟩
theorem Sg.c3 {w wr : World} {bv : Value} {ls : List Sy.Lit} {i j k : Nat} (h : Sg w wr bv ls i j k) : wr.cell? ⟨w.heap.size + 1, 3, none⟩ = some (.map (some w.heap.size)) := by
  obtain ⟨pv, wv, f, t, N, D, V, P, dm, h1, h2, h3, h4, h5⟩ := h
  exact h1.c.2.1
theorem Sg.add {w wr : World} {bv : Value} {ls : List Sy.Lit} {i : Nat} (h : Sg w wr bv ls i i 0) (hi : i < ls.length) (hl : ls.length ≤ 1000) :
    Calls Try.prog 29 #[.pointer (some ⟨w.heap.size + 1, 1, none⟩), .agg #[.int .i64 (litAt ls i).1, .int .i64 ((litAt ls i).2.2.countP cstB : Nat), .int .i64 ((litAt ls i).2.2.countP varB : Nat), .int .i64 (-1)]] wr fun e w' => e = .returned (.tuple #[]) ∧ Sg w w' bv ls i (i + 1) 0 ∧ (∀ (tb : Nat) (cs : Array Value) (T : TypeId) (fr : Nat × Nat), wr.heap[tb]? = some (.cells cs T fr) → T ≠ 3 → T ≠ 76 → T ≠ 54 → w'.heap[tb]? = some (.cells cs T fr)) := by
  obtain ⟨pv, wv, f, t, N, D, V, P, dm, h1, h2, h3, h4, h5⟩ := h
  refine (add_q h1.q h1.hp (by omega) ⟨(litAt ls i).1, ((litAt ls i).2.2.countP cstB : Nat), ((litAt ls i).2.2.countP varB : Nat)⟩).mono ?_
  rintro e w' ⟨rfl, pv', wv', f', t', q1, q2, q3, q4, q5, q6⟩
  have e : upd (gOf ls []) i ⟨(litAt ls i).1, ((litAt ls i).2.2.countP cstB : Nat), ((litAt ls i).2.2.countP varB : Nat)⟩ = gOf ls [] := by
    funext a
    by_cases ea : a = i
    · subst ea
      rw [upd_s]
      unfold gOf
      rw [kdL_nil]
    · rw [upd_o _ _ ea]
  rw [e] at q1 q2
  obtain ⟨r1, r2⟩ := h1.step q1 q2 q4 q5 q6
  refine ⟨rfl, ⟨pv', wv', f', t', N, D, V, P, dm, r1, h2, h3, fun a => ?_, h5.trans r2⟩, fun tb cs T fr hb n3 n76 n54 => ?_⟩
  rotate_left
  · rw [q4.block tb (Array.getElem?_eq_some_iff.1 hb).1 (fun hF => ?_)]
    · exact hb
    · rcases hF with (hF | hF) | hF
      · exact own_ty h1.q.p hb n3 hF
      · exact own_ty h1.q.x hb n76 hF
      · subst hF
        rw [h1.q.b] at hb
        simp at hb
        exact n54 hb.2.1.symm
  show In f' (i + 1) a ↔ a < i + 1
  have e3 : In f' (i + 1) a ↔ In (upd f i i) (i + 1) a := (q3 a).symm
  rw [e3]
  constructor
  · rintro ⟨k, hk, rfl⟩
    by_cases ek : k = i
    · subst ek; rw [upd_s]; omega
    · rw [upd_o f _ ek]
      have := (h4 (f k)).1 ⟨k, by omega, rfl⟩
      omega
  · intro ha
    by_cases ea : a = i
    · subst ea; exact ⟨a, by omega, upd_s _ _ _⟩
    · obtain ⟨k, hk, rfl⟩ := (h4 a).2 (by omega)
      exact ⟨k, by omega, upd_o f _ (by omega)⟩
theorem Sg.next {w wr : World} {bv : Value} {ls : List Sy.Lit} {i k : Nat} (h : Sg w wr bv ls i (i + 1) k) (hk : k = (litAt ls i).2.2.length) (h4 : k ≤ 4) : Sg w wr bv ls (i + 1) (i + 1) 0 := by
  obtain ⟨pv, wv, f, t, N, D, V, P, dm, h1, h2, h3, h5, h6⟩ := h
  exact ⟨pv, wv, f, t, N, D, V, P, dm, h1, h2.next hk h4, by omega, h5, h6⟩
theorem Sg.skip {w wr : World} {bv : Value} {ls : List Sy.Lit} {i j k : Nat} (h : Sg w wr bv ls i j k) (hk : k < (litAt ls i).2.2.length) (hn : varB (litAt ls i).2.2[k] = false) : Sg w wr bv ls i j (k + 1) := by
  obtain ⟨pv, wv, f, t, N, D, V, P, dm, h1, h2, h3, h5, h6⟩ := h
  exact ⟨pv, wv, f, t, N, D, V, P, dm, h1, h2.skip hk hn, by omega, h5, h6⟩
theorem Sg.put {w U : World} {bv : Value} {ls : List Sy.Lit} {i j k : Nat} (h : Sg w U bv ls i j k) (hl : i ≤ 1000) (hk : k < (litAt ls i).2.2.length) (h4 : k ≤ 4) {x : Nm} (hv : varB (litAt ls i).2.2[k] = true) (hx : (litAt ls i).2.2[k].2.1 = x.1) {tb : Nat} {tv : Value} (hty : U.cell? ⟨tb, 1, none⟩ = some tv) (htb : ∀ (v : Value) (n : Nat) (xs : List Value), U.ownsRow 0 3 1 v n xs → v.ownBlock ≠ some tb) :
    ∃ vx, (∀ o, (Instr.lookup 52 (.map (some w.heap.size)) (.string x.1) false).run Try.prog (U.drew.alloc o) = .ok vx (U.drew.alloc o)) ∧ (Instr.lookup 52 (.map (some w.heap.size)) (.string x.1) false).run Try.prog U.drew = .ok vx U.drew ∧
      ∃ gx L cx w3 w5, (∀ ty, (Builtin.append_ #[31, 31] ty #[vx, .slice (some ⟨U.heap.size, 0, none⟩) 1 1]).run Try.prog (U.drew.alloc (.cells #[.int .i64 (i : Int)] 3)) = .ok (.slice (some ⟨gx, 0, none⟩) L cx) w3) ∧
        w3.cell? ⟨w.heap.size + 1, 3, none⟩ = some (.map (some w.heap.size)) ∧ w3.cell? ⟨tb, 1, none⟩ = some tv ∧ (Instr.mapUpdate 52 (.map (some w.heap.size)) (.string x.1) (.slice (some ⟨gx, 0, none⟩) L cx)).run Try.prog w3 = .ok () w5 ∧ w5.cell? ⟨w.heap.size + 1, 3, none⟩ = some (.map (some w.heap.size)) ∧ w5.cell? ⟨tb, 1, none⟩ = some tv ∧ Hid (Sg w w5 bv ls i j (k + 1)) := by
  obtain ⟨pv, wv, f, t, N, D, V, P, dm, h1, h2, h3, h5, h6⟩ := h
  have h1d : Wl w.heap.size U.drew (w.heap.size + 1) w.heap.size bv pv wv (.slice none 0 0) (.slice none 0 0) f j (gOf ls []) t j [] [] N D V P dm := h1.below (Below.refl _ U).drew
  have hpl := (h2.px x).2
  have htm : tb ≠ w.heap.size := fun e => by
    subst e
    obtain ⟨es, clock, hb, _⟩ := h1.mp
    simp [World.cell?, hb] at hty
  obtain ⟨gx, cx, w3, hr, k1, k2, k3⟩ := push_row 31 3 1 8 _ Try.underlying31 Try.info3 rfl (by decide) (by decide) (h1d.px x) [.int .i64 (i : Int)] rfl (by simp [Value.oneCell']) (by omega)
  obtain ⟨w5, hu, hb5, hf5, D', hW5⟩ := h1d.stood x i (by omega) k1.out k2.out k3.out
  refine ⟨vxOf V dm x, fun o => (h1d.below ((Below.refl _ _).alloc (Nat.le_refl _) o)).at x, h1d.at x, gx, _, cx, w3, w5, hr, k2.out.cell (w := U.drew) h1d.c.2.1 (own_ty (h1d.px x) h1d.q.b (by decide)), k2.out.cell (w := U.drew) hty (htb _ _ _ (h1.px x)), hu, hW5.c.2.1, hf5.cell (k2.out.cell (w := U.drew) hty (htb _ _ _ (h1.px x))) htm, ?_⟩
  exact ⟨pv, wv, f, t, N + 1, D', _, _, _, hW5, h2.put hk hv hx, by omega, h5, h6.trans ((show Below w.heap.size U U.drew from (Below.refl _ U).drew.mono h1.bl).trans hb5)⟩

set_option maxHeartbeats 8000000 in
theorem start_any {w : World} {ls : List Sy.Lit} {bv : Value} (hL : isLs w ls bv) (hl : ls.length ≤ 200) (h4 : ∀ l ∈ ls, l.2.2.length ≤ 4) (hsz : ∀ l ∈ ls, ∀ t ∈ l.2.2, t.2.1.size ≤ 1000) :
    Calls Try.prog 12 #[bv] w fun e w' => e = .returned (.pointer (some ⟨w.heap.size + 1, 0, none⟩)) ∧ ∃ f, Ws w w' (w.heap.size + 1) w.heap.size bv ls [] [] f ls.length ∧ (∀ a, In f ls.length a ↔ a < ls.length) := by
  have hbv : ∃ ao cap, bv = .slice ao ls.length cap := by
    obtain ⟨zs, rfl, h2, _⟩ := hL
    obtain ⟨ao, cap, e⟩ := (Sy.own_len h2).2
    exact ⟨ao, cap, by rw [e]; simp⟩
  obtain ⟨ao, cap, hbv⟩ := hbv
  subst hbv
  have HL := hide (Sy.isLs_cells hL).2
  have HZ := hide (Sg.zero w (.slice ao ls.length cap) ls)
  have H4 := hide h4
  have HS := hide hsz
  have HLs := hide hl
  have hlI : (ls.length : Int) ≤ 200 := by omega
  have hmm := @run_makeMap Try.prog
  clear hL h4 hsz hl
  go_enter Try.func12, Try.ntmps12
  go_wp2_with fail
  go_loopw [14] (fun iv wr => ∃ i : Nat, iv = .int .i64 (i : Int) ∧ i ≤ ls.length ∧ Hid (Sg w wr (.slice ao ls.length cap) ls i i 0)) (fun iv _ => ls.length - (intOf iv).toNat)
  case atStart => exact ⟨0, rfl, Nat.zero_le _, HZ⟩
  case round =>
    obtain ⟨i, rfl, hi, HI⟩ := hrel
    clear HZ
    by_cases hlt : i < ls.length
    · have hltI : (i : Int) < (ls.length : Int) := by omega
      obtain ⟨gb, rfl, hcells⟩ := HL.out (by omega)
      obtain ⟨va, hta, l0, l1, l2⟩ := hcells i hlt
      have hgb : gb < w.heap.size := World.block_lt_of_cell? w _ l0
      have hb := HI.out.bel
      have l0 := (hb.cell (p := ⟨gb, i * 3, none⟩) hgb).trans l0
      have l1 := (hb.cell (p := ⟨gb, i * 3 + 1, none⟩) hgb).trans l1
      have l2 := (hb.cell (p := ⟨gb, i * 3 + 2, none⟩) hgb).trans l2
      have h4i := H4.out _ (List.getElem_mem hlt)
      have hsi := HS.out _ (List.getElem_mem hlt)
      have hT := TsB.of hta (by omega)
      rw [← litAt_get hlt] at hta l0 l1 h4i hsi hT
      obtain ⟨L, HLL⟩ : ∃ L, Hid (litAt ls i = L) := ⟨_, rfl⟩
      rw [HLL.out] at hta l0 l1 h4i hsi hT
      obtain ⟨lk, ln, ts⟩ := L
      dsimp only at hta l0 l1 h4i hsi hT
      obtain ⟨aot, capt, rfl, _, hct⟩ := hT
      have HCT := hide hct
      have Hsi := hide hsi
      have htI : (ts.length : Int) ≤ 4 := by omega
      obtain ⟨W2, hW2⟩ : ∃ W2, W2 = wr.alloc (.cells #[.int .i64 lk, .string ln, .slice aot ts.length capt] 27) := ⟨_, rfl⟩
      have hb2 : Below wr.heap.size wr W2 := by rw [hW2]; exact (Below.refl _ wr).alloc (Nat.le_refl _) _
      have HG2 := hide (HI.out.below hb2)
      have hn2 : W2.heap[wr.heap.size]? = some (.cells #[.int .i64 lk, .string ln, .slice aot ts.length capt] 27 (0, 0)) := by rw [hW2]; exact heap_alloc_new _ _
      have y0 : W2.cell? ⟨wr.heap.size, 0, none⟩ = some (.int .i64 lk) := by rw [cell_of_row _ _ 0 _ _ _ hn2]; rfl
      have y1 : W2.cell? ⟨wr.heap.size, 1, none⟩ = some (.string ln) := by rw [cell_of_row _ _ 1 _ _ _ hn2]; rfl
      have y2 : W2.cell? ⟨wr.heap.size, 2, none⟩ = some (.slice aot ts.length capt) := by rw [cell_of_row _ _ 2 _ _ _ hn2]; rfl
      have hta2 : isTs W2.drew ts (.slice aot ts.length capt) := Sy.isTs_below (Sy.isTs_below (Sy.isTs_below hta (hb.mono (Nat.le_refl _))) hb2) (Below.refl _ W2).drew
      have HN : Hid (∀ W, Below W2.heap.size W2 W → W.cell? ⟨wr.heap.size, 2, none⟩ = some (.slice aot ts.length capt)) := fun W hB => cell_bel y2 hB
      have HC : Hid (Calls Try.prog 30 #[.agg #[.int .i64 lk, .string ln, .slice aot ts.length capt]] W2.drew fun e w3 => e = .returned (.agg #[.int .i64 lk, .int .i64 (ts.countP cstB : Nat), .int .i64 (ts.countP varB : Nat), .int .i64 (-1)]) ∧
          Hid (Calls Try.prog 29 #[.pointer (some ⟨w.heap.size + 1, 1, none⟩), .agg #[.int .i64 lk, .int .i64 (ts.countP cstB : Nat), .int .i64 (ts.countP varB : Nat), .int .i64 (-1)]] w3 fun e w' => e = .returned (.tuple #[]) ∧ Hid (Sg w w' (.slice (some ⟨gb, 0, none⟩) ls.length cap) ls i (i + 1) 0 ∧ w'.cell? ⟨wr.heap.size, 2, none⟩ = some (.slice aot ts.length capt)))) := by
        refine (waiterOf_any (lk, ln, ts) hta2 (by dsimp only; omega)).mono ?_
        rintro e w3 ⟨rfl, hb3'⟩
        have hb3 : Below W2.heap.size W2 w3 := ⟨hb3'.os, hb3'.tape, hb3'.output, hb3'.size, hb3'.block⟩
        have HA := (HG2.out.below hb3).add hlt (by have := HLs.out; omega)
        rw [HLL.out] at HA
        refine ⟨rfl, HA.mono ?_⟩
        rintro e w' ⟨rfl, hs, hkeep⟩
        refine ⟨rfl, hs, ?_⟩
        have hn3 := hkeep wr.heap.size _ 27 (0, 0) ((hb3.block wr.heap.size (Array.getElem?_eq_some_iff.1 hn2).1).trans hn2) (by decide) (by decide) (by decide)
        rw [cell_of_row _ _ 2 _ _ _ hn3]
        rfl
      have e2 := hide hW2
      have Hta := hide hta
      have HBw := hide hb
      clear hta hta2 hct hsi hcells hb2 hn2 hW2 hb
      go_upto_region 5 with fail
      rw [← e2.out]
      go_cut [] from 19 to 24 (fun wc => Hid (Sg w wc (.slice (some ⟨gb, 0, none⟩) ls.length cap) ls i (i + 1) 0 ∧ wc.cell? ⟨wr.heap.size, 2, none⟩ = some (.slice aot ts.length capt)))
      case first =>
        refine wp_region_noPanic ?_
        go_region_law (first
          | (go_simp; go_at_call 30; (with_reducible refine Calls.mono HC.out ?_); rintro e w3 ⟨rfl, HA⟩)
          | (go_simp; go_at_call 29; (refine Calls.mono HA.out ?_); rintro e w4 ⟨rfl, HB⟩))
        all_goals refine NoPanic.normal ?_
        all_goals go_wp2_with fail
        all_goals go_meet
        all_goals exact HB
      case rest =>
        have z2 := hcut.out.2
        have HK0 := hide hcut.out.1
        clear HC HG2 HI y0 y1 y2 l0 l1 l2 HN e2 hcut
        go_wp2_with fail
        clear z2
        go_loopw [28] (fun kv wq => ∃ k : Nat, kv = .int .i64 (k : Int) ∧ k ≤ ts.length ∧ Hid (Sg w wq (.slice (some ⟨gb, 0, none⟩) ls.length cap) ls i (i + 1) k)) (fun kv _ => ts.length - (intOf kv).toNat)
        case atStart => exact ⟨0, rfl, Nat.zero_le _, HK0⟩
        case round =>
          obtain ⟨k, rfl, hk, HK⟩ := hrel
          clear HK0
          have HLQ : Hid ((litAt ls i).2.2 = ts) := by show _ = _; rw [HLL.out]
          by_cases hkl : k < ts.length
          · have hkI : (k : Int) < (ts.length : Int) := by omega
            obtain ⟨gt, off, rfl, hgt, hc⟩ := HCT.out (by omega)
            obtain ⟨t0, t1, t2⟩ := hc k hkl
            have hb := HK.out.bel
            have t0 := (hb.cell (p := ⟨gt, _, none⟩) hgt).trans t0
            have t1 := (hb.cell (p := ⟨gt, _, none⟩) hgt).trans t1
            have t2 := (hb.cell (p := ⟨gt, _, none⟩) hgt).trans t2
            have hsx := Hsi.out ts[k] (List.getElem_mem hkl)
            have hkl' : k < (litAt ls i).2.2.length := by rw [HLQ.out]; exact hkl
            have HTK : Hid ((litAt ls i).2.2[k] = ts[k]) := by
              show _ = _
              simp only [HLQ.out]
            clear hc hb
            generalize ts[k] = u at *
            obtain ⟨tk, tn, tz⟩ := u
            dsimp only at t0 t1 t2 hsx
            obtain ⟨U, hU⟩ : ∃ U, U = wr.alloc (.cells #[.int .i64 tk, .string tn, .int .i64 tz] 79) := ⟨_, rfl⟩
            have hbU : Below wr.heap.size wr U := by rw [hU]; exact (Below.refl _ wr).alloc (Nat.le_refl _) _
            have HU := hide (HK.out.below hbU)
            have hnU : U.heap[wr.heap.size]? = some (.cells #[.int .i64 tk, .string tn, .int .i64 tz] 79 (0, 0)) := by rw [hU]; exact heap_alloc_new _ _
            have HME : Hid (ts.length - (intOf (.int .i64 ((k : Int) + 1))).toNat < ts.length - (intOf (.int .i64 (k : Int))).toNat) := by
              show _ < _
              simp [intOf]
              omega
            have eU := hide hU
            by_cases k1 : tk = 1
            · subst k1
              have hml : tn.size ≤ maxLen := by unfold maxLen; omega
              have v1 : U.cell? ⟨wr.heap.size, 1, none⟩ = some (.string tn) := by rw [cell_of_row _ _ 1 _ _ _ hnU]; rfl
              have v1a := cell_alloc v1
              have c3 := HU.out.c3
              have c3a := cell_alloc c3
              obtain ⟨vx, hla, hlk, gx, L, cx, w3, w5, hr, c3b, v1b, hu, c3c, v1c, HS5⟩ := HU.out.put (by have := HLs.out; omega) hkl' (by omega) (x := ⟨tn, hml⟩) (by rw [HTK.out]; rfl) (by rw [HTK.out]) v1 (fun v n xs ho => own_ty ho hnU (by decide))
              clear hU hbU hnU HU HTK hkl'
              have S1 : U.drew.cell? ⟨w.heap.size + 1, 3, none⟩ = some (.map (some w.heap.size)) ∧ U.drew.cell? ⟨wr.heap.size, 1, none⟩ = some (.string tn) := ⟨c3, v1⟩
              have S2 : ∀ o, (U.alloc o).drew.cell? ⟨w.heap.size + 1, 3, none⟩ = some (.map (some w.heap.size)) ∧ (U.alloc o).drew.cell? ⟨wr.heap.size, 1, none⟩ = some (.string tn) := fun o => ⟨c3a o, v1a o⟩
              have S3 : w3.cell? ⟨w.heap.size + 1, 3, none⟩ = some (.map (some w.heap.size)) ∧ w3.cell? ⟨wr.heap.size, 1, none⟩ = some (.string tn) := ⟨c3b, v1b⟩
              have S4 : w5.cell? ⟨w.heap.size + 1, 3, none⟩ = some (.map (some w.heap.size)) ∧ w5.cell? ⟨wr.heap.size, 1, none⟩ = some (.string tn) := ⟨c3c, v1c⟩
              dsimp only at hla hlk hu
              have hlb : ∀ o, (Instr.lookup 52 (.map (some w.heap.size)) (.string tn) false).run Try.prog (U.alloc o).drew = .ok vx (U.alloc o).drew := hla
              go_upto_region 10 with fail
              rw [← eU.out]
              refine wp_region_noPanic ?_
              go_region_held_law (fun u => u.cell? ⟨w.heap.size + 1, 3, none⟩ = some (.map (some w.heap.size)) ∧ u.cell? ⟨wr.heap.size, 1, none⟩ = some (.string tn))
                (first | with_reducible exact S1 | with_reducible exact S2 _ | with_reducible exact S3 | with_reducible exact S4)
                (first
                  | (refine Vl.step_append_run rfl (.tmp 47) (.tmp 49) 31 31 rfl vx (.slice (some ⟨U.heap.size, 0, none⟩) 1 1) (by simp [Act.eval]) (by simp [Act.eval]) (hr _) ?_))
              all_goals refine NoPanic.normal ?_
              all_goals clear hla hlb hlk hr c3 c3a c3b c3c v1 v1a v1b v1c hu S1 S2 S3 S4
              all_goals go_wp2_with fail
              all_goals exact ⟨⟨k + 1, by simp, by omega, HS5⟩, HME.out⟩
            · have HS5 : Hid (Sg w (wr.alloc (.cells #[.int .i64 tk, .string tn, .int .i64 tz] 79)) (.slice (some ⟨gb, 0, none⟩) ls.length cap) ls i (i + 1) (k + 1)) := by
                show Sg _ _ _ _ _ _ _
                rw [← hU]
                exact HU.out.skip hkl' (by rw [HTK.out]; simp [varB, k1])
              clear hU hbU hnU HU HTK hkl'
              go_wp2_with fail
              exact ⟨⟨k + 1, by simp, by omega, HS5⟩, HME.out⟩
          · have hke : k = ts.length := by omega
            have HN2 : Hid (Sg w wr (.slice (some ⟨gb, 0, none⟩) ls.length cap) ls (i + 1) (i + 1) 0) := HK.out.next (by rw [HLQ.out]; exact hke) (by omega)
            have HME : Hid (ls.length - (intOf (.int .i64 ((i : Int) + 1))).toNat < ls.length - (intOf (.int .i64 (i : Int))).toNat) := by
              show _ < _
              simp [intOf]
              omega
            clear HK
            go_wp2_with fail
            exact ⟨⟨i + 1, by simp, by omega, HN2⟩, HME.out⟩
    · have hie : i = ls.length := by omega
      have HE : Hid (∃ f, Ws w wr (w.heap.size + 1) w.heap.size (.slice ao ls.length cap) ls [] [] f ls.length ∧ (∀ a, In f ls.length a ↔ a < ls.length)) := by
        have h := HI.out
        rw [hie] at h
        obtain ⟨pv, wv, f, t, N, D, V, P, dm, h1, h2, h3, h5, h6⟩ := h
        refine ⟨f, ⟨pv, wv, _, _, t, N, D, V, P, dm, h1, fun x => (h2.done x).1, fun x hx => ⟨(h2.done x).2 hx, ?_⟩, h6⟩, h5⟩
        have := h2.len x hx
        have := HLs.out
        omega
      clear HI
      go_wp2_with fail
      go_ret
      exact ⟨rfl, HE.out⟩
end Go.Proofs.Ytjejpjpdfdcnlaa.Qu
namespace Go.Proofs.Ytjejpjpdfdcnlaa.Qu
open Go.RowKit
open Vl (Fr Tm)
open Sy (isTs isLs Bx)
open Ck (TsB Nm)
variable {w w' : World} {qb mb : Nat} {bv : Value} {f f' : Nat → Nat} {n n' : Nat} {O : List Nat} {H : List Nm}

/-- Nobody that waits goes ahead of p. -/
structure Pick (ls : List Sy.Lit) (H : List Nm) (O : List Nat) (p : Nat) : Prop where
  lt : p < ls.length
  un : p ∉ O
  le : ∀ a, a < ls.length → a ∉ O → ltK (kyOf (gOf ls H) a) (kyOf (gOf ls H) p) = false
theorem Pick.one {ls : List Sy.Lit} {H : List Nm} {O : List Nat} {p q : Nat} (h : Pick ls H O p) (k : Pick ls H O q) : p = q := by
  refine Classical.byContradiction fun hne => ?_
  have h1 := h.le q k.lt k.un
  have h2 := k.le p h.lt h.un
  have := ltK_tot (x := kyOf (gOf ls H) q) (y := kyOf (gOf ls H) p) (fun e => hne e.symm) h1
  rw [h2] at this
  cases this
inductive Tr (ls : List Sy.Lit) (O0 : List Nat) (H0 : List Nm) : List Nat → List Nm → Prop
  | refl : Tr ls O0 H0 O0 H0
  | step {O : List Nat} {H : List Nm} {p : Nat} : Tr ls O0 H0 O H → Pick ls H O p → Tr ls O0 H0 (O ++ [p]) (takeH H (litAt ls p))
theorem Tr.len {ls : List Sy.Lit} {O0 : List Nat} {H0 : List Nm} {O : List Nat} {H : List Nm} (h : Tr ls O0 H0 O H) : O0.length ≤ O.length := by
  induction h with
  | refl => exact Nat.le_refl _
  | step _ _ ih => simp; omega
theorem Tr.one {ls : List Sy.Lit} {O0 : List Nat} {H0 : List Nm} {O O' : List Nat} {H H' : List Nm} (h : Tr ls O0 H0 O H) (k : Tr ls O0 H0 O' H') (hl : O.length = O'.length) : O = O' ∧ H = H' := by
  induction h generalizing O' H' with
  | refl =>
    cases k with
    | refl => exact ⟨rfl, rfl⟩
    | step k _ => have := k.len; simp at hl; omega
  | step h hp ih =>
    cases k with
    | refl => have := h.len; simp at hl; omega
    | step k kp =>
      obtain ⟨e1, e2⟩ := ih k (by simpa using hl)
      subst e1; subst e2
      have := hp.one kp
      subst this
      exact ⟨rfl, rfl⟩
/-- How an order begins. -/
def Begins (ls : List Sy.Lit) (first : Int) (O0 : List Nat) (H0 : List Nm) : Prop := (first = -1 → O0 = [] ∧ H0 = []) ∧ (∀ p : Nat, first = (p : Int) → O0 = [p] ∧ H0 = takeH [] (litAt ls p))
theorem Begins.one {ls : List Sy.Lit} {first : Int} {O0 O1 : List Nat} {H0 H1 : List Nm} (h : Begins ls first O0 H0) (k : Begins ls first O1 H1) (hf : -1 ≤ first) : O0 = O1 ∧ H0 = H1 := by
  by_cases e : first = -1
  · rw [(h.1 e).1, (h.1 e).2, (k.1 e).1, (k.1 e).2]
    exact ⟨rfl, rfl⟩
  · obtain ⟨p, hp⟩ : ∃ p : Nat, first = (p : Int) := ⟨first.toNat, by omega⟩
    rw [(h.2 p hp).1, (h.2 p hp).2, (k.2 p hp).1, (k.2 p hp).2]
    exact ⟨rfl, rfl⟩
/-- A plan of a body, or none. -/
def PlanIs (ls : List Sy.Lit) (first : Int) (ok : Bool) (O : List Nat) (H : List Nm) : Prop :=
  (ok = false → O = [] ∧ H = []) ∧ (ok = true → -1 ≤ first ∧ ∃ O0 H0, Begins ls first O0 H0 ∧ Tr ls O0 H0 O H ∧ O.length = ls.length)
theorem PlanIs.one {ls : List Sy.Lit} {first : Int} {ok : Bool} {O O' : List Nat} {H H' : List Nm} (h : PlanIs ls first ok O H) (k : PlanIs ls first ok O' H') : O = O' ∧ H = H' := by
  cases ok with
  | false => rw [(h.1 rfl).1, (h.1 rfl).2, (k.1 rfl).1, (k.1 rfl).2]; exact ⟨rfl, rfl⟩
  | true =>
    obtain ⟨hf, O0, H0, b1, t1, l1⟩ := h.2 rfl
    obtain ⟨_, O1, H1, b2, t2, l2⟩ := k.2 rfl
    obtain ⟨e1, e2⟩ := b1.one b2 hf
    subst e1; subst e2
    exact t1.one t2 (by omega)

def mayB (ls : List Sy.Lit) (first : Int) : Bool := decide (first = -1) || (decide (0 ≤ first) && decide (first < (ls.length : Int)) && decide ((litAt ls first.toNat).1 = 1))
theorem bv_slice {w : World} {ls : List Sy.Lit} {bv : Value} (hL : isLs w ls bv) : ∃ ao cap, bv = .slice ao ls.length cap := by
  obtain ⟨zs, rfl, h2, _⟩ := hL
  obtain ⟨ao, cap, e⟩ := (Sy.own_len h2).2
  exact ⟨ao, cap, by rw [e]; simp⟩
theorem mayBegin_any {w : World} {ls : List Sy.Lit} {bv : Value} (hL : isLs w ls bv) (first : Int) : Calls Try.prog 10 #[bv, .int .i64 first] w fun e w' => e = .returned (.bool (mayB ls first)) ∧ w' = w := by
  obtain ⟨ao, cap, rfl⟩ := bv_slice hL
  obtain ⟨V, HV⟩ : ∃ V, Hid (mayB ls first = V) := ⟨_, rfl⟩
  rw [HV.out]
  by_cases h1 : first = -1
  · subst h1
    have e : V = true := by rw [← HV.out]; rfl
    subst e
    clear hL HV
    go_enter Try.func10, Try.ntmps10
    go_wp2
    go_ret
    exact ⟨rfl, rfl⟩
  · by_cases h2 : 0 ≤ first
    · obtain ⟨p, rfl⟩ : ∃ p : Nat, first = (p : Int) := ⟨first.toNat, by omega⟩
      by_cases h3 : p < ls.length
      · obtain ⟨gb, rfl, hcells⟩ := (Sy.isLs_cells hL).2 (by omega)
        obtain ⟨va, hta, l0, l1, l2⟩ := hcells p h3
        rw [← litAt_get h3] at l0
        have h3I : (p : Int) < (ls.length : Int) := by omega
        have e : V = decide ((litAt ls p).1 = 1) := by
          rw [← HV.out]
          have hm1 : decide ((p : Int) = -1) = false := by simp
          have hm2 : decide ((0 : Int) ≤ (p : Int)) = true := by simp
          have hm3 : decide ((p : Int) < (ls.length : Int)) = true := by simp; omega
          unfold mayB
          rw [hm1, hm2, hm3]
          simp
        generalize (litAt ls p).1 = lk at *
        clear hcells hta l1 l2 hL HV
        subst e
        have gd : decide (p < ls.length) = true := by simp; omega
        have hc : lk = 1 ∨ ¬ lk = 1 := by omega
        have g0 : ((p : Int) == -1) = false := by simp
        rcases hc with rfl | hk
        · go_enter Try.func10, Try.ntmps10
          go_wp2
          go_ret
          exact ⟨rfl, rfl⟩
        · have g1 : (lk == 1) = false := by simpa using hk
          have e1 : decide (lk = 1) = false := by simpa using hk
          rw [e1]
          go_enter Try.func10, Try.ntmps10
          go_wp2
          go_ret
          exact ⟨by simp, rfl⟩
      · have e : V = false := by
          rw [← HV.out]
          unfold mayB
          have : ¬ ((p : Int) < (ls.length : Int)) := by omega
          simp [this]
        subst e
        have g0 : ((p : Int) == -1) = false := by simp
        have gd : decide (p < ls.length) = false := by simp; omega
        clear hL HV
        go_enter Try.func10, Try.ntmps10
        go_wp2
        go_ret
        exact ⟨rfl, rfl⟩
    · have e : V = false := by
        rw [← HV.out]
        simp [mayB, h1, h2]
      subst e
      have g0 : (first == -1) = false := by simpa using h1
      have gd : decide (0 ≤ first) = false := by simp; omega
      clear hL HV
      go_enter Try.func10, Try.ntmps10
      go_wp2
      go_ret
      exact ⟨rfl, rfl⟩

theorem Ws.len_w {w0 : World} {ls : List Sy.Lit} (h : Ws w0 w qb mb bv ls O H f n) : Calls Try.prog 15 #[.pointer (some ⟨qb, 1, none⟩)] w fun e w' => e = .returned (.int .i64 (n : Int)) ∧ w' = w := by
  obtain ⟨pv, wv, ov, vv, t, N, D, V, P, dm, h1, h2, h3, h4⟩ := h
  exact len_q h1.q
theorem Ws.step {w0 w1 : World} {ls : List Sy.Lit} {pv wv pv' ov vv : Value} {t t' : Nat → Int} {N : Nat} {D : DataW Value} {V : Nm → Value} {P : Nm → List Nat} {dm : Nm → Bool} (h1 : Wl w0.heap.size w qb mb bv pv wv ov vv f n (gOf ls H) t ls.length O H N D V P dm) (h2 : ∀ x, dm x = (occB ls x && !Ck.inS H x)) (h3 : ∀ x, dm x = true → (∀ a, (P x).count a = cnt x (litAt ls a).2.2) ∧ (P x).length ≤ 1000) (h4 : Below w0.heap.size w0 w)
    (q1 : Q w1 qb bv pv' wv (.map (some mb)) ov vv f' n' (gOf ls H) t' ls.length) (q2 : Hp.Heap ltK (kf (gOf ls H) f') n') (q4 : Fr (FW pv wv qb) w w1) (q5 : pv'.ownBlock = pv.ownBlock) : Ws w0 w1 qb mb bv ls O H f' n' := by
  obtain ⟨r1, r2⟩ := h1.step q1 q2 q4 (fun k hk => .inl (by rw [← q5]; exact hk)) (Gw.refl _ _)
  exact ⟨pv', wv, ov, vv, t', N, D, V, P, dm, r1, h2, h3, h4.trans r2⟩
theorem Ws.next_w {w0 : World} {ls : List Sy.Lit} (h : Ws w0 w qb mb bv ls O H f (n + 1)) (hin : ∀ a, In f (n + 1) a ↔ a < ls.length ∧ a ∉ O) : Calls Try.prog 16 #[.pointer (some ⟨qb, 1, none⟩)] w fun e w' => ∃ p : Nat, e = .returned (.int .i64 (p : Int)) ∧ Pick ls H O p ∧ ∃ f', Ws w0 w' qb mb bv ls O H f' n ∧ (∀ a, In f' n a ↔ a < ls.length ∧ a ∉ O ++ [p]) := by
  obtain ⟨pv, wv, ov, vv, t, N, D, V, P, dm, h1, h2, h3, h4⟩ := h
  refine (next_q h1.q h1.hp).mono ?_
  rintro e w1 ⟨rfl, pv', f', t', q1, q2, q3, q4, q5⟩
  have h0 := (hin (f 0)).1 ⟨0, by omega, rfl⟩
  refine ⟨f 0, rfl, ⟨h0.1, h0.2, fun a ha ho => ?_⟩, f', Ws.step h1 h2 h3 h4 q1 q2 q4 q5, fun a => ?_⟩
  · obtain ⟨c, hc, rfl⟩ := (hin a).2 ⟨ha, ho⟩
    exact h1.hp.top ltK_ord c hc
  · rw [q3 a, hin a]
    simp
    constructor
    · rintro ⟨⟨a1, a2⟩, a3⟩; exact ⟨a1, a2, a3⟩
    · rintro ⟨a1, a2, a3⟩; exact ⟨⟨a1, a2⟩, a3⟩
theorem Ws.remove_w {w0 : World} {ls : List Sy.Lit} (h : Ws w0 w qb mb bv ls O H f (n + 1)) (hin : ∀ a, In f (n + 1) a ↔ a < ls.length ∧ a ∉ O) {p : Nat} (hp : p < ls.length) (hpO : p ∉ O) : Calls Try.prog 14 #[.pointer (some ⟨qb, 1, none⟩), .int .i64 (p : Int)] w fun e w' => e = .returned (.int .i64 (p : Int)) ∧ ∃ f', Ws w0 w' qb mb bv ls O H f' n ∧ (∀ a, In f' n a ↔ a < ls.length ∧ a ∉ O ++ [p]) := by
  obtain ⟨pv, wv, ov, vv, t, N, D, V, P, dm, h1, h2, h3, h4⟩ := h
  refine (remove_q h1.q h1.hp ((hin p).2 ⟨hp, hpO⟩)).mono ?_
  rintro e w1 ⟨rfl, pv', f', t', q1, q2, q3, q4, q5⟩
  refine ⟨rfl, f', Ws.step h1 h2 h3 h4 q1 q2 q4 q5, fun a => ?_⟩
  rw [q3 a, hin a]
  simp
  constructor
  · rintro ⟨⟨a1, a2⟩, a3⟩; exact ⟨a1, a2, a3⟩
  · rintro ⟨a1, a2, a3⟩; exact ⟨⟨a1, a2⟩, a3⟩
end Go.Proofs.Ytjejpjpdfdcnlaa.Qu
namespace Go.Proofs.Ytjejpjpdfdcnlaa.Qu
open Go.RowKit
open Vl (Fr Tm)
open Sy (isTs isLs isRul Bx Rul OkR)
open Ck (TsB Nm)

theorem takeH_len (H : List Nm) (l : Sy.Lit) (h : l.2.2.length ≤ 4) : (takeH H l).length ≤ H.length + 4 := by
  unfold takeH
  split
  · have := fold_len l.2.2 H; omega
  · omega
/-- Make under way: n literals wait. -/
def Mi (w2 wr : World) (vb : Value) (ls : List Sy.Lit) (first : Int) (n : Nat) : Prop :=
  ∃ O H f, Ws w2 wr (w2.heap.size + 1) w2.heap.size vb ls O H f n ∧ (∃ O0 H0, Begins ls first O0 H0 ∧ Tr ls O0 H0 O H) ∧ n + O.length = ls.length ∧ (∀ a, In f n a ↔ a < ls.length ∧ a ∉ O) ∧ H.length ≤ 4 * O.length
structure Bd (ls : List Sy.Lit) : Prop where
  len : ls.length ≤ 200
  four : ∀ l ∈ ls, l.2.2.length ≤ 4
  sz : ∀ l ∈ ls, ∀ t ∈ l.2.2, t.2.1.size ≤ 1000
theorem Bd.at {ls : List Sy.Lit} (h : Bd ls) (a : Nat) : (litAt ls a).2.2.length ≤ 4 := by
  by_cases ha : a < ls.length
  · rw [litAt_get ha]; exact h.four _ (List.getElem_mem ha)
  · simp [litAt, ha]
theorem Mi.take {w2 w3 : World} {vb : Value} {ls : List Sy.Lit} {first : Int} {n p : Nat} {O : List Nat} {H : List Nm} {f' : Nat → Nat} (hB : Bd ls) (hL : isLs w2 ls vb) (hp : p < ls.length) (hW : Ws w2 w3 (w2.heap.size + 1) w2.heap.size vb ls O H f' n) (hin : ∀ a, In f' n a ↔ a < ls.length ∧ a ∉ O ++ [p]) (hT : ∃ O0 H0, Begins ls first O0 H0 ∧ Tr ls O0 H0 (O ++ [p]) (takeH H (litAt ls p))) (hn : n + 1 + O.length = ls.length) (hH : H.length ≤ 4 * O.length) :
    Calls Try.prog 13 #[.pointer (some ⟨w2.heap.size + 1, 0, none⟩), .int .i64 (p : Int)] w3 fun e w' => e = .returned (.tuple #[]) ∧ Hid (Mi w2 w' vb ls first n) := by
  have hl := hB.len
  refine (take_w hW hL hp hB.at hB.sz (by omega) (by omega)).mono ?_
  rintro e w' ⟨rfl, f2, q1, q2⟩
  refine ⟨rfl, O ++ [p], _, f2, q1, hT, by simp; omega, fun a => ?_, ?_⟩
  · exact ((q2 a).symm).trans (hin a)
  · have := takeH_len H (litAt ls p) (hB.at p)
    simp
    omega
theorem Mi.next {w2 wr : World} {vb : Value} {ls : List Sy.Lit} {first : Int} {n : Nat} (h : Mi w2 wr vb ls first (n + 1)) (hB : Bd ls) (hL : isLs w2 ls vb) :
    Calls Try.prog 16 #[.pointer (some ⟨w2.heap.size + 1, 1, none⟩)] wr fun e w3 => ∃ p : Nat, e = .returned (.int .i64 (p : Int)) ∧ Hid (Calls Try.prog 13 #[.pointer (some ⟨w2.heap.size + 1, 0, none⟩), .int .i64 (p : Int)] w3 fun e w' => e = .returned (.tuple #[]) ∧ Hid (Mi w2 w' vb ls first n)) := by
  obtain ⟨O, H, f, h1, ⟨O0, H0, hb, ht⟩, h3, h4, h5⟩ := h
  refine (h1.next_w h4).mono ?_
  rintro e w3 ⟨p, rfl, hp, f', q1, q2⟩
  exact ⟨p, rfl, Mi.take hB hL hp.lt q1 q2 ⟨O0, H0, hb, ht.step hp⟩ (by omega) h5⟩
def msr (qb : Nat) (w : World) : Nat := match w.cell? ⟨qb, 1, none⟩ with | some (.slice _ n _) => n | _ => 0
theorem Mi.msr {w2 wr : World} {vb : Value} {ls : List Sy.Lit} {first : Int} {n : Nat} (h : Mi w2 wr vb ls first n) : msr (w2.heap.size + 1) wr = n := by
  obtain ⟨O, H, f, ⟨pv, wv, ov, vv, t, N, D, V, P, dm, h1, _⟩, _⟩ := h
  obtain ⟨ao, cap, e⟩ := h1.q.pvs
  unfold Qu.msr
  rw [h1.q.c1, e]
theorem Mi.len {w2 wr : World} {vb : Value} {ls : List Sy.Lit} {first : Int} {n : Nat} (h : Mi w2 wr vb ls first n) : Calls Try.prog 15 #[.pointer (some ⟨w2.heap.size + 1, 1, none⟩)] wr fun e w' => e = .returned (.int .i64 (n : Int)) ∧ w' = wr := by
  obtain ⟨O, H, f, h1, _⟩ := h
  exact h1.len_w
theorem Mi.bel {w2 wr : World} {vb : Value} {ls : List Sy.Lit} {first : Int} {n : Nat} (h : Mi w2 wr vb ls first n) : Below w2.heap.size w2 wr := by
  obtain ⟨O, H, f, h1, _⟩ := h
  exact h1.bel
/-- What Make gives. -/
def Mg (w w' : World) (ls : List Sy.Lit) (first : Int) (ok : Bool) (ov vv : Value) : Prop :=
  ∃ O H, w'.ownsRow 0 3 1 ov O.length (O.map num) ∧ w'.ownsRow 0 9 1 vv H.length (strs H) ∧ PlanIs ls first ok O H ∧ Below w.heap.size w w'
theorem Mi.out {w2 wr : World} {vb : Value} {ls : List Sy.Lit} {first : Int} (h : Mi w2 wr vb ls first 0) (hf : -1 ≤ first) : ∃ ov vv, wr.cell? ⟨w2.heap.size + 1, 4, none⟩ = some ov ∧ wr.cell? ⟨w2.heap.size + 1, 5, none⟩ = some vv ∧ Hid (∃ O H, wr.ownsRow 0 3 1 ov O.length (O.map num) ∧ wr.ownsRow 0 9 1 vv H.length (strs H) ∧ PlanIs ls first true O H) := by
  obtain ⟨O, H, f, ⟨pv, wv, ov, vv, t, N, D, V, P, dm, h1, _⟩, ⟨O0, H0, hb, ht⟩, h3, _⟩ := h
  exact ⟨ov, vv, h1.c.2.2.1, h1.c.2.2.2, O, H, h1.o, h1.v, fun e => (by cases e), fun _ => ⟨hf, O0, H0, hb, ht, by omega⟩⟩
theorem sz34 : (Try.prog.info? 34).map (·.size) = some 2 := by kernel_rfl
theorem Mi.first {w2 w3 : World} {vb : Value} {ls : List Sy.Lit} {p n : Nat} {f : Nat → Nat} (hn : ls.length = n + 1) (hB : Bd ls) (hL : isLs w2 ls vb) (hp : p < ls.length) (hW : Ws w2 w3 (w2.heap.size + 1) w2.heap.size vb ls [] [] f ls.length) (hin : ∀ a, In f ls.length a ↔ a < ls.length) :
    Calls Try.prog 14 #[.pointer (some ⟨w2.heap.size + 1, 1, none⟩), .int .i64 (p : Int)] w3 fun e w4 => e = .returned (.int .i64 (p : Int)) ∧ Hid (Calls Try.prog 13 #[.pointer (some ⟨w2.heap.size + 1, 0, none⟩), .int .i64 (p : Int)] w4 fun e w' => e = .returned (.tuple #[]) ∧ Hid (Mi w2 w' vb ls (p : Int) n)) := by
  rw [hn] at hW hin
  refine (hW.remove_w (fun a => by rw [hin a, hn]; simp) hp (by simp)).mono ?_
  rintro e w4 ⟨rfl, f', q1, q2⟩
  refine ⟨rfl, Mi.take hB hL hp q1 q2 ⟨[p], _, ⟨fun e => by omega, fun p' hp' => ?_⟩, .refl⟩ (by simp; omega) (by simp)⟩
  have : p' = p := by omega
  subst this
  exact ⟨rfl, rfl⟩

theorem OkR.bd {q : Rul} (h : OkR q) : Bd q.2 := ⟨by have := h.few; omega, fun l hl => (h.body l hl).few, fun l hl t ht => by have := ((h.body l hl).terms t ht).2; omega⟩

set_option maxHeartbeats 8000000 in
theorem make_any {w : World} {q : Rul} {y : Value} (h : isRul w q y) (hq : OkR q) (first : Int) :
    Calls Try.prog 6 #[y, .int .i64 first] w fun e w' => ∃ ov vv, e = .returned (.tuple #[.agg #[ov, vv], .bool (mayB q.2 first && Ck.safeR q)]) ∧ Mg w w' q.2 first (mayB q.2 first && Ck.safeR q) ov vv := by
  have hbd := OkR.bd hq
  have hR := h
  obtain ⟨⟨hk, hnm, ht⟩, ls⟩ := q
  obtain ⟨va, vb, rfl, hva, hvb⟩ := h
  dsimp only at hva hvb hbd ⊢
  obtain ⟨ao, cap, hbv⟩ := bv_slice hvb
  subst hbv
  obtain ⟨vb, Hvb⟩ : ∃ vb, Hid (vb = Value.slice ao ls.length cap) := ⟨_, rfl⟩
  rw [← Hvb.out] at hvb hR ⊢
  obtain ⟨W1, hW1⟩ : ∃ W1, W1 = (w.alloc (.cells #[.int .i64 hk, .string hnm, va, vb] 30)).alloc (.cells #[.slice none 0 0, .slice none 0 0] 34) := ⟨_, rfl⟩
  have hb1 : Below w.heap.size w W1 := by rw [hW1]; exact ((Below.refl _ w).alloc (Nat.le_refl _) _).alloc (by simp) _
  have hx0 : Bx W1 w.heap.size 30 #[.int .i64 hk, .string hnm, va, vb] := by
    rw [hW1]
    exact (Bx.new w #[.int .i64 hk, .string hnm, va, vb] 30).below ((Below.refl _ _).alloc (Nat.le_refl _) _)
  have hx1 : Bx W1 (w.heap.size + 1) 34 #[.slice none 0 0, .slice none 0 0] := by
    have := Bx.new (w.alloc (.cells #[.int .i64 hk, .string hnm, va, vb] 30)) #[.slice none 0 0, .slice none 0 0] 34
    rw [World.size_alloc] at this
    rw [hW1]
    exact this
  have c0 := hx0.c 0
  have c1 := hx0.c 1
  have c2 := hx0.c 2
  have c3 := hx0.c 3
  have HMB := hide (mayBegin_any (Sy.isLs_below hvb hb1) first)
  have HSF : Hid (Calls Try.prog 11 #[.agg #[.int .i64 hk, .string hnm, va, vb]] W1 fun e w' => e = .returned (.bool (Ck.safeR ((hk, hnm, ht), ls))) ∧ Below W1.heap.size W1 w') := Ck.safe_any (Ck.isRul_bel hR hb1) (Ck.okR_few hq)
  obtain ⟨b1, Hb1⟩ : ∃ b, Hid (mayB ls first = b) := ⟨_, rfl⟩
  obtain ⟨b2, Hb2⟩ : ∃ b, Hid (Ck.safeR ((hk, hnm, ht), ls) = b) := ⟨_, rfl⟩
  rw [Hb1.out] at HMB
  rw [Hb2.out] at HSF
  rw [Hb1.out, Hb2.out]
  have HW1 := hide hW1
  have HB1 := hide hb1
  have HX0 := hide hx0
  have HX1 := hide hx1
  have HV := hide hvb
  have HBD := hide hbd
  have HNO : Hid (∀ W, Below W1.heap.size W1 W → Mg w ((W.setCell ⟨w.heap.size + 1, 0, none⟩ (.slice none 0 0)).setCell ⟨w.heap.size + 1, 1, none⟩ (.slice none 0 0)) ls first false (.slice none 0 0) (.slice none 0 0) ∧ Bx ((W.setCell ⟨w.heap.size + 1, 0, none⟩ (.slice none 0 0)).setCell ⟨w.heap.size + 1, 1, none⟩ (.slice none 0 0)) (w.heap.size + 1) 34 #[.slice none 0 0, .slice none 0 0]) := fun W hbW => by
    have hB : Below w.heap.size w W := hb1.trans (hbW.mono hb1.size)
    refine ⟨⟨[], [], ⟨by simp, .inl ⟨rfl, rfl⟩⟩, ⟨by simp [strs], .inl ⟨rfl, rfl⟩⟩, ⟨fun _ => ⟨rfl, rfl⟩, fun e => by cases e⟩, hB.trans ?_⟩, ((hx1.below hbW).set 0 _).set 1 _⟩
    exact (((Fr.refl (fun k => k = w.heap.size + 1) W).setCell (p := ⟨w.heap.size + 1, 0, none⟩) (fun _ => rfl) _).setCell (p := ⟨w.heap.size + 1, 1, none⟩) (fun _ => rfl) _).below (fun k e => by omega) hB.size
  clear hW1 hb1 hva hvb hR hq hx0 hx1 hbd
  go_enter Try.func6, Try.ntmps6
  go_upto_region 1 with fail
  rw [← HW1.out]
  cases b1 with
  | false =>
    have z0 := HX1.out.c 0
    have z1 := HX1.out.c 1
    have y0 := HX1.out.f 0
    have y1 := HX1.out.f 1
    have HE := hide (HNO.out W1 (Below.refl _ _))
    go_wp2_with fail
    refine HMB.out.mono ?_
    rintro e w1 ⟨rfl, hw⟩
    have hw' := hw.symm
    subst hw'
    clear hw HMB
    go_wp2_with fail
    refine bodyPost_ret (Sy.ret_cell rfl _ _ (w.heap.size + 1) 34 #[.slice none 0 0, .slice none 0 0] rfl HE.out.2 Try.underlying34 sz34) rfl ?_
    exact ⟨_, _, rfl, HE.out.1⟩
  | true =>
    go_wp2_with fail
    refine HMB.out.mono ?_
    rintro e w1 ⟨rfl, hw⟩
    have hw' := hw.symm
    subst hw'
    clear hw HMB
    go_wp2_with fail
    refine HSF.out.mono ?_
    rintro e w2 ⟨rfl, hb2⟩
    have HX2 := hide (HX1.out.below hb2)
    have HX3 := hide (HX0.out.below hb2)
    have HB2 := hide hb2
    clear hb2 HSF c0 c1 c2 c3
    cases b2 with
    | false =>
      have z0 := HX2.out.c 0
      have z1 := HX2.out.c 1
      have y0 := HX2.out.f 0
      have y1 := HX2.out.f 1
      have HE := hide (HNO.out w2 HB2.out)
      go_wp2_with fail
      refine bodyPost_ret (Sy.ret_cell rfl _ _ (w.heap.size + 1) 34 #[.slice none 0 0, .slice none 0 0] rfl HE.out.2 Try.underlying34 sz34) rfl ?_
      exact ⟨_, _, rfl, HE.out.1⟩
    | true =>
      have c3 := HX3.out.c 3
      have HL2 := hide (Sy.isLs_below HV.out (HB1.out.trans (HB2.out.mono HB1.out.size)))
      have HST := hide (start_any HL2.out HBD.out.len HBD.out.four HBD.out.sz)
      have HM0 : Hid (∀ w3 f, first = -1 → Ws w2 w3 (w2.heap.size + 1) w2.heap.size vb ls [] [] f ls.length → (∀ a, In f ls.length a ↔ a < ls.length) → Mi w2 w3 vb ls first ls.length) := fun w3 f hf hW hin =>
        ⟨[], [], f, hW, ⟨[], [], ⟨fun _ => ⟨rfl, rfl⟩, fun p hp => by omega⟩, .refl⟩, by simp, fun a => by rw [hin a]; simp, by simp⟩
      have HM1 : Hid (∀ w3 f, ¬ first = -1 → Ws w2 w3 (w2.heap.size + 1) w2.heap.size vb ls [] [] f ls.length → (∀ a, In f ls.length a ↔ a < ls.length) → Calls Try.prog 14 #[.pointer (some ⟨w2.heap.size + 1, 1, none⟩), .int .i64 first] w3 fun e w4 => e = .returned (.int .i64 first) ∧ Hid (Calls Try.prog 13 #[.pointer (some ⟨w2.heap.size + 1, 0, none⟩), .int .i64 first] w4 fun e w' => e = .returned (.tuple #[]) ∧ Hid (Mi w2 w' vb ls first (ls.length - 1)))) := fun w3 f hf hW hin => by
        have hm := Hb1.out
        unfold mayB at hm
        simp [hf] at hm
        obtain ⟨p, rfl⟩ : ∃ p : Nat, first = (p : Int) := ⟨first.toNat, by omega⟩
        exact Mi.first (by omega) HBD.out HL2.out (by omega) hW hin
      have hfI : Hid (-1 ≤ first) := by
        have hm := Hb1.out
        unfold mayB at hm
        show _ ≤ _
        by_cases hf : first = -1
        · omega
        · simp [hf] at hm
          omega
      go_wp2_with fail
      refine HST.out.mono ?_
      rintro e w3 ⟨rfl, f, hW, hin⟩
      have HW3 := hide (And.intro hW hin)
      clear hW hin HST c3
      go_upto_if 22 with fail
      go_cut [] from 22 to 29 (fun wc => ∃ n, Hid (Mi w2 wc vb ls first n))
      case first =>
        by_cases hf : first = -1
        · have HE := hide (HM0.out w3 f hf HW3.out.1 HW3.out.2)
          have g1 : (first != -1) = false := by simp [hf]
          go_wp2_with fail
          go_meet
          exact ⟨_, HE⟩
        · have HE := hide (HM1.out w3 f hf HW3.out.1 HW3.out.2)
          have g1 : (first != -1) = true := by simpa using hf
          go_wp2_with fail
          refine HE.out.mono ?_
          rintro e w4 ⟨rfl, HE2⟩
          go_wp2_with fail
          refine HE2.out.mono ?_
          rintro e w5 ⟨rfl, HE3⟩
          go_wp2_with fail
          go_meet
          exact ⟨_, HE3⟩
      case rest =>
        obtain ⟨n0, HI0⟩ := hcut
        clear HM0 HM1 HW3
        go_wp2_with fail
        go_loopw [] (fun wr => ∃ n, Hid (Mi w2 wr vb ls first n)) (fun wr => msr (w2.heap.size + 1) wr)
        case atStart => exact ⟨n0, HI0⟩
        case round =>
          obtain ⟨n, HI⟩ := hrel
          clear HI0
          have HLN := hide HI.out.len
          cases n with
          | succ n =>
            have hn0 : (0 : Int) < ((n + 1 : Nat) : Int) := by omega
            obtain ⟨M, HM⟩ : ∃ M, Hid (M = n + 1) := ⟨_, rfl⟩
            have HNX := hide (HI.out.next HBD.out HL2.out)
            rw [← HM.out] at hn0
            have HLN2 : Hid (Calls Try.prog 15 #[.pointer (some ⟨w2.heap.size + 1, 1, none⟩)] wr fun e w' => e = .returned (.int .i64 (M : Int)) ∧ w' = wr) := by
              rw [HM.out]
              exact HLN.out
            have HMS : Hid (∀ w', Mi w2 w' vb ls first n → msr (w2.heap.size + 1) w' < msr (w2.heap.size + 1) wr) := fun w' hw' => by
              rw [hw'.msr, HI.out.msr]
              omega
            clear HLN HI
            go_wp2_with fail
            refine HLN2.out.mono ?_
            rintro e w4 ⟨rfl, hw⟩
            have hw' := hw.symm
            subst hw'
            clear hw HLN2
            go_wp2_with fail
            refine HNX.out.mono ?_
            rintro e w5 ⟨p, rfl, HT⟩
            clear HNX
            go_wp2_with fail
            refine HT.out.mono ?_
            rintro e w6 ⟨rfl, H6⟩
            clear HT
            go_wp2_with fail
            exact ⟨⟨n, H6⟩, HMS.out _ H6.out⟩
          | zero =>
            obtain ⟨ov, vv, o4, o5, HO⟩ := HI.out.out hfI.out
            obtain ⟨a1, n1, c1, rfl⟩ : ∃ a1 n1 c1, ov = .slice a1 n1 c1 := by
              obtain ⟨O, H, r1, r2, r3⟩ := HO.out
              obtain ⟨a1, c1, e⟩ := (Sy.own_len r1).2
              exact ⟨a1, _, c1, e⟩
            obtain ⟨a2, n2, c2, rfl⟩ : ∃ a2 n2 c2, vv = .slice a2 n2 c2 := by
              obtain ⟨O, H, r1, r2, r3⟩ := HO.out
              obtain ⟨a1, c1, e⟩ := (Sy.own_len r2).2
              exact ⟨a1, _, c1, e⟩
            have HBX := hide (HX2.out.below HI.out.bel)
            have HBB := hide (HB1.out.trans ((HB2.out.trans (HI.out.bel.mono HB2.out.size)).mono HB1.out.size))
            have z0 := HBX.out.c 0
            have z1 := HBX.out.c 1
            have y0 := HBX.out.f 0
            have y1 := HBX.out.f 1
            have HEX : Hid (Mg w ((wr.setCell ⟨w.heap.size + 1, 0, none⟩ (.slice a1 n1 c1)).setCell ⟨w.heap.size + 1, 1, none⟩ (.slice a2 n2 c2)) ls first true (.slice a1 n1 c1) (.slice a2 n2 c2) ∧ Bx ((wr.setCell ⟨w.heap.size + 1, 0, none⟩ (.slice a1 n1 c1)).setCell ⟨w.heap.size + 1, 1, none⟩ (.slice a2 n2 c2)) (w.heap.size + 1) 34 #[.slice a1 n1 c1, .slice a2 n2 c2]) := by
              obtain ⟨O, H, r1, r2, r3⟩ := HO.out
              have hfr : Fr (fun k => k = w.heap.size + 1) wr ((wr.setCell ⟨w.heap.size + 1, 0, none⟩ (.slice a1 n1 c1)).setCell ⟨w.heap.size + 1, 1, none⟩ (.slice a2 n2 c2)) := ((Fr.refl (fun k => k = w.heap.size + 1) wr).setCell (p := ⟨w.heap.size + 1, 0, none⟩) (fun _ => rfl) _).setCell (p := ⟨w.heap.size + 1, 1, none⟩) (fun _ => rfl) _
              refine ⟨⟨O, H, own_of_cell r1 hfr (fun k hk => by rw [hk]; exact own_ty r1 HBX.out (by decide)), own_of_cell r2 hfr (fun k hk => by rw [hk]; exact own_ty r2 HBX.out (by decide)), r3, HBB.out.trans (hfr.below (fun k e => by omega) HBB.out.size)⟩, (HBX.out.set 0 _).set 1 _⟩
            clear HI HO
            go_wp2_with fail
            refine HLN.out.mono ?_
            rintro e w4 ⟨rfl, hw⟩
            have hw' := hw.symm
            subst hw'
            clear hw HLN
            go_wp2_with fail
            refine bodyPost_ret (Sy.ret_cell rfl _ _ (w.heap.size + 1) 34 #[.slice a1 n1 c1, .slice a2 n2 c2] rfl HEX.out.2 Try.underlying34 sz34) rfl ?_
            exact ⟨_, _, rfl, HEX.out.1⟩
end Go.Proofs.Ytjejpjpdfdcnlaa.Qu
namespace Go.Proofs.Ytjejpjpdfdcnlaa.Qu
open Go.RowKit
open Vl (Fr Tm)
open Sy (isTs isLs isRul isRs Bx Rul OkR)
open Ck (TsB Nm begQ begT12)
open Lx (tx)

def begX : Nm := ⟨tx [88], by decide⟩
def begY : Nm := ⟨tx [89], by decide⟩
theorem p1 : Pick begQ.2 [] [] 1 := ⟨by decide, by decide, fun a ha ho => by
  match a, ha with
  | 0, _ => decide
  | 1, _ => decide
  | 2, _ => decide⟩
theorem p2 : Pick begQ.2 [begX] [1] 2 := ⟨by decide, by decide, fun a ha ho => by
  match a, ha with
  | 0, _ => decide
  | 1, _ => exact absurd (by simp) ho
  | 2, _ => decide⟩
theorem p0 : Pick begQ.2 [begX, begY] [1, 2] 0 := ⟨by decide, by decide, fun a ha ho => by
  match a, ha with
  | 0, _ => decide
  | 1, _ => exact absurd (by simp) ho
  | 2, _ => exact absurd (by simp) ho⟩
theorem beg_tr : Tr begQ.2 [] [] [1, 2, 0] [begX, begY] := by
  have h1 : Tr begQ.2 [] [] [1] [begX] := Tr.step (p := 1) .refl p1
  have h2 : Tr begQ.2 [] [] [1, 2] [begX, begY] := Tr.step (p := 2) h1 p2
  exact Tr.step (p := 0) h2 p0
theorem beg_plan : PlanIs begQ.2 (-1) true [1, 2, 0] [begX, begY] := ⟨(fun e => by cases e), fun _ => ⟨by decide, [], [], ⟨fun _ => ⟨rfl, rfl⟩, fun p hp => by omega⟩, beg_tr, rfl⟩⟩
theorem beg_safe : (mayB begQ.2 (-1) && Ck.safeR begQ) = true := by decide

theorem Mg.shape {w w' : World} {ls : List Sy.Lit} {first : Int} {ok : Bool} {ov vv : Value} (h : Mg w w' ls first ok ov vv) : (∃ a n c, ov = .slice a n c) ∧ ∃ a n c, vv = .slice a n c := by
  obtain ⟨O, H, h1, h2, _⟩ := h
  obtain ⟨a, c, e⟩ := (Sy.own_len h1).2
  obtain ⟨a', c', e'⟩ := (Sy.own_len h2).2
  exact ⟨⟨a, _, c, e⟩, a', _, c', e'⟩
set_option maxRecDepth 4000 in
set_option maxHeartbeats 4000000 in
theorem begun_any (w : World) : Calls Try.prog 4 #[] w fun e w' => e = .returned (.bool true) ∧ Below w.heap.size w w' := by
  have HR := hide (Ck.rules_any begT12 w)
  rw [Ck.beg_rules12] at HR
  have hok : OkR begQ := (Ck.read_ok begT12).2 begQ (by rw [Ck.beg_rules12]; simp)
  have HOK := hide hok
  clear hok
  go_enter Try.func4, Try.ntmps4
  go_wp2_with fail
  refine HR.out.mono ?_
  rintro e w1 ⟨⟨y, rfl, hy⟩, hb1⟩
  obtain ⟨ao, cap, rfl⟩ := Rp.isRs_shape hy
  obtain ⟨g, rfl, hc⟩ := (Rp.isRs_cells hy).2 (by simp)
  obtain ⟨va, vb, hta, hlb, q0, q1, q2, q3⟩ := hc 0 (by simp)
  have hrul : isRul w1 begQ (.agg #[.int .i64 begQ.1.1, .string begQ.1.2.1, va, vb]) := ⟨va, vb, rfl, hta, hlb⟩
  have HMK := hide (make_any hrul HOK.out (-1))
  rw [beg_safe] at HMK
  have k0 : w1.cell? ⟨g, 0, none⟩ = some (.int .i64 begQ.1.1) := q0
  have k1 : w1.cell? ⟨g, 1, none⟩ = some (.string begQ.1.2.1) := q1
  have k2 : w1.cell? ⟨g, 2, none⟩ = some va := q2
  have k3 : w1.cell? ⟨g, 3, none⟩ = some vb := q3
  have HB1 := hide hb1
  clear hc hta hlb hrul hy hb1 HR q0 q1 q2 q3
  generalize begQ.1.1 = lk at *
  generalize begQ.1.2.1 = ln at *
  go_wp2_with fail
  refine HMK.out.mono ?_
  rintro e w2 ⟨ov, vv, rfl, hM⟩
  obtain ⟨⟨a1, n1, c1, rfl⟩, a2, n2, c2, rfl⟩ := hM.shape
  obtain ⟨O, H, hO, hH, hP, hb2⟩ := hM
  obtain ⟨rfl, rfl⟩ := hP.one beg_plan
  have e1 : n1 = 3 := by have := (Sy.own_len hO).1; exact this
  have e2 : n2 = 2 := by have := (Sy.own_len hH).1; exact this
  subst e1; subst e2
  obtain ⟨g1, cc, e, _, _, hc1, _⟩ := own_open hO (by decide)
  simp only [Value.slice.injEq] at e
  obtain ⟨rfl, _, rfl⟩ := e
  obtain ⟨g2, cc, e, _, _, hc2, _⟩ := own_open hH (by decide)
  simp only [Value.slice.injEq] at e
  obtain ⟨rfl, _, rfl⟩ := e
  have o0 : w2.cell? ⟨g1, 0, none⟩ = some (.int .i64 1) := hc1 0 (by decide)
  have o1 : w2.cell? ⟨g1, 1, none⟩ = some (.int .i64 2) := hc1 1 (by decide)
  have o2 : w2.cell? ⟨g1, 2, none⟩ = some (.int .i64 0) := hc1 2 (by decide)
  have v1 : w2.cell? ⟨g2, 1, none⟩ = some (.string ⟨#[89]⟩) := hc2 1 (by decide)
  have HB2 := hide (HB1.out.trans (hb2.mono HB1.out.size))
  clear hc1 hc2 hO hH hP hb2 HMK k0 k1 k2 k3 HB1
  obtain ⟨U, hU⟩ : ∃ U, U = w2.alloc (.cells #[.slice (some ⟨g1, 0, none⟩) 3 c1, .slice (some ⟨g2, 0, none⟩) 2 c2] 34) := ⟨_, rfl⟩
  have hbU : Below w2.heap.size w2 U := by rw [hU]; exact (Below.refl _ w2).alloc (Nat.le_refl _) _
  have hnU : U.heap[w2.heap.size]? = some (.cells #[.slice (some ⟨g1, 0, none⟩) 3 c1, .slice (some ⟨g2, 0, none⟩) 2 c2] 34 (0, 0)) := by rw [hU]; exact heap_alloc_new _ _
  have z0 : U.cell? ⟨w2.heap.size, 0, none⟩ = some (.slice (some ⟨g1, 0, none⟩) 3 c1) := by rw [cell_of_row _ _ 0 _ _ _ hnU]; rfl
  have z1 : U.cell? ⟨w2.heap.size, 1, none⟩ = some (.slice (some ⟨g2, 0, none⟩) 2 c2) := by rw [cell_of_row _ _ 1 _ _ _ hnU]; rfl
  have o0 := cell_bel o0 hbU
  have o1 := cell_bel o1 hbU
  have o2 := cell_bel o2 hbU
  have v1 := cell_bel v1 hbU
  have HBU := hide (HB2.out.trans (hbU.mono HB2.out.size))
  have eU := hide hU
  clear hU hbU hnU
  go_upto_region 3 with fail
  rw [← eU.out]
  clear HB2 eU
  go_wp2_with fail
  go_ret
  exact ⟨rfl, HBU.out⟩
end Go.Proofs.Ytjejpjpdfdcnlaa.Qu
namespace Go.Proofs.Ytjejpjpdfdcnlaa.Qu
open Go.RowKit
open Vl (Fr Tm)
open Sy (isTs isLs isRul Bx Rul OkR)
open Ck (TsB Nm)

def hasS (H : List Nm) (s : ByteArray) : Bool := H.any fun y => y.1.data.toList == s.data.toList
def Hav (w : World) (v : Value) (H : List Nm) : Prop := w.ownsRow 0 9 1 v H.length (strs H)
theorem Hav.below {w w' : World} {v : Value} {H : List Nm} (h : Hav w v H) (hb : Below w.heap.size w w') : Hav w' v H := Lx.own_below h hb

set_option maxHeartbeats 2000000 in
theorem place_any {w : World} {v : Value} {H : List Nm} (h : Hav w v H) (hl : H.length ≤ 100000) (s : ByteArray) :
    Calls Try.prog 35 #[v, .string s] w fun e w' => ∃ i : Int, e = .returned (.int .i64 i) ∧ (hasS H s = true → 0 ≤ i) ∧ (hasS H s = false → i < 0) ∧ w' = w := by
  obtain ⟨ao, cap, rfl⟩ := (Sy.own_len h).2
  have HH := hide h
  have hlI : (H.length : Int) ≤ 100000 := by omega
  clear h
  go_enter Try.func35, Try.ntmps35
  go_wp2_with fail
  go_loopw [5] (fun iv wr => ∃ i : Nat, iv = .int .i64 (i : Int) ∧ i ≤ H.length ∧ Hid ((H.take i).any (fun y => y.1.data.toList == s.data.toList) = false) ∧ wr = w) (fun iv _ => H.length - (intOf iv).toNat)
  case atStart => exact ⟨0, rfl, Nat.zero_le _, by show _ = _; simp, rfl⟩
  case round =>
    obtain ⟨i, rfl, hi, HI, hwr⟩ := hrel
    have hwr' := hwr.symm
    subst hwr'
    clear hwr
    by_cases hlt : i < H.length
    · have hltI : (i : Int) < (H.length : Int) := by omega
      obtain ⟨g, c, e, _, _, hc, _⟩ := own_open HH.out (by omega)
      simp only [Value.slice.injEq] at e
      obtain ⟨rfl, _, rfl⟩ := e
      have hx := hc i (by omega)
      have hx' : w.cell? ⟨g, i, none⟩ = some (.string H[i].1) := by
        rw [hx]
        simp [strs, hlt]
      have HA : Hid ((H.take (i + 1)).any (fun y => y.1.data.toList == s.data.toList) = (H[i].1.data.toList == s.data.toList)) := by
        show _ = _
        rw [Ck.any_take hlt, HI.out, Bool.false_or]
      have HT : Hid ((H[i].1.data.toList == s.data.toList) = true → hasS H s = true) := fun e => List.any_eq_true.2 ⟨_, List.getElem_mem hlt, e⟩
      clear hc hx
      generalize H[i].1 = nm at *
      obtain ⟨b, Hb⟩ : ∃ b, Hid ((nm.data.toList == s.data.toList) = b) := ⟨_, rfl⟩
      have hb : (nm.toList == s.toList) = b := by rw [← Hb.out, Ck.toL, Ck.toL]
      cases b with
      | true =>
        have HE : Hid (hasS H s = true) := HT.out Hb.out
        go_wp2_with fail
        go_ret
        exact ⟨_, rfl, (fun _ => by omega), (fun e => by rw [HE.out] at e; cases e), rfl⟩
      | false =>
        have HE : Hid ((H.take (i + 1)).any (fun y => y.1.data.toList == s.data.toList) = false) := by
          show _ = _
          rw [HA.out]; exact Hb.out
        go_wp2_with fail
        refine ⟨⟨i + 1, by simp, by omega, HE, trivial⟩, ?_⟩
        show H.length - (intOf (.int .i64 ((i : Int) + 1))).toNat < H.length - (intOf (.int .i64 (i : Int))).toNat
        simp [intOf]
        omega
    · have hie : i = H.length := by omega
      subst hie
      have HE : Hid (hasS H s = false) := by
        have := HI.out
        rw [List.take_length] at this
        exact this
      clear HI HH
      go_wp2_with fail
      go_ret
      exact ⟨_, rfl, (fun e => by rw [HE.out] at e; cases e), (fun _ => by omega), rfl⟩

def bnR (H : List Nm) (t : Tm) : Bool := !decide (t.1 = 1) || hasS H t.2.1
set_option maxHeartbeats 4000000 in
theorem bound_any {w : World} {lk : Int} {ln : ByteArray} {ts : List Tm} {va v : Value} {H : List Nm} (h : isTs w ts va) (hts : ts.length ≤ 1000) (hH : Hav w v H) (hl : H.length ≤ 100000) :
    Calls Try.prog 19 #[.agg #[.int .i64 lk, .string ln, va], v] w fun e w' => e = .returned (.int .i64 (ts.countP (bnR H) : Nat)) ∧ Below w.heap.size w w' := by
  obtain ⟨aot, capt, rfl, _, hct⟩ := TsB.of h (by omega)
  obtain ⟨W1, hW1⟩ : ∃ W1, W1 = w.alloc (.cells #[.int .i64 lk, .string ln, .slice aot ts.length capt] 27) := ⟨_, rfl⟩
  have hb1 : Below w.heap.size w W1 := by rw [hW1]; exact (Below.refl _ w).alloc (Nat.le_refl _) _
  have c2 : W1.cell? ⟨w.heap.size, 2, none⟩ = some (.slice aot ts.length capt) := by rw [hW1, cell_of_row _ _ 2 _ _ _ (heap_alloc_new _ _)]; rfl
  have HCT := hide hct
  have HB := hide hb1
  have HHV := hide (hH.below hb1)
  have HW1 := hide hW1
  have hlI : (ts.length : Int) ≤ 1000 := by omega
  obtain ⟨C, HC⟩ : ∃ C : Nat, Hid (C = ts.countP (bnR H)) := ⟨_, rfl⟩
  rw [← HC.out]
  clear hct hb1 hH h hW1
  go_enter Try.func19, Try.ntmps19
  go_upto_region 1 with fail
  rw [← HW1.out]
  go_wp2_with fail
  go_loopw [5, 6] (fun nv iv wr => ∃ i c : Nat, nv = .int .i64 (c : Int) ∧ iv = .int .i64 (i : Int) ∧ i ≤ ts.length ∧ c ≤ i ∧ Hid (c = (ts.take i).countP (bnR H)) ∧ wr = W1) (fun _ iv _ => ts.length - (intOf iv).toNat)
  case atStart => exact ⟨0, 0, rfl, rfl, Nat.zero_le _, Nat.le_refl _, rfl, rfl⟩
  case round =>
    obtain ⟨i, c, rfl, rfl, hi, hci, HI, hwr⟩ := hrel
    have hwr' := hwr.symm
    subst hwr'
    clear hwr
    by_cases hlt : i < ts.length
    · have hltI : (i : Int) < (ts.length : Int) := by omega
      obtain ⟨gt, off, rfl, hgt, hc⟩ := HCT.out (by omega)
      obtain ⟨t0, t1, t2⟩ := hc i hlt
      have t0 := (HB.out.cell (p := ⟨gt, _, none⟩) hgt).trans t0
      have t1 := (HB.out.cell (p := ⟨gt, _, none⟩) hgt).trans t1
      have HCK := hide (count_take (p := bnR H) hlt)
      have HME : Hid (ts.length - (intOf (.int .i64 ((i : Int) + 1))).toNat < ts.length - (intOf (.int .i64 (i : Int))).toNat) := by
        show _ < _
        simp [intOf]
        omega
      clear hc t2
      generalize ts[i] = u at *
      obtain ⟨tk, tn, tz⟩ := u
      dsimp only at t0 t1
      have hcI : (c : Int) ≤ 1000 := by omega
      by_cases k1 : tk = 1
      · subst k1
        obtain ⟨b, Hb⟩ : ∃ b, Hid (hasS H tn = b) := ⟨_, rfl⟩
        have HP := hide (place_any HHV.out hl tn)
        cases b with
        | true =>
          have HN : Hid (c + 1 = (ts.take (i + 1)).countP (bnR H)) := by
            show _ = _
            rw [HCK.out, ← HI.out, if_pos (by simp [bnR, Hb.out])]
          go_wp2_with fail
          refine HP.out.mono ?_
          rintro e w2 ⟨j, rfl, j1, _, hw⟩
          have hw' := hw.symm
          subst hw'
          have hj := j1 Hb.out
          clear hw HP j1
          go_wp2_with fail
          exact ⟨⟨i + 1, c + 1, by simp, by simp, by omega, by omega, HN, trivial⟩, HME.out⟩
        | false =>
          have HN : Hid (c = (ts.take (i + 1)).countP (bnR H)) := by
            show _ = _
            rw [HCK.out, ← HI.out, if_neg (by simp [bnR, Hb.out])]
            rfl
          go_wp2_with fail
          refine HP.out.mono ?_
          rintro e w2 ⟨j, rfl, _, j1, hw⟩
          have hw' := hw.symm
          subst hw'
          have hj := j1 Hb.out
          have hj' : ¬ (0 ≤ j) := by omega
          clear hw HP j1
          go_wp2_with fail
          exact ⟨⟨i + 1, c, rfl, by simp, by omega, by omega, HN, trivial⟩, HME.out⟩
      · have g1 : (tk != 1) = true := by simpa using k1
        have HN : Hid (c + 1 = (ts.take (i + 1)).countP (bnR H)) := by
          show _ = _
          rw [HCK.out, ← HI.out, if_pos (by simp [bnR, k1])]
        go_wp2_with fail
        exact ⟨⟨i + 1, c + 1, by simp, by simp, by omega, by omega, HN, trivial⟩, HME.out⟩
    · have hie : i = ts.length := by omega
      subst hie
      have e : c = C := by
        have := HI.out
        rw [List.take_length] at this
        rw [this, HC.out]
      subst e
      clear HI HC
      go_wp2_with fail
      go_ret
      exact ⟨rfl, HB.out⟩
end Go.Proofs.Ytjejpjpdfdcnlaa.Qu
