/- redo, of a keep of nothing. load and Open, of a log without records. load and Open, of a log of one call. Save, where nothing was written yet. copyOf of numbers; copySnap. -/
import Derived.Test.YtjndgekpdmlbiaaGreatDoorPart20
import Derived.Test.YtjndgekpdmlbiaaGreatDoorPart14
import Derived.Laws.ResultCell
import Derived.Deep.RegionWith
namespace Go.Proofs.YtjndgekpdmlbiaaGreatDoor.Kp
open Go.RowKit Bn

theorem KwB.now {w : World} {kb p : Nat} {c0 c1 c2 c3 c4 c5 c6 : Value} {z : Int} (h : KwB w kb p c0 c1 c2 c3 c4 c5 c6 z) (a b c d e f g : Value) :
    KwB (((((((w.setCell ⟨kb, 0, none⟩ a).setCell ⟨kb, 1, none⟩ b).setCell ⟨kb, 2, none⟩ c).setCell ⟨kb, 3, none⟩ d).setCell ⟨kb, 4, none⟩ e).setCell ⟨kb, 5, none⟩ f).setCell ⟨kb, 6, none⟩ g) kb p a b c d e f g z := by
  have k0 : KwB (w.setCell ⟨kb, 0, none⟩ a) kb p a c1 c2 c3 c4 c5 c6 z := heap_setCell_same w kb 0 _ 80 a h
  have k1 : KwB ((w.setCell ⟨kb, 0, none⟩ a).setCell ⟨kb, 1, none⟩ b) kb p a b c2 c3 c4 c5 c6 z := heap_setCell_same _ kb 1 _ 80 b k0
  have k2 : KwB (((w.setCell ⟨kb, 0, none⟩ a).setCell ⟨kb, 1, none⟩ b).setCell ⟨kb, 2, none⟩ c) kb p a b c c3 c4 c5 c6 z := heap_setCell_same _ kb 2 _ 80 c k1
  have k3 : KwB ((((w.setCell ⟨kb, 0, none⟩ a).setCell ⟨kb, 1, none⟩ b).setCell ⟨kb, 2, none⟩ c).setCell ⟨kb, 3, none⟩ d) kb p a b c d c4 c5 c6 z := heap_setCell_same _ kb 3 _ 80 d k2
  have k4 : KwB (((((w.setCell ⟨kb, 0, none⟩ a).setCell ⟨kb, 1, none⟩ b).setCell ⟨kb, 2, none⟩ c).setCell ⟨kb, 3, none⟩ d).setCell ⟨kb, 4, none⟩ e) kb p a b c d e c5 c6 z := heap_setCell_same _ kb 4 _ 80 e k3
  have k5 : KwB ((((((w.setCell ⟨kb, 0, none⟩ a).setCell ⟨kb, 1, none⟩ b).setCell ⟨kb, 2, none⟩ c).setCell ⟨kb, 3, none⟩ d).setCell ⟨kb, 4, none⟩ e).setCell ⟨kb, 5, none⟩ f) kb p a b c d e f c6 z := heap_setCell_same _ kb 5 _ 80 f k4
  exact heap_setCell_same _ kb 6 _ 80 g k5
theorem Er.frk {b kb : Nat} {W W' : World} {v : Value} {es : List Ent} (h : Er b W v es) (hf : Dk.Fr (fun k => k = kb) W W') (hk : kb < b) : Er b W' v es :=
  h.rd ⟨hf.os, hf.tape, hf.output, hf.size, fun k hk2 hne => hf.block k hk2 (fun e => hne (by rw [e]))⟩ hk
theorem decode_one {w : World} (rt rv rf : Int) (re : List Ent) (ho : (⟨rt, rv, true, rf, re, none⟩ : Rdy).ok) (hf : 0 < rf) (a : Option Addr) (n c : Nat) (hS : Sl w (.slice a n c) (encR false ⟨rt, rv, true, rf, re, none⟩)) (hl : (encR false ⟨rt, rv, true, rf, re, none⟩).length ≤ 1000000000000) :
    Calls Tryz.prog 85 #[.slice a n c] w fun x w1 => ∃ ao L cap, x = .returned (.tuple #[.bool false, .agg #[.int .i64 rt, .int .i64 rv, .bool true, .int .i64 rf, .slice ao L cap, .pointer none, .slice none 0 0, .slice none 0 0, .slice none 0 0], .bool true]) ∧ Hid (Er w.heap.size w1 (.slice ao L cap) re ∧ Below w.heap.size w w1) := by
  have e0 : encR false ⟨rt, rv, true, rf, re, none⟩ = fl false ++ (fl true ++ (encH ⟨rt, rv, true, rf, re, none⟩ ++ (fl (none : Option Snp).isSome ++ (encP ⟨rt, rv, true, rf, re, none⟩ ++ encL ⟨rt, rv, true, rf, re, none⟩)))) := by simp [encR]
  have e1 := rFlag_fl false (fl true ++ (encH ⟨rt, rv, true, rf, re, none⟩ ++ (fl (none : Option Snp).isSome ++ (encP ⟨rt, rv, true, rf, re, none⟩ ++ encL ⟨rt, rv, true, rf, re, none⟩))))
  rw [← e0] at e1
  have e2 := rFlag_fl true (encH ⟨rt, rv, true, rf, re, none⟩ ++ (fl (none : Option Snp).isSome ++ (encP ⟨rt, rv, true, rf, re, none⟩ ++ encL ⟨rt, rv, true, rf, re, none⟩)))
  have e3 := rdH_enc ⟨rt, rv, true, rf, re, none⟩ (fl (none : Option Snp).isSome ++ (encP ⟨rt, rv, true, rf, re, none⟩ ++ encL ⟨rt, rv, true, rf, re, none⟩)) ho
  have e4 := rdP_enc ⟨rt, rv, true, rf, re, none⟩ (encL ⟨rt, rv, true, rf, re, none⟩) ho
  have e5 := rdL_enc ⟨rt, rv, true, rf, re, none⟩ ho
  simp only [if_true] at e3
  simp only [hf, if_true] at e5
  refine (decode_any _ _ w hS hl false true _ _ _ _ _ e1 e2 e3 e4 e5).mono ?_
  rintro x w1 ⟨ao, L, cap, ps, rfl, HP⟩
  obtain ⟨h1, h2, h3⟩ := HP.out
  have h2' : ps = none := h2
  subst h2'
  exact ⟨ao, L, cap, rfl, h1, h3⟩

set_option maxHeartbeats 4000000 in
theorem redo_one {w : World} {kb p : Nat} (h : KwB w kb p (.int .i64 0) (.int .i64 0) (.int .i64 0) (.int .i64 0) (.slice none 0 0) (.slice none 0 0) (.slice none 0 0) 0) (rt rv rf : Int) (re : List Ent) (ho : (⟨rt, rv, true, rf, re, none⟩ : Rdy).ok) (hf : 0 < rf) (s' : St) (hs : st0.after ⟨rt, rv, true, rf, re, none⟩ = some s') (hln : re.length ≤ 1000000000) (hd : ∀ e ∈ re, e.data.length ≤ 140737488355328)
    (a : Option Addr) (n c : Nat) (hS : Sl w (.slice a n c) (encR false ⟨rt, rv, true, rf, re, none⟩)) (hl : (encR false ⟨rt, rv, true, rf, re, none⟩).length ≤ 1000000) (last : Int) :
    Calls Tryz.prog 52 #[.pointer (some ⟨kb, 0, none⟩), .slice a n c, .int .i64 last] w fun e w' => e = .returned (.bool true) ∧ Hid (∃ av nv cv z, KwB w' kb p (.int .i64 s'.term) (.int .i64 s'.vote) (.int .i64 0) (.int .i64 0) (.slice none 0 0) (.slice none 0 0) (.slice av nv cv) z ∧ Es w' (.slice av nv cv) s'.ents ∧ Dk.Fr (fun k => k = kb) w w') := by
  have HD := hide (decode_one rt rv rf re ho hf a n c hS (by omega))
  have HKB := hide h
  have hn : n ≤ 140737488355328 := by have := hS.len; omega
  have HSZ : Hid (∀ W, Calls Tryz.prog 86 #[.slice a n c] W fun e w' => e = .returned (.int .i64 (sizeL n : Nat)) ∧ w' = W) := fun W => sizeOf_any a n c W hn
  have HOO := hide ho
  have HLN := hide hln
  have HDD := hide hd
  have HSS := hide hs
  clear h ho hs hln hd hS hl
  go_enter Tryz.func52, Tryz.ntmps52
  go_wp2_with fail
  refine Calls.mono HD.out ?_
  rintro x w1 ⟨ao, L, cap, rfl, HP1⟩
  obtain ⟨k0, k1, k2, k3, k4, k5, k6, k7, k8⟩ := nine (HKB.out.below HP1.out.2)
  have ka0 := cell_alloc k0
  have ka1 := cell_alloc k1
  have ka2 := cell_alloc k2
  have ka3 := cell_alloc k3
  have ka4 := cell_alloc k4
  have ka5 := cell_alloc k5
  have ka6 := cell_alloc k6
  clear HD
  have hb3 : Below w1.heap.size w1 ((w1.alloc (.cells #[.int .i64 rt, .int .i64 rv, .bool true, .int .i64 rf, .slice ao L cap, .pointer none, .slice none 0 0, .slice none 0 0, .slice none 0 0] 43)).alloc (.cells #[.int .i64 0, .int .i64 0, .int .i64 0, .int .i64 0, .slice none 0 0, .slice none 0 0, .slice none 0 0] 78)) := ((Below.refl _ w1).alloc (Nat.le_refl _) _).alloc (by simp) _
  have HB3 := hide (HP1.out.2.trans (hb3.mono HP1.out.2.size))
  have hAF := after_zero (W := (w1.alloc (.cells #[.int .i64 rt, .int .i64 rv, .bool true, .int .i64 rf, .slice ao L cap, .pointer none, .slice none 0 0, .slice none 0 0, .slice none 0 0] 43)).alloc (.cells #[.int .i64 0, .int .i64 0, .int .i64 0, .int .i64 0, .slice none 0 0, .slice none 0 0, .slice none 0 0] 78)) ⟨rt, rv, true, rf, re, none⟩ s' HSS.out (.slice none 0 0) (.slice none 0 0) (.slice none 0 0) ao L cap (HP1.out.1.es.below hb3) rfl HOO.out HLN.out HDD.out
  have HAF := hide hAF
  clear hAF hb3 HSS HOO HLN HDD
  go_wp2_with fail
  refine Calls.mono HAF.out ?_
  rintro x w4 ⟨av, nv, cv, rfl, HP4⟩
  clear HAF ka0 ka1 ka2 ka3 ka4 ka5 ka6 k0 k1 k2 k3 k4 k5 k6 k7 k8
  have hb4 : Below w.heap.size w w4 := HB3.out.trans (HP4.out.2.mono HB3.out.size)
  have HB5 : Hid (Below w.heap.size w (w4.alloc (.cells #[.int .i64 s'.term, .int .i64 s'.vote, .int .i64 0, .int .i64 0, .slice none 0 0, .slice none 0 0, .slice av nv cv] 78))) := hb4.alloc hb4.size _
  have HES : Hid (∃ b5, kb < b5 ∧ Er b5 (w4.alloc (.cells #[.int .i64 s'.term, .int .i64 s'.vote, .int .i64 0, .int .i64 0, .slice none 0 0, .slice none 0 0, .slice av nv cv] 78)) (.slice av nv cv) s'.ents) := ⟨_, Nat.lt_of_lt_of_le HKB.out.lt HB3.out.size, HP4.out.1.below ((Below.refl _ _).alloc (Nat.le_refl _) _)⟩
  have h75 : (w4.alloc (.cells #[.int .i64 s'.term, .int .i64 s'.vote, .int .i64 0, .int .i64 0, .slice none 0 0, .slice none 0 0, .slice av nv cv] 78)).heap[w4.heap.size]? = some (.cells #[.int .i64 s'.term, .int .i64 s'.vote, .int .i64 0, .int .i64 0, .slice none 0 0, .slice none 0 0, .slice av nv cv] 78 (0, 0)) := heap_alloc_new _ _
  have H75 := hide h75
  clear h75 hb4 HP4 HB3
  go_upto_region 8 with fail
  generalize w4.alloc (.cells #[.int .i64 s'.term, .int .i64 s'.vote, .int .i64 0, .int .i64 0, .slice none 0 0, .slice none 0 0, .slice av nv cv] 78) = w5 at *
  have hK5 := HKB.out.below HB5.out
  obtain ⟨k0, k1, k2, k3, k4, k5, k6, k7, k8⟩ := nine hK5
  obtain ⟨o0, o1, o2, o3, o4, o5, o6⟩ := seven H75.out
  have ff := hK5.f
  have HK6 : Hid (KwB (((((((w5.setCell ⟨kb, 0, none⟩ (.int .i64 s'.term)).setCell ⟨kb, 1, none⟩ (.int .i64 s'.vote)).setCell ⟨kb, 2, none⟩ (.int .i64 0)).setCell ⟨kb, 3, none⟩ (.int .i64 0)).setCell ⟨kb, 4, none⟩ (.slice none 0 0)).setCell ⟨kb, 5, none⟩ (.slice none 0 0)).setCell ⟨kb, 6, none⟩ (.slice av nv cv)) kb p (.int .i64 s'.term) (.int .i64 s'.vote) (.int .i64 0) (.int .i64 0) (.slice none 0 0) (.slice none 0 0) (.slice av nv cv) 0) := hK5.now _ _ _ _ _ _ _
  have HF6 : Hid (Dk.Fr (fun k => k = kb) w5 (((((((w5.setCell ⟨kb, 0, none⟩ (.int .i64 s'.term)).setCell ⟨kb, 1, none⟩ (.int .i64 s'.vote)).setCell ⟨kb, 2, none⟩ (.int .i64 0)).setCell ⟨kb, 3, none⟩ (.int .i64 0)).setCell ⟨kb, 4, none⟩ (.slice none 0 0)).setCell ⟨kb, 5, none⟩ (.slice none 0 0)).setCell ⟨kb, 6, none⟩ (.slice av nv cv))) := Dk.Fr.setCell (p := ⟨kb, 6, none⟩) (Dk.Fr.setCell (p := ⟨kb, 5, none⟩) (Dk.Fr.setCell (p := ⟨kb, 4, none⟩) (Dk.Fr.setCell (p := ⟨kb, 3, none⟩) (Dk.Fr.setCell (p := ⟨kb, 2, none⟩) (Dk.Fr.setCell (p := ⟨kb, 1, none⟩) (Dk.Fr.setCell (p := ⟨kb, 0, none⟩) (Dk.Fr.refl (fun k => k = kb) w5) (fun _ => rfl) _) (fun _ => rfl) _) (fun _ => rfl) _) (fun _ => rfl) _) (fun _ => rfl) _) (fun _ => rfl) _) (fun _ => rfl) _
  clear hK5
  go_upto_region 9 with fail
  generalize (((((((w5.setCell ⟨kb, 0, none⟩ (.int .i64 s'.term)).setCell ⟨kb, 1, none⟩ (.int .i64 s'.vote)).setCell ⟨kb, 2, none⟩ (.int .i64 0)).setCell ⟨kb, 3, none⟩ (.int .i64 0)).setCell ⟨kb, 4, none⟩ (.slice none 0 0)).setCell ⟨kb, 5, none⟩ (.slice none 0 0)).setCell ⟨kb, 6, none⟩ (.slice av nv cv)) = w6 at *
  clear k0 k1 k2 k3 k4 k5 k6 k7 k8 o0 o1 o2 o3 o4 o5 o6 ff
  have c8 := HK6.out.c 8
  simp at c8
  have f8 := HK6.out.f 8
  have HEZ : Hid (∀ zz, ∃ av nv cv z, KwB (w6.setCell ⟨kb, 8, none⟩ (.int .i64 zz)).drew kb p (.int .i64 s'.term) (.int .i64 s'.vote) (.int .i64 0) (.int .i64 0) (.slice none 0 0) (.slice none 0 0) (.slice av nv cv) z ∧ Es (w6.setCell ⟨kb, 8, none⟩ (.int .i64 zz)).drew (.slice av nv cv) s'.ents ∧ Dk.Fr (fun k => k = kb) w (w6.setCell ⟨kb, 8, none⟩ (.int .i64 zz)).drew) := fun zz => by
    have hF : Dk.Fr (fun k => k = kb) w w6 := (Dk.Fr.of_below (F := fun k => k = kb) HB5.out).trans HF6.out (fun _ _ h => h)
    have hF2 : Dk.Fr (fun k => k = kb) w5 (w6.setCell ⟨kb, 8, none⟩ (.int .i64 zz)).drew := (Dk.Fr.setCell (p := ⟨kb, 8, none⟩) HF6.out (fun _ => rfl) _).drew
    obtain ⟨b5, hb5, hE5⟩ := HES.out
    exact ⟨av, nv, cv, zz, KwB.size HK6.out zz, (hE5.frk hF2 hb5).es, (Dk.Fr.setCell (p := ⟨kb, 8, none⟩) hF (fun _ => rfl) _).drew⟩
  obtain ⟨Z, hZ⟩ : ∃ Z, sizeL n = Z := ⟨_, rfl⟩
  have hZb : (Z : Int) ≤ 1000000000000000 := by
    rw [← hZ]
    unfold sizeL
    omega
  rw [hZ] at HSZ
  clear hZ HK6 HF6 HB5 HES H75
  refine wp_region_noPanic ?_
  go_region_with (go_at_call 86; refine Calls.mono (HSZ.out _) ?_; rintro x w7 ⟨rfl, hw7⟩; have hw7' := hw7.symm; subst hw7')
  all_goals
    refine NoPanic.normal ?_
    go_wp2_with fail
    go_ret
    exact ⟨rfl, HEZ.out _⟩
end Go.Proofs.YtjndgekpdmlbiaaGreatDoor.Kp
namespace Go.Proofs.YtjndgekpdmlbiaaGreatDoor.Kp
open Go.RowKit Bn

theorem LXfrom_same {w : World} {p pd : Nat} {s : Dk.St} {H : Nat → Prop} {first : Int} {ds : List (List UInt8)} (h : Wl.LX w p pd s H first ds) (n : Int) (h1 : 1 ≤ n) (hn : n ≤ 9223372036854775807) (hk : Wl.cnt first ds (n - 1) = ds.length) :
    Calls Tryz.prog 49 #[.pointer (some ⟨p, 0, none⟩), .int .i64 n] w fun e w' => e = .returned (.int .i64 0) ∧ ∃ m, w' = w.drewN m := by
  obtain ⟨F, hW, _⟩ := h.lw
  exact Wl.from_same 0 p pd s F first ds n w hW h1 hn hk

set_option maxHeartbeats 2000000 in
theorem load_none {w : World} {kb p pd : Nat} {s : Dk.St} {H : Nat → Prop} (h : Wl.LX w p pd s H 0 []) (ck : w.cell? ⟨kb, 7, none⟩ = some (.pointer (some ⟨p, 0, none⟩))) :
    Calls Tryz.prog 26 #[.pointer (some ⟨kb, 0, none⟩)] w fun e w' => e = .returned (.tuple #[]) ∧ Below w.heap.size w w' := by
  have HL : Hid (∀ W, Below w.heap.size w W → W.cell? ⟨kb, 7, none⟩ = some (.pointer (some ⟨p, 0, none⟩)) ∧ (Calls Tryz.prog 48 #[.pointer (some ⟨p, 0, none⟩)] W fun e w' => e = .returned (.int .i64 0) ∧ ∃ m, w' = W.drewN m) ∧ (Calls Tryz.prog 50 #[.pointer (some ⟨p, 0, none⟩)] W fun e w' => e = .returned (.int .i64 0) ∧ w' = W) ∧ Calls Tryz.prog 49 #[.pointer (some ⟨p, 0, none⟩), .int .i64 1] W fun e w' => e = .returned (.int .i64 0) ∧ ∃ m, w' = W.drewN m) := fun W hW =>
    ⟨(World.cell?_of_block (w := w) (a := ⟨kb, 7, none⟩) (hW.block kb (cell_lt ck))).trans ck, LXlast (h.below hW), LXfirst (h.below hW), LXfrom_same (h.below hW) 1 (by omega) (by omega) (by simp [Wl.cnt, Wl.lastL])⟩
  have H1 := hide (HL.out w (Below.refl _ w)).2.1
  clear h
  go_enter Tryz.func26, Tryz.ntmps26
  go_wp2_with fail
  refine Calls.mono H1.out ?_
  rintro e w1 ⟨rfl, m, hw1⟩
  have hb1 : Below w.heap.size w w1 := by rw [hw1]; exact Wl.below_drew w m
  have HB1 := hide hb1
  clear hw1 hb1 H1
  obtain ⟨c1, l1, f1, g1⟩ := HL.out w1 HB1.out
  have HF1 := hide f1
  clear l1 f1 g1
  go_wp2_with fail
  refine Calls.mono HF1.out ?_
  rintro e w2 ⟨rfl, hw⟩
  have hw' := hw.symm
  subst hw'
  clear HF1
  go_wp2_with fail
  go_loopw [2, 3, 4] (fun tv dv nv wr => dv = .int .i64 0 ∧ nv = .int .i64 1 ∧ Hid (Below w.heap.size w wr)) (fun _ _ _ _ => 0)
  case atStart => exact ⟨rfl, rfl, HB1⟩
  case round =>
    obtain ⟨rfl, rfl, HB⟩ := hrel
    clear c1 HB1
    obtain ⟨c2, l2, -, -⟩ := HL.out wr HB.out
    have HL2 := hide l2
    clear l2
    go_wp2_with fail
    refine Calls.mono HL2.out ?_
    rintro e w3 ⟨rfl, m3, hw3⟩
    have HB3 : Hid (Below w.heap.size w w3) := by rw [hw3]; exact HB.out.trans ((Wl.below_drew wr m3).mono HB.out.size)
    clear hw3 HL2 c2
    obtain ⟨c3, -, -, g3⟩ := HL.out w3 HB3.out
    have HG3 := hide g3
    clear g3
    go_wp2_with fail
    refine Calls.mono HG3.out ?_
    rintro e w4 ⟨rfl, m4, hw4⟩
    have HB4 : Hid (Below w.heap.size w w4) := by rw [hw4]; exact HB3.out.trans ((Wl.below_drew w3 m4).mono HB3.out.size)
    clear hw4 HG3 c3
    go_wp2_with fail
    exact bodyPost_end (v := .tuple #[]) (by simp [results, Tryz.results26, go_sem]) rfl ⟨rfl, HB4.out⟩

set_option maxHeartbeats 2000000 in
/-- Open, of a disk without anything. -/
theorem open_none {w : World} {q : Nat} {s : Dk.St} {F : Nat → Prop} (hD : Dk.Dk w q s F) (ht : Fr.Tab w) (h0 : ¬ F 0) (hm : s.mass ≤ 1000000) (hn : Wl.Nm s.now) (hf : (Wl.fileOf s Wl.nmW).length ≤ 30000) (hlen : s.now.length ≤ 100) (hR : Wl.loadR (Fr.scanL (Wl.fileOf s Wl.nmW)).1 0 [] = (0, [])) :
    Calls Tryz.prog 10 #[.pointer (some ⟨q, 0, none⟩)] w fun e w' => ∃ kb, e = .returned (.tuple #[.pointer (some ⟨kb, 0, none⟩), .int .i64 0]) ∧ Hid (∃ p H, Wl.LX w' p q (Wl.openS s) H 0 [] ∧ (∀ k, H k → F k ∨ w.heap.size ≤ k) ∧ ¬ H kb ∧ w.heap.size ≤ kb ∧ KwB w' kb p (.int .i64 0) (.int .i64 0) (.int .i64 0) (.int .i64 0) (.slice none 0 0) (.slice none 0 0) (.slice none 0 0) 0 ∧ Dk.Fr F w w') := by
  have HO := hide (Wl.LX.open hD ht h0 hm hn hf hlen 0 [] hR)
  clear hD ht h0 hm hn hf hlen hR
  go_enter Tryz.func10, Tryz.ntmps10
  go_wp2_with fail
  refine Calls.mono HO.out ?_
  rintro e w1 ⟨p, rfl, HP⟩
  have HK : Hid (KwB (w1.alloc (.cells #[.int .i64 0, .int .i64 0, .int .i64 0, .int .i64 0, .slice none 0 0, .slice none 0 0, .slice none 0 0, .pointer (some ⟨p, 0, none⟩), .int .i64 0] 80)) w1.heap.size p (.int .i64 0) (.int .i64 0) (.int .i64 0) (.int .i64 0) (.slice none 0 0) (.slice none 0 0) (.slice none 0 0) 0) := heap_alloc_new _ _
  have HB : Hid (Below w1.heap.size w1 (w1.alloc (.cells #[.int .i64 0, .int .i64 0, .int .i64 0, .int .i64 0, .slice none 0 0, .slice none 0 0, .slice none 0 0, .pointer (some ⟨p, 0, none⟩), .int .i64 0] 80))) := (Below.refl _ _).alloc (Nat.le_refl _) _
  have HLD := hide (load_none (HP.out.1.below HB.out) (HK.out.c 7))
  clear HO
  go_wp2_with fail
  refine Calls.mono HLD.out ?_
  rintro e w2 ⟨rfl, hb2⟩
  have HE : Hid (∃ p H, Wl.LX w2 p q (Wl.openS s) H 0 [] ∧ (∀ k, H k → F k ∨ w.heap.size ≤ k) ∧ ¬ H w1.heap.size ∧ w.heap.size ≤ w1.heap.size ∧ KwB w2 w1.heap.size p (.int .i64 0) (.int .i64 0) (.int .i64 0) (.int .i64 0) (.slice none 0 0) (.slice none 0 0) (.slice none 0 0) 0 ∧ Dk.Fr F w w2) := by
    obtain ⟨hX, hF⟩ := HP.out
    have hbb := HB.out.trans (hb2.mono HB.out.size)
    refine ⟨p, Dk.ext F w w1, hX.below hbb, fun k hk => ?_, fun hk => ?_, hF.size, HK.out.below hb2, hF.trans (Dk.Fr.of_below (F := F) hbb) (fun _ _ h => h)⟩
    · rcases hk with hk | hk
      · exact Or.inl hk
      · exact Or.inr hk.1
    · have := hX.lt _ hk
      omega
  clear HP HK HB HLD hb2
  go_wp2_with fail
  go_ret2
  exact ⟨w1.heap.size, rfl, HE⟩
end Go.Proofs.YtjndgekpdmlbiaaGreatDoor.Kp
namespace Go.Proofs.YtjndgekpdmlbiaaGreatDoor.Kp
open Go.RowKit Bn

/-- What is kept behind a call. -/
def Rk (w : World) (kb p : Nat) (s' : St) (w' : World) : Prop :=
  ∃ av nv cv z, KwB w' kb p (.int .i64 s'.term) (.int .i64 s'.vote) (.int .i64 0) (.int .i64 0) (.slice none 0 0) (.slice none 0 0) (.slice av nv cv) z ∧ Es w' (.slice av nv cv) s'.ents ∧ Dk.Fr (fun k => k = kb) w w'
theorem Rk.below {w A B : World} {kb p : Nat} {s' : St} (h : Rk w kb p s' A) (hb : Below A.heap.size A B) : Rk w kb p s' B := by
  obtain ⟨av, nv, cv, z, h1, h2, h3⟩ := h
  exact ⟨av, nv, cv, z, h1.below hb, h2.below hb, h3.trans (Dk.Fr.of_below (F := fun k => k = kb) hb) (fun _ _ h => h)⟩

set_option maxHeartbeats 4000000 in
theorem load_one {w : World} {kb p pd : Nat} {s : Dk.St} {H : Nat → Prop} (rt rv rf : Int) (re : List Ent) (ho : (⟨rt, rv, true, rf, re, none⟩ : Rdy).ok) (hf : 0 < rf) (s' : St) (hs : st0.after ⟨rt, rv, true, rf, re, none⟩ = some s') (hln : re.length ≤ 1000000000) (hd : ∀ e ∈ re, e.data.length ≤ 140737488355328) (hl : (encR false ⟨rt, rv, true, rf, re, none⟩).length ≤ 100000)
    (h : Wl.LX w p pd s H 1 [fl true ++ encR false ⟨rt, rv, true, rf, re, none⟩]) (hb : KwB w kb p (.int .i64 0) (.int .i64 0) (.int .i64 0) (.int .i64 0) (.slice none 0 0) (.slice none 0 0) (.slice none 0 0) 0) (hk : ¬ H kb) :
    Calls Tryz.prog 26 #[.pointer (some ⟨kb, 0, none⟩)] w fun e w' => e = .returned (.tuple #[]) ∧ Hid (Rk w kb p s' w') := by
  obtain ⟨i, hi, hz, hsize, hby⟩ := info_parts Tryz.inf5
  have HRD : Hid (∀ W a n c, Below w.heap.size w W → Sl W (.slice a n c) (encR false ⟨rt, rv, true, rf, re, none⟩) → Calls Tryz.prog 52 #[.pointer (some ⟨kb, 0, none⟩), .slice a n c, .int .i64 0] W fun e w' => e = .returned (.bool true) ∧ Hid (Rk w kb p s' w')) := fun W a n c hW hS => by
    refine (redo_one (hb.below hW) rt rv rf re ho hf s' hs hln hd a n c hS (by omega) 0).mono ?_
    rintro e w' ⟨rfl, HP⟩
    obtain ⟨av, nv, cv, z, h1, h2, h3⟩ := HP.out
    exact ⟨rfl, av, nv, cv, z, h1, h2, (Dk.Fr.of_below (F := fun k => k = kb) hW).trans h3 (fun _ _ h => h)⟩
  obtain ⟨t, HTT⟩ : ∃ t, Hid (encR false ⟨rt, rv, true, rf, re, none⟩ = t) := ⟨_, (rfl : _ = _)⟩
  rw [HTT.out] at HRD h hl
  have HPI : Hid (∀ W, Below w.heap.size w W → Calls Tryz.prog 51 #[.pointer (some ⟨kb, 0, none⟩), .int .i64 1] W fun e w' => ∃ a n c, e = .returned (.tuple #[.slice a n c, .bool true, .bool true]) ∧ Hid (Sl w' (.slice a n c) t ∧ Below W.heap.size W w')) := fun W hW => piece_one t (h.below hW) ((hb.below hW).c 7) (by omega)
  have HL : Hid (∀ W, Dk.Fr (fun k => k = kb) w W → (Calls Tryz.prog 48 #[.pointer (some ⟨p, 0, none⟩)] W fun e w' => e = .returned (.int .i64 1) ∧ ∃ m, w' = W.drewN m) ∧ (Calls Tryz.prog 50 #[.pointer (some ⟨p, 0, none⟩)] W fun e w' => e = .returned (.int .i64 1) ∧ w' = W) ∧ Calls Tryz.prog 49 #[.pointer (some ⟨p, 0, none⟩), .int .i64 2] W fun e w' => e = .returned (.int .i64 0) ∧ ∃ m, w' = W.drewN m) := fun W hW => by
    have hX := h.kept hW (fun k hk2 e => hk (by rw [← e]; exact hk2))
    exact ⟨LXlast hX, LXfirst hX, LXfrom_same hX 2 (by omega) (by omega) (by simp [Wl.cnt, Wl.lastL])⟩
  have HC : Hid (∀ W, Below w.heap.size w W → W.cell? ⟨kb, 7, none⟩ = some (.pointer (some ⟨p, 0, none⟩))) := fun W hW => (hb.below hW).c 7
  have HLT := hide hl
  have H1 := hide (HL.out w (Dk.Fr.refl _ w)).1
  have c0 := hb.c 7
  simp at c0
  clear h hb hs ho hd hl hln hf HTT
  go_enter Tryz.func26, Tryz.ntmps26
  go_wp2_with fail
  refine Calls.mono H1.out ?_
  rintro e w1 ⟨rfl, m, hw1⟩
  have hb1 : Below w.heap.size w w1 := by rw [hw1]; exact Wl.below_drew w m
  have HB1 := hide hb1
  clear hw1 hb1 H1 c0
  have c1 := HC.out w1 HB1.out
  have HF1 := hide (HL.out w1 (Dk.Fr.of_below HB1.out)).2.1
  go_wp2_with fail
  refine Calls.mono HF1.out ?_
  rintro e w2 ⟨rfl, hw⟩
  have hw' := hw.symm
  subst hw'
  clear HF1
  go_wp2_with fail
  go_loopw [2, 3, 4] (fun tv dv nv wr => (tv = .slice none 0 0 ∧ dv = .int .i64 0 ∧ nv = .int .i64 1 ∧ Hid (Below w.heap.size w wr)) ∨ (tv = .slice none 0 0 ∧ dv = .int .i64 1 ∧ nv = .int .i64 2 ∧ Hid (Rk w kb p s' wr))) (fun _ _ nv _ => 2 - (intOf nv).toNat)
  case atStart => exact Or.inl ⟨rfl, rfl, rfl, HB1⟩
  case round =>
    clear c1 HB1
    rcases hrel with ⟨rfl, rfl, rfl, HB⟩ | ⟨rfl, rfl, rfl, HR⟩
    · have c2 := HC.out wr HB.out
      have HL2 := hide (HL.out wr (Dk.Fr.of_below HB.out)).1
      go_wp2_with fail
      refine Calls.mono HL2.out ?_
      rintro e w3 ⟨rfl, m3, hw3⟩
      have HB3 : Hid (Below w.heap.size w w3) := by rw [hw3]; exact HB.out.trans ((Wl.below_drew wr m3).mono HB.out.size)
      have HPI3 := hide (HPI.out w3 HB3.out)
      clear hw3 HL2 c2
      go_wp2_with fail
      refine Calls.mono HPI3.out ?_
      rintro e w4 ⟨a4, n4, c4, rfl, HS4⟩
      have HB4 := hide (HB3.out.trans (HS4.out.2.mono HB3.out.size))
      have HN : Hid (w4.ownsRow w4.heap.size 5 1 (.slice none 0 0) ([] : List UInt8).length (cells8 [])) := World.ownsRow_nil _ _ _ _
      have HS5 : Hid (Dk.Sl w4 (.slice a4 n4 c4) t) := HS4.out.1
      clear HPI3
      go_upto_region 10 with (at_builtin; refine Dk.wpList_append_sl _ rfl _ _ 33 rfl w4.heap.size i Tryz.underlying33 hi hz hsize hby (.slice none 0 0) _ [] t rfl HN.out rfl HS5.out (by have := HLT.out; simp; omega) (Nat.le_refl _) ?_; intro v5 w5 hO5 hg5 _)
      obtain ⟨a5, n5, c5, rfl⟩ := Dk.own_slice hO5
      have hb5 : Below w4.heap.size w4 w5 := ⟨hg5.os, hg5.tape, hg5.output, hg5.size, fun k hk => hg5.block k hk (by simp [Value.ownBlock])⟩
      rw [List.nil_append] at hO5
      have HRD5 := hide (HRD.out w5 a5 n5 c5 (HB4.out.trans (hb5.mono HB4.out.size)) (Sl.of_own hO5))
      clear hO5 hg5 hb5 HS5 HN HS4 HB4
      go_wp2_with fail
      refine Calls.mono HRD5.out ?_
      rintro e w6 ⟨rfl, HR6⟩
      clear HRD5
      go_wp2_with fail
      go_roundw
      case rel => exact Or.inr ⟨rfl, rfl, by simp, HR6⟩
      case measure => simp [intOf]
    · have c2 : wr.cell? ⟨kb, 7, none⟩ = some (.pointer (some ⟨p, 0, none⟩)) := by
        obtain ⟨_, _, _, _, h1, _⟩ := HR.out
        exact h1.c 7
      have h3 : Dk.Fr (fun k => k = kb) w wr := by obtain ⟨_, _, _, _, _, _, h3⟩ := HR.out; exact h3
      have HL2 := hide (HL.out wr h3).1
      clear h3
      go_wp2_with fail
      refine Calls.mono HL2.out ?_
      rintro e w3 ⟨rfl, m3, hw3⟩
      have HR3 : Hid (Rk w kb p s' w3) := by rw [hw3]; exact HR.out.below (Wl.below_drew wr m3)
      clear hw3 HL2 c2
      have c3 : w3.cell? ⟨kb, 7, none⟩ = some (.pointer (some ⟨p, 0, none⟩)) := by
        obtain ⟨_, _, _, _, h1, _⟩ := HR3.out
        exact h1.c 7
      have h3 : Dk.Fr (fun k => k = kb) w w3 := by obtain ⟨_, _, _, _, _, _, h3⟩ := HR3.out; exact h3
      have HG3 := hide (HL.out w3 h3).2.2
      clear h3
      go_wp2_with fail
      refine Calls.mono HG3.out ?_
      rintro e w4 ⟨rfl, m4, hw4⟩
      have HR4 : Hid (Rk w kb p s' w4) := by rw [hw4]; exact HR3.out.below (Wl.below_drew w3 m4)
      clear hw4 HG3 c3
      go_wp2_with fail
      exact bodyPost_end (v := .tuple #[]) (by simp [results, Tryz.results26, go_sem]) rfl ⟨rfl, HR4⟩

set_option maxHeartbeats 2000000 in
/-- Open, of a disk whose log has one call. -/
theorem open_one {w : World} {q : Nat} {s : Dk.St} {F : Nat → Prop} (hD : Dk.Dk w q s F) (ht : Fr.Tab w) (h0 : ¬ F 0) (hm : s.mass ≤ 1000000) (hn : Wl.Nm s.now) (hf : (Wl.fileOf s Wl.nmW).length ≤ 30000) (hlen : s.now.length ≤ 100) (rt rv rf : Int) (re : List Ent) (ho : (⟨rt, rv, true, rf, re, none⟩ : Rdy).ok) (hfp : 0 < rf) (s' : St) (hs : st0.after ⟨rt, rv, true, rf, re, none⟩ = some s') (hln : re.length ≤ 1000000000) (hd : ∀ e ∈ re, e.data.length ≤ 140737488355328) (hl : (encR false ⟨rt, rv, true, rf, re, none⟩).length ≤ 100000)
    (hR : Wl.loadR (Fr.scanL (Wl.fileOf s Wl.nmW)).1 0 [] = (1, [fl true ++ encR false ⟨rt, rv, true, rf, re, none⟩])) :
    Calls Tryz.prog 10 #[.pointer (some ⟨q, 0, none⟩)] w fun e w' => ∃ kb, e = .returned (.tuple #[.pointer (some ⟨kb, 0, none⟩), .int .i64 0]) ∧ Hid (∃ p av nv cv z, KwB w' kb p (.int .i64 s'.term) (.int .i64 s'.vote) (.int .i64 0) (.int .i64 0) (.slice none 0 0) (.slice none 0 0) (.slice av nv cv) z ∧ Es w' (.slice av nv cv) s'.ents ∧ Dk.Fr F w w') := by
  have HO := hide (Wl.LX.open hD ht h0 hm hn hf hlen 1 _ hR)
  have HLD : Hid (∀ (W : World) (kb p : Nat) (H : Nat → Prop), Wl.LX W p q (Wl.openS s) H 1 [fl true ++ encR false ⟨rt, rv, true, rf, re, none⟩] → KwB W kb p (.int .i64 0) (.int .i64 0) (.int .i64 0) (.int .i64 0) (.slice none 0 0) (.slice none 0 0) (.slice none 0 0) 0 → ¬ H kb → Calls Tryz.prog 26 #[.pointer (some ⟨kb, 0, none⟩)] W fun e w' => e = .returned (.tuple #[]) ∧ Hid (Rk W kb p s' w')) := fun W kb p H hX hK hk => load_one rt rv rf re ho hfp s' hs hln hd hl hX hK hk
  clear hD ht h0 hm hn hf hlen hR ho hfp hs hln hd hl
  go_enter Tryz.func10, Tryz.ntmps10
  go_wp2_with fail
  refine Calls.mono HO.out ?_
  rintro e w1 ⟨p, rfl, HP⟩
  have HK : Hid (KwB (w1.alloc (.cells #[.int .i64 0, .int .i64 0, .int .i64 0, .int .i64 0, .slice none 0 0, .slice none 0 0, .slice none 0 0, .pointer (some ⟨p, 0, none⟩), .int .i64 0] 80)) w1.heap.size p (.int .i64 0) (.int .i64 0) (.int .i64 0) (.int .i64 0) (.slice none 0 0) (.slice none 0 0) (.slice none 0 0) 0) := heap_alloc_new _ _
  have HB : Hid (Below w1.heap.size w1 (w1.alloc (.cells #[.int .i64 0, .int .i64 0, .int .i64 0, .int .i64 0, .slice none 0 0, .slice none 0 0, .slice none 0 0, .pointer (some ⟨p, 0, none⟩), .int .i64 0] 80))) := (Below.refl _ _).alloc (Nat.le_refl _) _
  have HL2 := hide (HLD.out _ w1.heap.size p _ (HP.out.1.below HB.out) HK.out (fun hk => by have := HP.out.1.lt _ hk; omega))
  clear HO HLD
  go_wp2_with fail
  refine Calls.mono HL2.out ?_
  rintro e w2 ⟨rfl, HR2⟩
  have HE : Hid (∃ p av nv cv z, KwB w2 w1.heap.size p (.int .i64 s'.term) (.int .i64 s'.vote) (.int .i64 0) (.int .i64 0) (.slice none 0 0) (.slice none 0 0) (.slice av nv cv) z ∧ Es w2 (.slice av nv cv) s'.ents ∧ Dk.Fr F w w2) := by
    obtain ⟨av, nv, cv, z, h1, h2, h3⟩ := HR2.out
    have hF := HP.out.2
    have hs1 := hF.size
    refine ⟨p, av, nv, cv, z, h1, h2, (hF.trans (Dk.Fr.of_below (F := F) HB.out) (fun _ _ h => h)).trans h3 (fun k hk e => ?_)⟩
    omega
  clear HP HK HB HL2 HR2
  go_wp2_with fail
  go_ret2
  exact ⟨w1.heap.size, rfl, HE⟩
end Go.Proofs.YtjndgekpdmlbiaaGreatDoor.Kp
namespace Go.Proofs.YtjndgekpdmlbiaaGreatDoor.Kp
open Go.RowKit Bn

set_option maxHeartbeats 2000000 in
theorem save_first {w : World} {kb p pd : Nat} {s : Dk.St} {H : Nat → Prop} (h : Wl.LX w p pd s H 0 []) (ht : Fr.Tab w) (hb : KwB w kb p (.int .i64 0) (.int .i64 0) (.int .i64 0) (.int .i64 0) (.slice none 0 0) (.slice none 0 0) (.slice none 0 0) 0) (hk : ¬ H kb)
    (r : Rdy) (s' : St) (hs : st0.after r = some s') (y6 y7 y8 : Value) (ae : Option Addr) (le ce : Nat) (hE : Es w (.slice ae le ce) r.ents) (hsn : r.snap = none) (hsv : r.saved = true) (ho : r.ok) (hrz : rsz r ≤ 140737488355328) (hl : (encR false r).length ≤ 32767)
    (hln : r.ents.length ≤ 1000000000) (hd : ∀ e ∈ r.ents, e.data.length ≤ 140737488355328) (hlong : r.long = false) (hgood : st0.isGood r = true)
    (hr : (Dk.used s.now : Int) + (Wl.recB 1 (fl true ++ encR false r)).length ≤ s.room) (hf : (Dk.look Wl.nmW s.now).isSome = true ∨ s.now.length < 64) (hms : s.mass + 40000 ≤ 1000000000) (hms2 : (s.push (.app Wl.nmW (Wl.recB 1 (fl true ++ encR false r)))).mass ≤ 1000000) :
    Calls Tryz.prog 13 #[.pointer (some ⟨kb, 0, none⟩), .agg #[.int .i64 r.term, .int .i64 r.vote, .bool r.saved, .int .i64 r.first, .slice ae le ce, .pointer none, y6, y7, y8]] w fun e w' =>
      e = .returned (.int .i64 0) ∧ Hid (DoR w kb p pd s H (encR false r) w') := by
  have HKB := hide hb
  have HGD : Hid (∀ W, Below w.heap.size w W → Calls Tryz.prog 34 #[.agg #[.int .i64 0, .int .i64 0, .int .i64 0, .int .i64 0, .slice none 0 0, .slice none 0 0, .slice none 0 0], .agg #[.int .i64 r.term, .int .i64 r.vote, .bool r.saved, .int .i64 r.first, .slice ae le ce, .pointer none, y6, y7, y8]] W fun x w' => x = .returned (.bool true) ∧ Below W.heap.size W w') := fun W hW => by
    have h1 := isGood_any st0 r (.int .i64 0) (.int .i64 0) (.int .i64 0) (.slice none 0 0) (.slice none 0 0) (.slice none 0 0) (.int .i64 r.first) y6 y7 y8 none (.slice ae le ce) W (hE.below hW) (by rw [hsn]; rfl)
    rw [hgood] at h1
    exact h1
  have HDO : Hid (∀ W, Below w.heap.size w W → Calls Tryz.prog 35 #[.pointer (some ⟨kb, 0, none⟩), .agg #[.int .i64 r.term, .int .i64 r.vote, .bool r.saved, .int .i64 r.first, .slice ae le ce, .pointer none, y6, y7, y8]] W fun e w' => e = .returned (.int .i64 0) ∧ Hid (DoR W kb p pd s H (encR false r) w')) := fun W hW => do_first (h.below hW) (ht.below hW) (hb.below hW) hk r s' hs y6 y7 y8 ae le ce (hE.below hW) hsn hsv ho hrz hl hln hd hlong hr hf hms hms2
  have HEND : Hid (∀ W w', Below w.heap.size w W → DoR W kb p pd s H (encR false r) w' → DoR w kb p pd s H (encR false r) w') := fun W w' hW hD => by
    obtain ⟨H', h1, h2, h3⟩ := hD
    exact ⟨H', h1, fun k hk => by
      rcases h2 k hk with h4 | h4
      · exact Or.inl h4
      · exact Or.inr (Nat.le_trans hW.size h4), (Dk.Fr.of_below (F := fun k => H k ∨ k = kb) hW).trans h3 (fun k _ h => h)⟩
  have HB1 : Hid (Below w.heap.size w (w.alloc (.cells #[.int .i64 r.term, .int .i64 r.vote, .bool r.saved, .int .i64 r.first, .slice ae le ce, .pointer none, y6, y7, y8] 43))) := (Below.refl _ w).alloc (Nat.le_refl _) _
  have HB9 : Hid ((w.alloc (.cells #[.int .i64 r.term, .int .i64 r.vote, .bool r.saved, .int .i64 r.first, .slice ae le ce, .pointer none, y6, y7, y8] 43)).heap[w.heap.size]? = some (.cells #[.int .i64 r.term, .int .i64 r.vote, .bool r.saved, .int .i64 r.first, .slice ae le ce, .pointer none, y6, y7, y8] 43 (0, 0))) := heap_alloc_new _ _
  generalize encR false r = t at *
  obtain ⟨rt, rv, rs, rf, re, rn⟩ := r
  dsimp only at *
  subst hsv hsn
  clear h ht hb hs hE ho hrz hl hln hd hlong hgood hr hf hms hms2
  go_enter Tryz.func13, Tryz.ntmps13
  go_upto_region 3 with fail
  generalize w.alloc (.cells #[.int .i64 rt, .int .i64 rv, .bool true, .int .i64 rf, .slice ae le ce, .pointer none, y6, y7, y8] 43) = w1 at *
  obtain ⟨k0, k1, k2, k3, k4, k5, k6, k7, k8⟩ := nine (HKB.out.below HB1.out)
  obtain ⟨n0, n1, n2, n3, n4, n5, n6, n7, n8⟩ := nine HB9.out
  have HG1 := hide (HGD.out w1.drew HB1.out.drew)
  refine wp_region_noPanic ?_
  go_region_with (go_at_call 34; refine Calls.mono HG1.out ?_; rintro x w2 ⟨rfl, hb2⟩)
  all_goals
    refine NoPanic.normal ?_
    have hb21 : Below w1.heap.size w1 w2 := ((Below.refl _ w1).drew).trans hb2
    have HB2 := hide (HB1.out.trans (hb21.mono HB1.out.size))
    have h92 := (hb21.block w.heap.size (lt_of_block HB9.out)).trans HB9.out
    obtain ⟨q0, q1, q2, q3, q4, q5, q6, q7, q8⟩ := nine h92
    have HDO2 := hide (HDO.out w2 HB2.out)
    clear hb2 hb21 h92 HDO HGD HG1 k0 k1 k2 k3 k4 k5 k6 k7 k8 n0 n1 n2 n3 n4 n5 n6 n7 n8
    go_wp2_with fail
    refine Calls.mono HDO2.out ?_
    rintro x w3 ⟨rfl, HD3⟩
    have HE := hide (HEND.out w2 w3 HB2.out HD3.out)
    clear HD3 HDO2
    go_wp2_with fail
    go_ret
    exact ⟨rfl, HE⟩
end Go.Proofs.YtjndgekpdmlbiaaGreatDoor.Kp
namespace Go.Proofs.YtjndgekpdmlbiaaGreatDoor.Kp
open Go.RowKit Bn

theorem copyI_any (v : Value) (ns : List Int) (w : World) (h : Is w v ns) (hl : ns.length ≤ 1000000000000) :
    Calls Tryz.prog 68 #[v] w fun x w' => ∃ v', x = .returned v' ∧ Hid (w'.ownsRow w.heap.size 3 1 v' ns.length (cI ns) ∧ Below w.heap.size w w') := by
  obtain ⟨i, hi, hz, hsize, hby⟩ := info_parts Tryz.inf3
  have hn := World.ownsRow_nil w w.heap.size 3 1
  obtain ⟨ao, cap, rfl, h1, h2, h3⟩ := h
  have key : ∃ v' w', (∀ ty, (Builtin.append_ #[32, 32] ty #[.slice none 0 0, .slice ao ns.length cap]).run Tryz.prog w = .ok v' w') ∧ w'.ownsRow w.heap.size 3 1 v' ns.length (cI ns) ∧ Below w.heap.size w w' := by
    cases ao with
    | none =>
      have h0 : ns = [] := by
        cases ns with
        | nil => rfl
        | cons e r => obtain ⟨g, off, hg, _⟩ := h3 (by simp); cases hg
      subst h0
      refine ⟨.slice none 0 0, w, fun ty => ?_, hn, Below.refl _ _⟩
      simp [Builtin.append_, run_underlying Tryz.underlying32, sizeOf, typeInfo, hi, Builtin.lenOf, Builtin.firstCells]
    | some a =>
      have hcell : ∀ j u, (cI ns)[j]? = some u → w.cell? (a.add j) = some u := by
        intro j u hj
        have hjl : j < ns.length := by
          have := (List.getElem?_eq_some_iff.1 hj).1
          simpa [cI] using this
        obtain ⟨g, off, hg, hc⟩ := h3 (by omega)
        cases hg
        rw [Addr.add_lit, hc j hjl]
        have : (cI ns)[j]? = some (.int .i64 (atI ns j)) := by
          simp [cI, atI, hjl]
        rw [this] at hj
        exact hj
      have H := fun ty => run_append_own_at (P := Tryz.prog) w w.heap.size 32 ty 3 i _ 1 8 Tryz.underlying32 hi hz hsize hby rfl (by decide) (.slice none 0 0) 0 [] hn a ns.length cap (cI ns) (by simp [cI]) hcell (by
        intro u hu
        simp only [cI, List.mem_map] at hu
        obtain ⟨n, _, rfl⟩ := hu
        rfl) (by simp only [maxLen]; omega) (by omega) (Nat.le_refl _)
      obtain ⟨v', w', hr, g1, g2, _, _⟩ := H 0
      exact ⟨v', w', fun ty => hr, by simpa using g1, ⟨g2.os, g2.tape, g2.output, g2.size, fun k hk => g2.block k hk (by simp [Value.ownBlock])⟩⟩
  obtain ⟨v', w', hap, hE⟩ := key
  obtain ⟨ao', L', cap', rfl⟩ := Dk.own_slice hE.1
  have HE := hide hE
  clear hE h1 h2 h3 hn hl
  go_enter Tryz.func68, Tryz.ntmps68
  go_wp2_with (at_builtin; refine wpList_append_go _ rfl _ _ 32 32 rfl _ _ rfl rfl (hap _) ?_)
  go_ret
  exact ⟨_, rfl, HE.out⟩

/-- A snapshot's value whose rows are one's own. -/
def So (b : Nat) (W : World) (vc vd : Value) (p : Snp) : Prop := W.ownsRow b 3 1 vc p.conf.length (cI p.conf) ∧ W.ownsRow b 5 1 vd p.data.length (cells8 p.data)
theorem results_cellR {fn : Func} {p : Tmp} {ty : TypeId} (h : fn.results = #[.cell p ty]) (tmps : Array Value) (w : World) (g : Nat) (T : TypeId) (cs : Array Value) {d}
    (hp : tmps.getD p undef = .pointer (some ⟨g, 0, none⟩)) (hg : w.heap[g]? = some (.cells cs T (0, 0)))
    (hu : Tryz.prog.underlying ty = some (.struct d)) (hi : (Tryz.prog.info? ty).map (·.size) = some cs.size) : (results fn tmps).run Tryz.prog w = .ok (.agg cs) w :=
  results_cell_row h tmps w g T cs (0, 0) _ hp hg hu rfl hi
end Go.Proofs.YtjndgekpdmlbiaaGreatDoor.Kp
