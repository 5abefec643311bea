/- strata's walk. strings.Clone: the library's contract, laid at this program's own numbers. Of: the map of strata in memory, while the numbers' map is gone through. No walk. Of's walk. slices.Sorted of maps.Keys: the library's contracts, laid at this program's own numbers; no walk. -/
import Derived.Test.YtdmhajeaphnebaaPart16
import Derived.Deep.CutRange
import Derived.Test.YtdmhajeaphnebaaProg
import Derived.Shelf.Strconv.Clone
import Derived.WalkKit
import Derived.Shelf.SlIter.Nil
import Derived.Shelf.SortM.Plain
import Derived.Shelf.SortM.SortNone
import Derived.Ground.GgzProg
import Derived.Ground.SlgmProg
namespace Go.Proofs.Ytdmhajeaphnebaa.Gr
open Go.RowKit
open Vl (Fr)
open Tj (ng ng_nn Inv Rch Sol up up_s up_o count_lt)
variable {w0 w w' : World} {qb : Nat} {nv pv ov mv lv sv : Value} {n cnt : Nat} {path : List (Nat × Nat)} {opn : List Nat} {met low nxt : Nat → Nat} {st : Nat → Int} {nd : Nat → List (Nat × Bool)}

theorem upd_lt (i : Nat) : upd (fun v => if v < i then (-1 : Int) else 0) i (-1) = fun v => if v < i + 1 then -1 else 0 := by
  funext v
  simp only [upd]
  by_cases e : v = i
  · rw [if_pos e, if_pos (by omega)]
  · rw [if_neg e]
    by_cases h : v < i
    · rw [if_pos h, if_pos (by omega)]
    · rw [if_neg h, if_neg (by omega)]
theorem made_ex {W : World} {gm gl gs : Nat} (h : Made w W nv n qb gm gl gs) : ∃ qb' gm' gl' gs', Value.pointer (some ⟨qb, 0, none⟩) = Value.pointer (some ⟨qb', 0, none⟩) ∧ Hid (Made w W nv n qb' gm' gl' gs') := ⟨_, _, _, _, rfl, h⟩
theorem Wk.first (h : Wk w0 w qb nv pv ov mv lv sv n 0 [] [] (fun _ => 0) (fun _ => 0) (fun v => if v < n then -1 else 0) nd) (hb : ∀ v, v < n → ∀ e ∈ nd v, e.1 < n) : ∃ k, Wv w0 w qb nv mv lv sv n nd [] [] (fun _ => 0) (fun _ => 0) (fun _ => 0) 0 (fun _ => -1) k := by
  have hs : rowI (fun v => if v < n then (-1 : Int) else 0) n = rowI (fun _ => -1) n := by
    unfold rowI
    refine List.map_congr_left fun k hk => ?_
    have : k < n := by simpa using hk
    simp [this]
  refine ⟨_, ⟨pv, ov, ⟨h.b, h.p, h.o, h.m, h.l, by rw [← hs]; exact h.s, h.nd, h.om, h.ol, h.os, h.ml, h.ms, h.ls, h.z⟩⟩, Inv.zero nd n hb _ _, fun p hp => ?_, Nat.zero_le _, ⟨0, by simp, fun v _ => by omega⟩, by simp, fun p hp => ?_, Nat.le_refl _⟩
  · simp at hp
  · simp at hp
set_option maxHeartbeats 8000000 in
set_option maxRecDepth 4000 in
theorem strata_any {mv0 : Value} (h : NdIn w nv n nd) (hb : ∀ v, v < n → ∀ e ∈ nd v, e.1 < n) (hn : n ≤ 999) (hnl : ∀ v, v < n → (nd v).length ≤ 1000000) :
    Calls Try.prog 17 #[.agg #[mv0, nv]] w fun x w2 => Below w.heap.size w w2 ∧ ((∃ v, x = .returned (.tuple #[v, .bool true]) ∧ ∃ st, w2.ownsRow 0 3 1 v n (rowI st n) ∧ Sol nd n st ∧ ∀ t, Sol nd n t → ∀ v, v < n → st v ≤ t v) ∨ (x = .returned (.tuple #[.slice none 0 0, .bool false]) ∧ ∀ t, ¬ Sol nd n t)) := by
  have hmk := fun W => make_rowI n (by omega) W
  have H0 := hide h
  have HB := hide hb
  have HL := hide hnl
  obtain ⟨V, hV1, hV2⟩ := h
  obtain ⟨ao, cn, rfl⟩ := own_sl hV1
  have hnI : (n : Int) ≤ 1000 := by omega
  clear hV1 hV2 hb hnl
  go_enter Try.func17, Try.ntmps17
  go_upto_region 2 with fail
  go_cut [5] from 11 to 19 (fun v wc => ∃ qb gm gl gs, v = .pointer (some ⟨qb, 0, none⟩) ∧ Hid (Made w wc (.slice ao n cn) n qb gm gl gs))
  case first =>
    refine wp_region_noPanic ?_
    go_region
    all_goals refine NoPanic.normal ?_
    all_goals clear hmk H0 HB HL
    all_goals go_wp2_with fail
    all_goals go_meet
    all_goals exact made_ex ⟨by first | exact at51 _ _ _ _ _ _ | exact at52 _ _ _ _ _ _ | exact at53 _ _ _ _ _ _ | exact at54 _ _ _ _ _ _, by first | exact at51 _ _ _ _ _ _ | exact at52 _ _ _ _ _ _ | exact at53 _ _ _ _ _ _ | exact at54 _ _ _ _ _ _, by first | exact at51 _ _ _ _ _ _ | exact at52 _ _ _ _ _ _ | exact at53 _ _ _ _ _ _ | exact at54 _ _ _ _ _ _, by first | exact at51 _ _ _ _ _ _ | exact at52 _ _ _ _ _ _ | exact at53 _ _ _ _ _ _ | exact at54 _ _ _ _ _ _, by omega, by omega, by omega, by omega, by omega, by omega, by omega, bel5 _ _ _ _ _ _⟩
  case rest =>
    obtain ⟨qb, gm, gl, gs, rfl, HM⟩ := hcut
    have HK := hide (HM.out.wk H0.out (by omega))
    clear hmk HM
    have e6 := HK.out.c.2.2.2.2.2.2
    go_wp2_with fail
    go_loopw [6, 23] (fun _ iv wr => ∃ i : Nat, iv = .int .i64 (i : Int) ∧ i ≤ n ∧ Hid (Wk w wr qb (.slice ao n cn) (.slice none 0 0) (.slice none 0 0) (.slice (some ⟨gm, 0, none⟩) n n) (.slice (some ⟨gl, 0, none⟩) n n) (.slice (some ⟨gs, 0, none⟩) n n) n 0 [] [] (fun _ => 0) (fun _ => 0) (fun v => if v < i then -1 else 0) nd)) (fun _ iv _ => n - (intOf iv).toNat)
    case atStart => exact ⟨0, rfl, Nat.zero_le _, HK.out⟩
    case round =>
      obtain ⟨i, rfl, hi, HI⟩ := hrel
      clear e6 HK
      have e6 := HI.out.c.2.2.2.2.2.2
      by_cases hlt : i < n
      · have hltI : (i : Int) < (n : Int) := by omega
        obtain ⟨_, _, ee, -, -, hc, hf⟩ := own_open HI.out.s (by omega)
        simp only [Value.slice.injEq, Option.some.injEq, Addr.mk.injEq, and_true, true_and] at ee
        obtain ⟨rfl, rfl⟩ := ee
        have xi := (hc i (by omega)).trans (rowI_get _ hlt)
        simp only [Nat.lt_irrefl, if_false] at xi
        have fi := hf i
        have HS := HI.out.setS i (-1)
        rw [upd_lt] at HS
        have HS' := hide HS
        have HME : Hid (n - (intOf (.int .i64 ((i : Int) + 1))).toNat < n - (intOf (.int .i64 (i : Int))).toNat) := by
          show _ < _
          simp [intOf]; omega
        clear HI hc hf HS
        go_wp2_with fail
        exact ⟨⟨i + 1, by simp, by omega, HS'.out⟩, HME.out⟩
      · have hie : i = n := by omega
        have hge : ¬ ((i : Int) < (n : Int)) := by omega
        have HI2 := HI.out
        rw [hie] at HI2
        obtain ⟨k, HV⟩ := HI2.first HB.out
        have HV := hide HV
        clear HI HI2
        go_wp2_with fail
        go_loopw [7, 34] (fun _ jv wq => ∃ j : Nat, jv = .int .i64 (j : Int) ∧ j ≤ n ∧ ∃ met low nxt cnt st k, Hid (Wv w wq qb (.slice ao n cn) (.slice (some ⟨gm, 0, none⟩) n n) (.slice (some ⟨gl, 0, none⟩) n n) (.slice (some ⟨gs, 0, none⟩) n n) n nd [] [] met low nxt cnt st k ∧ ∀ v, v < j → met v ≠ 0)) (fun _ jv _ => n - (intOf jv).toNat)
        case atStart => exact ⟨0, rfl, Nat.zero_le _, _, _, _, _, _, _, HV.out, fun v hv => absurd hv (Nat.not_lt_zero _)⟩
        case round =>
          obtain ⟨j, rfl, hj, met, low, nxt, cnt, st, k, HJ⟩ := hrel
          obtain ⟨pv, ov, hk⟩ := HJ.out.1.wk
          clear e6 HV
          have e4 := hk.c.2.2.2.2.1
          have e6 := hk.c.2.2.2.2.2.2
          by_cases hlt : j < n
          · have hltI : (j : Int) < (n : Int) := by omega
            obtain ⟨_, _, ee, -, -, hc, -⟩ := own_open hk.m (by omega)
            simp only [Value.slice.injEq, Option.some.injEq, Addr.mk.injEq, and_true, true_and] at ee
            obtain ⟨rfl, rfl⟩ := ee
            have xj := (hc j (by omega)).trans (rowI_get _ hlt)
            have HME : Hid (n - (intOf (.int .i64 ((j : Int) + 1))).toNat < n - (intOf (.int .i64 (j : Int))).toNat) := by
              show _ < _
              simp [intOf]; omega
            by_cases hm : met j = 0
            · have HF := hide (from_any HJ.out.1 hlt hm hn HL.out)
              have x0 : wr.cell? ⟨gm, j, none⟩ = some (.int .i64 0) := by rw [xj]; simp [zf, hm]
              clear xj hc hk
              go_wp2_with fail
              refine Calls.mono HF.out ?_
              rintro x w3 (⟨rfl, met2, low2, nxt2, cnt2, st2, k2, h1, h2, h3⟩ | ⟨rfl, h1, h2⟩)
              · have HN : Hid (Wv w w3 qb (.slice ao n cn) (.slice (some ⟨gm, 0, none⟩) n n) (.slice (some ⟨gl, 0, none⟩) n n) (.slice (some ⟨gs, 0, none⟩) n n) n nd [] [] met2 low2 nxt2 cnt2 st2 k2 ∧ ∀ v, v < j + 1 → met2 v ≠ 0) := ⟨h1, fun v hv => by
                  by_cases e : v = j
                  · rw [e]; exact h2
                  · exact h3 v (HJ.out.2 v (by omega))⟩
                clear h1 h2 h3 HF e4 e6 x0
                go_wp2_with fail
                exact ⟨⟨j + 1, by simp, by omega, met2, low2, nxt2, cnt2, st2, k2, HN.out⟩, HME.out⟩
              · have HN := hide (And.intro h1 h2)
                clear h1 h2 HF e4 e6 x0
                go_wp2_with fail
                exact bodyPost_ret (v := .tuple #[.slice none 0 0, .bool false]) (by simp [results, Try.results17, go_sem]) rfl ⟨HN.out.1, .inr ⟨rfl, HN.out.2⟩⟩
            · have x0 : wr.cell? ⟨gm, j, none⟩ = some (.int .i64 (met j : Int)) := xj
              have hm0 : ¬ ((met j : Int) = 0) := by omega
              have HN : Hid (Wv w wr qb (.slice ao n cn) (.slice (some ⟨gm, 0, none⟩) n n) (.slice (some ⟨gl, 0, none⟩) n n) (.slice (some ⟨gs, 0, none⟩) n n) n nd [] [] met low nxt cnt st k ∧ ∀ v, v < j + 1 → met v ≠ 0) := ⟨HJ.out.1, fun v hv => by
                  by_cases e : v = j
                  · rw [e]; exact hm
                  · exact HJ.out.2 v (by omega)⟩
              clear xj hc hk HJ
              generalize (met j : Int) = mj at x0 hm0
              go_wp2_with fail
              exact ⟨⟨j + 1, by simp, by omega, met, low, nxt, cnt, st, k, HN.out⟩, HME.out⟩
          · have hje : j = n := by omega
            have hge : ¬ ((j : Int) < (n : Int)) := by omega
            have HE : Hid (Below w.heap.size w wr ∧ wr.ownsRow 0 3 1 (.slice (some ⟨gs, 0, none⟩) n n) n (rowI st n) ∧ Sol nd n st ∧ ∀ t, Sol nd n t → ∀ v, v < n → st v ≤ t v) := ⟨hk.z.1, hk.s, HJ.out.1.inv.done (fun v hv => HJ.out.2 v (by omega))⟩
            clear hk HJ
            go_wp2_with fail
            exact bodyPost_ret (v := .tuple #[.slice (some ⟨gs, 0, none⟩) n n, .bool true]) (by simp [results, Try.results17, go_sem]) rfl ⟨HE.out.1, .inl ⟨_, rfl, st, HE.out.2⟩⟩
end Go.Proofs.Ytdmhajeaphnebaa.Gr
namespace Go.Proofs.Ytdmhajeaphnebaa
def Try.laysM316_ren : Go.Shelf.Ren := ⟨fun | 316 => 33 | n => n, fun | 9 => 9 | 3 => 3 | 4 => 4 | 37 => 63 | 0 => 0 | 127 => 97 | 5 => 5 | n => n, fun | n => n⟩
theorem Try.laysM316 : Go.Proofs.LaysM.n316 Try.prog Try.laysM316_ren := {
  mixed := by kernel_rfl
  f316 := Try.func33.trans (congrArg some (by kernel_rfl))
  t0 := Try.underlying0
  a0 := Try.isAgg0
  z0 := Try.sizeOf0
  v0 := Try.zeroValue0
  t3 := Try.underlying3
  a3 := Try.isAgg3
  z3 := Try.sizeOf3
  v3 := Try.zeroValue3
  t4 := Try.underlying4
  a4 := Try.isAgg4
  z4 := Try.sizeOf4
  v4 := Try.zeroValue4
  t9 := Try.underlying9
  a9 := Try.isAgg9
  z9 := Try.sizeOf9
  v9 := Try.zeroValue9
  t37 := Try.underlying63
  a37 := Try.isAgg63
  z37 := Try.sizeOf63
  v37 := Try.zeroValue63
  t127 := Try.underlying97
  a127 := Try.isAgg97
  z127 := Try.sizeOf97
  v127 := Try.zeroValue97
  t5 := Try.underlying5
  a5 := Try.isAgg5
  z5 := Try.sizeOf5
  v5 := Try.zeroValue5
  i0 := by kernel_rfl
  i3 := by kernel_rfl
  i4 := by kernel_rfl
  i5 := by kernel_rfl
  i9 := by kernel_rfl
  i37 := by kernel_rfl
  i127 := by kernel_rfl }
open Go.RowKit in
theorem Try.stringslite_Clone (s : ByteArray) (w : World) (hlim : s.size ≤ 281474976710656) :
    Calls Try.prog 33 #[.string s] w fun e w' => e = .returned (.string s) ∧ Below w.heap.size w w' := Any.stringslite_Clone Try.laysM316 s w hlim

open Go.RowKit in
theorem clone_any (s : ByteArray) (w : World) (hs : s.size ≤ 281474976710656) : Calls Try.prog 18 #[.string s] w fun e w' => e = .returned (.string s) ∧ Below w.heap.size w w' := by
  go_enter Try.func18, Try.ntmps18
  go_wp2_with (go_at_call 33; refine (Try.stringslite_Clone s _ hs).mono ?_; rintro e w' ⟨rfl, hb⟩)
  go_ret
  exact ⟨rfl, hb⟩
end Go.Proofs.Ytdmhajeaphnebaa
namespace Go.Proofs.Ytdmhajeaphnebaa.Gr
open Go.RowKit
open Vl (Fr)
open Sy (isRs isRs_below Rul OkR)
open Tj (memB memB_iff ixN ixN_lt ndOf ndOf_bnd hdN idsOf idsOf_len heads_ids Sol NSol NLeast name_least name_none)
variable {w0 w w' : World} {H L : List ByteArray} {f : ByteArray → Int} {sv : Value} {st : Nat → Int} {mb r ob nn cnt : Nat} {D : DataW Value} {left : Lit → Bool}
theorem key_string {key : Value} {kl : Lit} (h : keyOf Try.prog 9 key = some kl) : ∃ s : ByteArray, key = .string s := by
  cases key <;> simp [keyOf, Try.underlying9, mapKey] at h
  exact ⟨_, rfl⟩
theorem key_lit {s : ByteArray} {kl : Lit} (h : keyOf Try.prog 9 (.string s) = some kl) : kl = kb s := by
  simp [keyOf, Try.underlying9, mapKey] at h
  exact h.2.symm
/-- What the map of numbers reads as. -/
structure Dn (D : DataW Value) (H : List ByteArray) : Prop where
  has : ∀ x, Maps.has D (kb x) = memB H x
  at' : ∀ x ∈ H, ∀ z, D.atKey (kb x) z = .held (.int .i64 (ixN H x : Int))
structure Ro (w0 w : World) (mb r ob nn : Nat) (D : DataW Value) (left : Lit → Bool) (cnt : Nat) (H L : List ByteArray) (f : ByteArray → Int) (sv : Value) (st : Nat → Int) (Pn : ByteArray → Prop) : Prop where
  rg : w.ranges Try.prog 9 heldR mb r nn D left cnt
  dn : Dn D H
  mp : Mp w ob L f
  sr : w.ownsRow 0 3 1 sv H.length (rowI st H.length)
  lh : ∀ x, left (kb x) = true → x ∈ H
  ll : ∀ x ∈ H, x ∉ L → ¬ Pn x → left (kb x) = true
  lo : ∀ x ∈ L, left (kb x) = false
  pn : ∀ x, Pn x → x ∈ H ∧ x ∉ L ∧ left (kb x) = false
  sub : ∀ x ∈ L, x ∈ H
  sz : ∀ x ∈ H, Sz x
  z : Below w0.heap.size w0 w
  no : mb ≠ ob
  nr : r ≠ ob
  zo : w0.heap.size ≤ ob
  zr : w0.heap.size ≤ r
theorem fr_grown {row : Nat} (h : w.grownBy w' (some row)) : Fr (fun k => k = row) w w' := Vl.Fr.of_grown h (fun k hk => by simpa using hk.symm)
theorem sameKb {x y : ByteArray} : (kb y).sameKey (kb x) = true ↔ y = x := by
  rw [WideAt.sameKey_iff (kb_lit x)]
  exact ⟨kb_inj, fun h => by rw [h]⟩
theorem Ro.next (h : Ro w0 w mb r ob nn D left cnt H L f sv st (fun _ => False)) {x : ByteArray} {cnt' : Nat} (hx : left (kb x) = true) (hrg : w'.ranges Try.prog 9 heldR mb r nn D (fun z => left z && !z.sameKey (kb x)) cnt') (hg : w.grownBy w' (some r)) :
    Ro w0 w' mb r ob nn D (fun z => left z && !z.sameKey (kb x)) cnt' H L f sv st (fun y => y = x) := by
  have hf := fr_grown hg
  have hs : (kb x).sameKey (kb x) = true := sameKb.2 rfl
  refine ⟨hrg, h.dn, h.mp.fr hf (Ne.symm h.nr), own_of_cell h.sr hf (fun k hk hu => ?_), fun y hy => h.lh y (by simp at hy; exact hy.1), fun y hy hn hp => ?_, fun y hy => by rw [h.lo y hy]; rfl, fun y hy => ?_, h.sub, h.sz, h.z.trans (hf.below (fun k hk => by subst hk; exact h.zr) h.z.size), h.no, h.nr, h.zo, h.zr⟩
  · subst hk
    obtain ⟨cur, hc⟩ := own_blk h.sr hu
    obtain ⟨es, clock, _, _, _, _, _, _, _, hr, _⟩ := h.rg
    rw [hc] at hr
    simp at hr
  · have h1 := h.ll y hy hn id
    have h2 : (kb y).sameKey (kb x) = false := by
      cases hc : (kb y).sameKey (kb x) with
      | false => rfl
      | true => exact absurd (sameKb.1 hc) hp
    show (left (kb y) && !(kb y).sameKey (kb x)) = true
    rw [h1, h2]
    rfl
  · subst hy
    refine ⟨h.lh y hx, fun hl => ?_, by show (left (kb y) && !(kb y).sameKey (kb y)) = false; rw [hs]; simp⟩
    rw [h.lo y hl] at hx
    cases hx
theorem Ro.below {Pn : ByteArray → Prop} (h : Ro w0 w mb r ob nn D left cnt H L f sv st Pn) (hb : Below w.heap.size w w') : Ro w0 w' mb r ob nn D left cnt H L f sv st Pn := by
  have hf : Fr (fun _ => False) w w' := Fr.of_below hb
  refine ⟨?_, h.dn, h.mp.below hb, own_of_cell h.sr hf (fun _ hk => hk.elim), h.lh, h.ll, h.lo, h.pn, h.sub, h.sz, h.z.trans (hb.mono h.z.size), h.no, h.nr, h.zo, h.zr⟩
  obtain ⟨es, clock, since, seen, c0, h1, h2, h3, h4, h5, h6⟩ := h.rg
  exact ⟨es, clock, since, seen, c0, (hb.block mb (Array.getElem?_eq_some_iff.1 h1).1).trans h1, h2, h3, h4, (hb.block r (Array.getElem?_eq_some_iff.1 h5).1).trans h5, h6⟩
theorem Ro.put {x : ByteArray} (h : Ro w0 w mb r ob nn D left cnt H L f sv st (fun y => y = x)) (hl : H.length ≤ 1000) (z : Int) : ∃ w', (Instr.mapUpdate 25 (.map (some ob)) (.string x) (.int .i64 z)).run Try.prog w = .ok () w' ∧ Ro w0 w' mb r ob nn D left cnt H (L ++ [x]) (updN f x z) sv st (fun _ => False) := by
  obtain ⟨hxH, hxL, hxl⟩ := h.pn x rfl
  have hLl : L.length ≤ H.length := Tj.nodup_len h.mp.nd h.sub
  obtain ⟨w', hr, hm, ht⟩ := h.mp.put (h.sz x hxH) hxL (by omega) z
  have hf := fr_turned ht
  refine ⟨w', hr, h.rg.kept ht.grown (fun e => h.no (by simpa using e)) (fun e => h.nr (by simpa using e)), h.dn, hm, own_of_cell h.sr hf (fun k hk hu => by subst hk; exact own_nmap h.sr h.mp hu), h.lh, fun y hy hn _ => h.ll y hy (fun h' => hn (by simp [h'])) (fun e => hn (by simp [e])), fun y hy => ?_, fun _ hp => hp.elim, fun y hy => ?_, h.sz, h.z.trans (hf.below (fun k hk => by subst hk; exact h.zo) h.z.size), h.no, h.nr, h.zo, h.zr⟩
  · rcases List.mem_append.1 hy with h1 | h1
    · exact h.lo y h1
    · have : y = x := by simpa using h1
      rw [this]; exact hxl
  · rcases List.mem_append.1 hy with h1 | h1
    · exact h.sub y h1
    · have : y = x := by simpa using h1
      rw [this]; exact hxH
theorem Ro.done (h : Ro w0 w mb r ob nn D left cnt H L f sv st (fun _ => False)) (hl : ∀ k, left k = false) (hn : H.Nodup) : L.Perm H := by
  refine (List.perm_ext_iff_of_nodup h.mp.nd hn).2 fun x => ⟨h.sub x, fun hx => ?_⟩
  apply Classical.byContradiction
  intro hc
  have := h.ll x hx hc id
  rw [hl] at this
  cases this
theorem Ro.val (h : Ro w0 w mb r ob nn D left cnt H L f sv st (fun _ => False)) {x : ByteArray} (hx : left (kb x) = true) {v : Value} {y : DataW Value × List MemPlace} (hv : heldR v = some y) (hat : ∀ zd, D.atKey (kb x) zd = y.1) : v = .int .i64 (ixN H x : Int) := by
  have h1 := hat (.held (.int .i64 0))
  rw [h.dn.at' x (h.lh x hx)] at h1
  simp [heldR] at hv
  rw [← hv] at h1
  simpa using h1.symm
theorem Ro.start (hmp : Mp w mb H (fun x => (ixN H x : Int))) : ∃ nn D, nn ≤ H.length ∧ w.ownsMap Try.prog 9 heldR mb nn D ∧ Maps.size D = H.length ∧ Dn D H := by
  obtain ⟨n, D, hn, hm, hs, hh, ha⟩ := hmp.ex
  exact ⟨n, D, hn, hm, hs, hh, ha⟩
end Go.Proofs.Ytdmhajeaphnebaa.Gr
namespace Go.Proofs.Ytdmhajeaphnebaa.Gr
open Go.RowKit
open Vl (Fr)
open Sy (isRs isRs_below Rul OkR)
open Tj (memB memB_iff ixN ixN_lt ndOf ndOf_bnd hdN idsOf idsOf_len heads_ids Sol NSol NLeast name_least name_none)
variable {w0 w w' : World}
theorem run_makeMapN (n : Nat) (W : World) : (Instr.makeMap 25 (some (.int .i64 (n : Int)))).run Try.prog W = .ok (.map (some W.heap.size)) (W.alloc (.map #[] 0)) := by
  simp [Instr.makeMap, go_sem]
theorem updN_same (f : ByteArray → Int) (x : ByteArray) : updN f x (f x) = f := by
  funext y
  unfold updN
  split
  · rename_i h; rw [h]
  · rfl
/-- What Of tells. -/
def OfR (rs : List Rul) (w : World) (x : Ending) (w2 : World) : Prop := Below w.heap.size w w2 ∧ ((∃ ob L s, x = .returned (.tuple #[.map (some ob), .int .i64 0]) ∧ Mp w2 ob L s ∧ L.Perm (idsOf rs) ∧ NLeast rs s ∧ w.heap.size ≤ ob) ∨ (x = .returned (.tuple #[.map none, .int .i64 7]) ∧ ∀ t, ¬ NSol rs t))
set_option maxHeartbeats 8000000 in
set_option maxRecDepth 4000 in
theorem of_any {rs : List Rul} {y : Value} (hR : isRs w rs y) (hok : OkRs rs) : Calls Try.prog 7 #[y] w fun x w2 => OfR rs w x w2 := by
  obtain ⟨ao, cap, hy⟩ := Rp.isRs_shape hR
  have HG := hide (graph_any hR hok)
  have HO := hide hok
  subst hy
  have hl30 : (idsOf rs).length ≤ 30 := Nat.le_trans (idsOf_len rs) hok.1
  clear hR hok
  go_enter Try.func7, Try.ntmps7
  go_wp2_with fail
  refine Calls.mono HG.out ?_
  rintro x w1 ⟨mb, nv, rfl, hmp, ⟨V, hnd⟩, hmb⟩
  obtain ⟨na, nc, rfl⟩ := own_sl hnd.o
  obtain ⟨U, hU⟩ : ∃ U, U = w1.alloc (.cells #[.map (some mb), .slice na (idsOf rs).length nc] 47) := ⟨_, rfl⟩
  have hUB : Below w1.heap.size w1 U := by rw [hU]; exact (Below.refl _ _).alloc (Nat.le_refl _) _
  have hUL : U.heap[w1.heap.size]? = some (.cells #[.map (some mb), .slice na (idsOf rs).length nc] 47 (0, 0)) := by rw [hU]; exact heap_alloc_new _ _
  have hzU : Below w.heap.size w U := hnd.z.trans (hUB.mono hnd.z.size)
  have HS := hide (strata_any (mv0 := .map (some mb)) ((hnd.below hUB).ndIn) (fun v _ => ndOf_bnd (idsOf rs) rs v) (by omega) (fun v _ => nd_few HO.out v))
  have HMU := hide (hmp.below hUB)
  have HZU := hide hzU
  have HUL := hide hUL
  have HMB := hide hmb
  have EU := hide hU
  have u0 : U.cell? ⟨w1.heap.size, 0, none⟩ = some (.map (some mb)) := by rw [cell_of_row _ _ 0 _ _ _ hUL]; rfl
  have u1 : U.cell? ⟨w1.heap.size, 1, none⟩ = some (.slice na (idsOf rs).length nc) := by rw [cell_of_row _ _ 1 _ _ _ hUL]; rfl
  obtain ⟨n, hn⟩ : ∃ n, n = (idsOf rs).length := ⟨_, rfl⟩
  rw [← hn] at u1 HS HUL EU hl30
  simp only [← hn]
  have HN := hide hn
  have hnI : (n : Int) ≤ 30 := by omega
  clear HG hU hUB hUL hzU hmp hnd hn hmb
  go_upto_region 2 with fail
  rw [← EU.out]
  generalize w1.heap.size = gb at *
  clear EU
  go_wp2_with fail
  refine Calls.mono HS.out ?_
  rintro x w2 ⟨hb2, ⟨sv, rfl, st, hrow, hsol, hleast⟩ | ⟨rfl, hno⟩⟩
  · obtain ⟨sa, sc, rfl⟩ := own_sl hrow
    have hHe := heads_ids rs
    have hM2 := HMU.out.below hb2
    obtain ⟨nn, D, hnn, hown, hsize, hdn⟩ := Ro.start hM2
    have HL : Hid (NLeast rs (fun x => st (ixN (idsOf rs) x))) := name_least hHe (by rw [← HN.out]; exact hsol) (by rw [← HN.out]; exact hleast)
    have hz2 : Below w.heap.size w w2 := HZU.out.trans (hb2.mono HZU.out.size)
    have v0 := cell_bel u0 hb2
    have hlen := hM2.len
    rw [← HN.out] at hlen
    have hmk := run_makeMapN n
    have hA : Below w2.heap.size w2 (w2.alloc (.map #[] 0)) := (Below.refl _ _).alloc (Nat.le_refl _) _
    obtain ⟨W3, hW3⟩ : ∃ W3, W3 = w2.alloc (.map #[] 0) := ⟨_, rfl⟩
    have hMo : Mp W3 w2.heap.size [] (fun x => st (ixN (idsOf rs) x)) := by rw [hW3]; exact Mp.new w2
    have hown3 : W3.ownsMap Try.prog 9 heldR mb nn D := by
      obtain ⟨es, clock, h1, h2⟩ := hown
      exact ⟨es, clock, by rw [hW3]; exact (hA.block mb (Array.getElem?_eq_some_iff.1 h1).1).trans h1, h2⟩
    have hrow3 : W3.ownsRow 0 3 1 (.slice sa n sc) n (rowI st n) := by rw [hW3]; exact own_of_cell hrow (Fr.of_below (F := fun _ => False) hA) (fun _ hk => hk.elim)
    have hz3 : Below w.heap.size w W3 := by rw [hW3]; exact hz2.trans (hA.mono hz2.size)
    have v03 : W3.cell? ⟨gb, 0, none⟩ = some (.map (some mb)) := by rw [hW3]; exact cell_bel v0 hA
    have hmlt : mb < w2.heap.size := hM2.lt
    have EW := hide hW3
    have hob := hz2.size
    obtain ⟨ob, hobe⟩ : ∃ ob, ob = w2.heap.size := ⟨_, rfl⟩
    rw [← hobe] at hMo hmlt hob
    have EO := hide hobe
    clear HS u0 u1 hb2 hsol hleast hrow hA hW3 hz2 hown hobe
    go_upto_region 6 with fail
    rw [← EW.out, ← EO.out]
    have hsW : W3.heap.size = ob + 1 := by rw [EW.out, EO.out]; simp
    have HSW := hide hsW
    clear EW EO hmk hlen v0 hsW
    go_wp2_with (first
      | (at_range; refine wpList_range_own _ rfl _ 25 rfl 9 3 law9 Try.underlying25 heldR mb nn D rfl hown3 ?_; intro w4 hrg4 hg4 hs4)
      | go_in)
    go_frame
    obtain ⟨r, hr⟩ : ∃ r, r = W3.heap.size := ⟨_, rfl⟩
    have hf4 : Fr (fun _ => False) W3 w4 := Vl.Fr.of_grown hg4 (fun k hk => by cases hk)
    have HI : Hid (Ro w w4 mb r ob nn D (Maps.has D) (Maps.size D) (idsOf rs) [] (fun x => st (ixN (idsOf rs) x)) (.slice sa n sc) st (fun _ => False)) := by
      refine ⟨by rw [hr]; exact hrg4, hdn, hMo.fr hf4 id, by rw [← HN.out]; exact own_of_cell hrow3 hf4 (fun _ hk => hk.elim), fun x hx => memB_iff.1 (by rw [← hdn.has]; exact hx), fun x hx _ _ => by rw [hdn.has]; exact memB_iff.2 hx, fun x hx => (List.not_mem_nil hx).elim, fun _ hp => hp.elim, fun x hx => (List.not_mem_nil hx).elim, hM2.sm, hz3.trans (hf4.below (fun _ hk => hk.elim) hz3.size), by omega, by rw [hr, HSW.out]; omega, hob, by rw [hr]; exact hz3.size⟩
    rw [← hr]
    clear hrg4 hg4 hs4 hown3 hrow3 hMo hM2 hz3 v03 hf4 hr hdn hmlt hsize
    go_loopw [8, 9] (fun _ _ wr => ∃ (L : List ByteArray) (left : Lit → Bool) (cnt : Nat), Hid (Ro w wr mb r ob nn D left cnt (idsOf rs) L (fun x => st (ixN (idsOf rs) x)) (.slice sa n sc) st (fun _ => False))) (fun _ _ wr => wr.rangeLeft mb r)
    case atStart => exact ⟨_, _, _, HI.out⟩
    case round =>
      obtain ⟨L, left, cnt, HR⟩ := hrel
      clear HI
      go_wp2_with (first
        | (at_next; refine wpList_next_ranges _ rfl _ rfl 9 law9 heldR Value.string (fun v => v) (fun key kl hk => key_string hk) (fun v y _ => ⟨v, rfl⟩) mb r nn D left cnt rfl HR.out.rg ?_ ?_)
        | go_in)
      · intro hc0 hl0
        have HE : Hid (OfR rs w (.returned (.tuple #[.map (some ob), .int .i64 0])) wr) := ⟨HR.out.z, .inl ⟨ob, L, _, rfl, HR.out.mp, HR.out.done hl0 (heads_ids rs).nd, HL.out, HR.out.zo⟩⟩
        clear HR hl0
        go_wp2_with fail
        exact bodyPost_ret (v := .tuple #[.map (some ob), .int .i64 0]) (by simp [results, Try.results7, go_sem]) rfl HE.out
      · intro x v kl yd yp w5 cnt5 hkey hlk hv hat hrg5 hlt hg5 hs5 hen
        have hkl := key_lit hkey
        subst hkl
        have hve := HR.out.val hlk hv (y := (yd, yp)) hat
        have hR5 := HR.out.next hlk hrg5 hg5
        have hxH := HR.out.lh x hlk
        have hix := ixN_lt hxH
        obtain ⟨ix, hixe⟩ : ∃ ix, ix = ixN (idsOf rs) x := ⟨_, rfl⟩
        have hsr := hR5.sr
        obtain ⟨sg, sc', es, _, _, hsc, _⟩ := own_open hsr (by omega)
        simp only [Value.slice.injEq] at es
        obtain ⟨rfl, -, rfl⟩ := es
        have s0 := (hsc ix (by omega)).trans (rowI_get st (by omega))
        have hszx := HR.out.sz x hxH
        have HCl : Hid (∀ W, Calls Try.prog 18 #[.string x] W fun e w' => e = .returned (.string x) ∧ Below W.heap.size W w') := fun W => clone_any x W (by unfold Sz at hszx; omega)
        have HP : Hid (∀ W, Below w5.heap.size w5 W → ∃ w6, (Instr.mapUpdate 25 (.map (some ob)) (.string x) (.int .i64 (st ix))).run Try.prog W = .ok () w6 ∧ Hid (Ro w w6 mb r ob nn D (fun z => left z && !z.sameKey (kb x)) cnt5 (idsOf rs) (L ++ [x]) (fun x => st (ixN (idsOf rs) x)) (.slice (some ⟨sg, 0, none⟩) n sc) st (fun _ => False))) := fun W hb => by
          obtain ⟨w6, h1, h2⟩ := (hR5.below hb).put (by rw [← HN.out]; omega) (st ix)
          refine ⟨w6, h1, ?_⟩
          have e := updN_same (fun x => st (ixN (idsOf rs) x)) x
          rw [hixe, e] at h2
          exact h2
        have HME : Hid (∀ w6, Ro w w6 mb r ob nn D (fun z => left z && !z.sameKey (kb x)) cnt5 (idsOf rs) (L ++ [x]) (fun x => st (ixN (idsOf rs) x)) (.slice (some ⟨sg, 0, none⟩) n sc) st (fun _ => False) → w6.rangeLeft mb r < wr.rangeLeft mb r) := fun w6 h6 => by rw [h6.rg.left_eq, HR.out.rg.left_eq]; exact hlt
        rw [hve, ← hixe] at hen ⊢
        have hixI : (ix : Int) < (n : Int) := by rw [← hixe, ← HN.out] at hix; omega
        clear hve hR5 hxH hix hsr hsc hszx hkey hlk hv hat hrg5 hlt hg5 hs5 hixe HR
        go_upto_region 9 with fail
        have hwx : IntKind.i64.wrap (ix : Int) = (ix : Int) := by rw [IntKind.wrap_i64]; omega
        refine wp_region_noPanic ?_
        go_region_with (go_at_call 18; refine (HCl.out _).mono ?_; rintro e w6 ⟨rfl, hb6⟩; have hb6' := ((Below.refl _ w5).drew.trans hb6); have hp6 := HP.out w6 hb6'; obtain ⟨w7, hup, HX⟩ := hp6; have s6 := cell_bel s0 hb6'; clear hb6 hb6')
        all_goals refine NoPanic.normal ?_
        all_goals clear s0 s6 hen hup HP HCl
        all_goals go_wp2_with fail
        all_goals exact ⟨⟨L ++ [x], _, cnt5, HX.out⟩, HME.out _ HX.out⟩
  · have HE : Hid (Below w.heap.size w w2 ∧ ∀ t, ¬ NSol rs t) := ⟨HZU.out.trans (hb2.mono HZU.out.size), name_none (heads_ids rs) (by rw [← HN.out]; exact hno)⟩
    clear hb2 hno HS u0 u1
    go_wp2_with fail
    exact bodyPost_ret (v := .tuple #[.map none, .int .i64 7]) (by simp [results, Try.results7, go_sem]) rfl ⟨HE.out.1, .inr ⟨rfl, HE.out.2⟩⟩
end Go.Proofs.Ytdmhajeaphnebaa.Gr
namespace Go.Proofs.Ytdmhajeaphnebaa
open Go.RowKit Go.Maps Go.Sort Go.Shelf
def Try.keys20_ren : Go.Shelf.Ren := ⟨fun | 7 => 20 | 10 => 36 | n => n, fun | 23 => 25 | 26 => 9 | 3 => 3 | 28 => 53 | 0 => 0 | 27 => 52 | 33 => 71 | 4 => 4 | n => n, fun | n => n⟩
theorem Try.keys20 : Go.Proofs.SlLaysZ.n7 Try.prog Try.keys20_ren := {
  mixed := by kernel_rfl
  f7 := ⟨Try.f20.name, by decide, Try.func20.trans (congrArg some (by kernel_rfl))⟩
  f10 := ⟨Try.f36.name, by decide, Try.func36.trans (congrArg some (by kernel_rfl))⟩
  t0 := Try.underlying0
  a0 := Try.isAgg0
  z0 := Try.sizeOf0
  v0 := Try.zeroValue0
  t4 := Try.underlying4
  a4 := Try.isAgg4
  z4 := Try.sizeOf4
  v4 := Try.zeroValue4
  t23 := Try.underlying25
  a23 := Try.isAgg25
  z23 := Try.sizeOf25
  v23 := Try.zeroValue25
  t26 := Try.underlying9
  a26 := Try.isAgg9
  z26 := Try.sizeOf9
  v26 := Try.zeroValue9
  t27 := Try.underlying52
  a27 := Try.isAgg52
  z27 := Try.sizeOf52
  v27 := Try.zeroValue52
  t28 := Try.underlying53
  a28 := Try.isAgg53
  z28 := Try.sizeOf53
  v28 := Try.zeroValue53
  t33 := Try.underlying71
  a33 := Try.isAgg71
  z33 := Try.sizeOf71
  v33 := Try.zeroValue71 }
def Try.sorted19_ren : Go.Shelf.Ren := ⟨fun | 6 => 19 | 8 => 34 | 9 => 35 | 11 => 43 | 13 => 45 | 12 => 44 | 23 => 59 | 24 => 60 | 14 => 50 | 15 => 51 | 16 => 52 | 17 => 53 | 18 => 54 | 19 => 55 | 20 => 56 | 21 => 57 | 22 => 58 | 25 => 62 | 26 => 63 | 27 => 64 | 28 => 65 | 29 => 66 | 30 => 67 | 31 => 68 | n => n, fun | 26 => 9 | 28 => 53 | 24 => 32 | 0 => 0 | 3 => 3 | 37 => 101 | 48 => 111 | 50 => 113 | 4 => 4 | 40 => 105 | 39 => 104 | 45 => 74 | 5 => 5 | 9 => 9 | 51 => 115 | 55 => 119 | 57 => 121 | 58 => 83 | 33 => 71 | n => n, fun | n => n⟩
theorem Try.sorted19 : Go.Proofs.SlLaysZ.n6 Try.prog Try.sorted19_ren := {
  mixed := by kernel_rfl
  f6 := ⟨Try.f19.name, by decide, Try.func19.trans (congrArg some (by kernel_rfl))⟩
  f8 := ⟨Try.f34.name, by decide, Try.func34.trans (congrArg some (by kernel_rfl))⟩
  f11 := ⟨Try.f43.name, by decide, Try.func43.trans (congrArg some (by kernel_rfl))⟩
  t0 := Try.underlying0
  a0 := Try.isAgg0
  z0 := Try.sizeOf0
  v0 := Try.zeroValue0
  t24 := Try.underlying32
  a24 := Try.isAgg32
  z24 := Try.sizeOf32
  v24 := Try.zeroValue32
  t26 := Try.underlying9
  a26 := Try.isAgg9
  z26 := Try.sizeOf9
  v26 := Try.zeroValue9
  t28 := Try.underlying53
  a28 := Try.isAgg53
  z28 := Try.sizeOf53
  v28 := Try.zeroValue53
  i26 := by kernel_rfl }
def Try.sort35_ren : Go.Shelf.Ren := ⟨fun | 6 => 35 | 8 => 45 | 9 => 44 | 19 => 59 | 20 => 60 | 21 => 50 | 22 => 51 | 23 => 52 | 24 => 53 | 25 => 54 | 26 => 55 | 27 => 56 | 28 => 57 | 29 => 58 | 36 => 62 | 31 => 63 | 32 => 64 | 37 => 65 | 38 => 66 | 39 => 67 | 41 => 68 | n => n, fun | 27 => 32 | 29 => 9 | 3 => 3 | 32 => 101 | 26 => 32 | 0 => 0 | 44 => 111 | 46 => 113 | 4 => 4 | 36 => 105 | 35 => 104 | 41 => 74 | 5 => 5 | 9 => 9 | 53 => 115 | 57 => 119 | 63 => 121 | 64 => 83 | n => n, fun | n => n⟩
theorem Try.sort35 : Go.Proofs.SlLaysM.n6 Try.prog Try.sort35_ren := {
  mixed := by kernel_rfl
  f6 := ⟨Try.f35.name, by decide, Try.func35.trans (congrArg some (by kernel_rfl))⟩
  f8 := Try.func45.trans (congrArg some (by kernel_rfl))
  f9 := ⟨Try.f44.name, by decide, Try.func44.trans (congrArg some (by kernel_rfl))⟩
  f19 := Try.func59.trans (congrArg some (by kernel_rfl))
  f20 := Try.func60.trans (congrArg some (by kernel_rfl))
  f21 := ⟨Try.f50.name, by decide, Try.func50.trans (congrArg some (by kernel_rfl))⟩
  f22 := ⟨Try.f51.name, by decide, Try.func51.trans (congrArg some (by kernel_rfl))⟩
  f23 := ⟨Try.f52.name, by decide, Try.func52.trans (congrArg some (by kernel_rfl))⟩
  f24 := ⟨Try.f53.name, by decide, Try.func53.trans (congrArg some (by kernel_rfl))⟩
  f25 := ⟨Try.f54.name, by decide, Try.func54.trans (congrArg some (by kernel_rfl))⟩
  f26 := ⟨Try.f55.name, by decide, Try.func55.trans (congrArg some (by kernel_rfl))⟩
  f27 := ⟨Try.f56.name, by decide, Try.func56.trans (congrArg some (by kernel_rfl))⟩
  f28 := ⟨Try.f57.name, by decide, Try.func57.trans (congrArg some (by kernel_rfl))⟩
  f29 := ⟨Try.f58.name, by decide, Try.func58.trans (congrArg some (by kernel_rfl))⟩
  f31 := Try.func63.trans (congrArg some (by kernel_rfl))
  f32 := Try.func64.trans (congrArg some (by kernel_rfl))
  f36 := ⟨Try.f62.name, by decide, Try.func62.trans (congrArg some (by kernel_rfl))⟩
  f37 := ⟨Try.f65.name, by decide, Try.func65.trans (congrArg some (by kernel_rfl))⟩
  f38 := ⟨Try.f66.name, by decide, Try.func66.trans (congrArg some (by kernel_rfl))⟩
  f39 := ⟨Try.f67.name, by decide, Try.func67.trans (congrArg some (by kernel_rfl))⟩
  f41 := ⟨Try.f68.name, by decide, Try.func68.trans (congrArg some (by kernel_rfl))⟩
  t0 := Try.underlying0
  a0 := Try.isAgg0
  z0 := Try.sizeOf0
  v0 := Try.zeroValue0
  t3 := Try.underlying3
  a3 := Try.isAgg3
  z3 := Try.sizeOf3
  v3 := Try.zeroValue3
  t4 := Try.underlying4
  a4 := Try.isAgg4
  z4 := Try.sizeOf4
  v4 := Try.zeroValue4
  t5 := Try.underlying5
  a5 := Try.isAgg5
  z5 := Try.sizeOf5
  v5 := Try.zeroValue5
  t9 := Try.underlying9
  a9 := Try.isAgg9
  z9 := Try.sizeOf9
  v9 := Try.zeroValue9
  t26 := Try.underlying32
  a26 := Try.isAgg32
  z26 := Try.sizeOf32
  v26 := Try.zeroValue32
  t27 := Try.underlying32
  a27 := Try.isAgg32
  z27 := Try.sizeOf32
  v27 := Try.zeroValue32
  t29 := Try.underlying9
  a29 := Try.isAgg9
  z29 := Try.sizeOf9
  v29 := Try.zeroValue9
  t32 := Try.underlying101
  a32 := Try.isAgg101
  z32 := Try.sizeOf101
  v32 := Try.zeroValue101
  t35 := Try.underlying104
  a35 := Try.isAgg104
  z35 := Try.sizeOf104
  v35 := Try.zeroValue104
  t36 := Try.underlying105
  a36 := Try.isAgg105
  z36 := Try.sizeOf105
  v36 := Try.zeroValue105
  t41 := Try.underlying74
  a41 := Try.isAgg74
  z41 := Try.sizeOf74
  v41 := Try.zeroValue74
  t44 := Try.underlying111
  a44 := Try.isAgg111
  z44 := Try.sizeOf111
  v44 := Try.zeroValue111
  t46 := Try.underlying113
  a46 := Try.isAgg113
  z46 := Try.sizeOf113
  v46 := Try.zeroValue113
  t53 := Try.underlying115
  a53 := Try.isAgg115
  z53 := Try.sizeOf115
  v53 := Try.zeroValue115
  t57 := Try.underlying119
  a57 := Try.isAgg119
  z57 := Try.sizeOf119
  v57 := Try.zeroValue119
  t63 := Try.underlying121
  a63 := Try.isAgg121
  z63 := Try.sizeOf121
  v63 := Try.zeroValue121
  t64 := Try.underlying83
  a64 := Try.isAgg83
  z64 := Try.sizeOf83
  v64 := Try.zeroValue83 }
theorem Try.sorts19 (m : Nat) : AnyZ.SortsIn Try.prog Try.sorted19_ren Fence.wide m :=
  ⟨fun blk off cap ss W hH hblk hsz => callsIn_wide.2 (AnyM.slices_Sort_string Try.sort35 blk off cap ss W hH hblk hsz),
   fun p cap W => callsIn_wide.2 (AnyM.slices_Sort_string_none Try.sort35 p cap W)⟩

theorem Try.maps_Keys_20 (mb : Option Nat) (W : World) : CallsIn Fence.wide 5 Try.prog 20 #[.map mb] W fun e w' => e = .returned (.func (.func 36) #[] #[.pointer (some ⟨W.heap.size, 0, none⟩)]) ∧ w' = W.alloc (.cells #[.map mb] 25) :=
  AnyZ.keys_in Try.keys20 Fence.wide 5 trivial rfl mb W

set_option maxHeartbeats 1000000 in
theorem Try.slices_Sorted_keys_19_20 {H : Type} (b nn : Nat) (D0 : DataW H) (R : Value → Option (DataW H × List MemPlace)) (w : World) (hown : w.ownsMap Try.prog 9 R b nn D0) (hmax : Maps.size D0 ≤ maxLen) (hbytes : Maps.size D0 * 16 ≤ 140737488355328) :
    CallsIn Fence.wide 5 Try.prog 19 #[.func (.func 36) #[] #[.pointer (some ⟨w.heap.size, 0, none⟩)]] (w.alloc (.cells #[.map (some b)] 25)) fun e w' => ∃ (v : Value) (ss : List (List UInt8)), e = .returned v ∧ ss.Perm (strKeys D0) ∧
      w'.ownsRow (w.alloc (.cells #[.map (some b)] 25)).heap.size 9 1 v ss.length ((ss.mergeSort (fun x y => decide (x ≤ y))).map encStr) ∧ (v = .slice none 0 0 ↔ ss = []) ∧ Below (w.alloc (.cells #[.map (some b)] 25)).heap.size (w.alloc (.cells #[.map (some b)] 25)) w' := by
  have hbl := hown.lt
  have hseq : SeqGives Fence.wide 2 Try.prog 36 #[.pointer (some ⟨w.heap.size, 0, none⟩)] encStr (fun ss => ss.Perm (strKeys D0)) (Maps.size D0) (w.alloc (.cells #[.map (some b)] 25)) :=
    AnyZ.keys_gives (ρ := Try.keys20_ren) { Try.keys20 with } Fence.wide _ trivial rfl (by omega) w.heap.size b nn D0 _ (by simp) (by simp) (by
      obtain ⟨es, clock, hb, Ft, hs, hD⟩ := hown
      exact ⟨es, clock, (Below.heap_alloc _ _ b hbl).trans hb, Ft, hs, hD⟩)
  exact AnyZ.sorted_in Try.sorted19 Fence.wide 5 trivial trivial trivial trivial rfl (by omega) (Try.sorts19 _) (enters_of Try.func35 (by kernel_rfl) rfl) 36 #[.pointer (some ⟨w.heap.size, 0, none⟩)] trivial (enters_of Try.func36 (by kernel_rfl) rfl) _ _ hmax hbytes _ hseq

end Go.Proofs.Ytdmhajeaphnebaa
