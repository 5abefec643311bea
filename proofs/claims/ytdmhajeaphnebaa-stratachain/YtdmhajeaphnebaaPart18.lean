/- Order, first half: how high the strata are. Order, second half: the names, sorted, laid out by strata. No walk. The reference's place. The reference's Recursive: its walk. The law's first rules, read. No walk. -/
import Derived.Test.YtdmhajeaphnebaaPart17
import Derived.Test.YtdmhajeaphnebaaPart16
import Derived.Test.YtdmhajeaphnebaaPart10
namespace Go.Proofs.Ytdmhajeaphnebaa.Gr
open Go.RowKit
open Vl (Fr)
open Sy (isRs isRs_below Rul OkR)
open Tj (memB memB_iff ixN ixN_lt ndOf ndOf_bnd hdN idsOf idsOf_len heads_ids Sol NSol NLeast name_least name_none)
variable {w0 w w' : World} {L : List ByteArray} {f : ByteArray → Int} {r ob nn cnt : Nat} {D : DataW Value} {left : Lit → Bool} {h : Int}
/-- The map is gone through; h is the height so far. -/
structure Rh (w0 w : World) (ob r nn : Nat) (D : DataW Value) (left : Lit → Bool) (cnt : Nat) (L : List ByteArray) (f : ByteArray → Int) (h : Int) : Prop where
  rg : w.ranges Try.prog 9 heldR ob r nn D left cnt
  hs : ∀ x, Maps.has D (kb x) = memB L x
  at' : ∀ x ∈ L, ∀ z, D.atKey (kb x) z = .held (.int .i64 (f x))
  mp : Mp w ob L f
  lh : ∀ x, left (kb x) = true → x ∈ L
  ub : ∀ x ∈ L, left (kb x) = false → f x + 1 ≤ h
  lb : h = 0 ∨ ∃ x ∈ L, h = f x + 1
  nn : 0 ≤ h
  z : Below w0.heap.size w0 w
  zr : w0.heap.size ≤ r
theorem Rh.next (k : Rh w0 w ob r nn D left cnt L f h) {x : ByteArray} {cnt' : Nat} (hx : left (kb x) = true) (hrg : w'.ranges Try.prog 9 heldR ob r nn D (fun z => left z && !z.sameKey (kb x)) cnt') (hg : w.grownBy w' (some r)) (h0 : 0 ≤ f x) :
    Rh w0 w' ob r nn D (fun z => left z && !z.sameKey (kb x)) cnt' L f (max h (f x + 1)) := by
  have hf := fr_grown hg
  have hnr : ob ≠ r := fun e => k.rg.ne e.symm
  refine ⟨hrg, k.hs, k.at', k.mp.fr hf hnr, fun y hy => k.lh y (by simp at hy; exact hy.1), fun y hy hl => ?_, ?_, by have := k.nn; omega, k.z.trans (hf.below (fun j hj => by subst hj; exact k.zr) k.z.size), k.zr⟩
  · by_cases e : y = x
    · subst e; omega
    · have h2 : (kb y).sameKey (kb x) = false := by
        cases hc : (kb y).sameKey (kb x) with
        | false => rfl
        | true => exact absurd (sameKb.1 hc) e
      have h3 : left (kb y) = false := by
        have h4 : (left (kb y) && !(kb y).sameKey (kb x)) = false := hl
        rw [h2] at h4
        simpa using h4
      have := k.ub y hy h3
      omega
  · by_cases hh : h ≤ f x + 1
    · exact .inr ⟨x, k.lh x hx, by omega⟩
    · rcases k.lb with h1 | ⟨y, hy, h1⟩
      · omega
      · exact .inr ⟨y, hy, by omega⟩
theorem Rh.val (k : Rh w0 w ob r nn D left cnt L f h) {x : ByteArray} (hx : left (kb x) = true) {v : Value} {y : DataW Value × List MemPlace} (hv : heldR v = some y) (hat : ∀ zd, D.atKey (kb x) zd = y.1) : v = .int .i64 (f x) := by
  have h1 := hat (.held (.int .i64 0))
  rw [k.at' x (k.lh x hx)] at h1
  simp [heldR] at hv
  rw [← hv] at h1
  simpa using h1.symm
/-- Every level below the height has somebody. -/
theorem level_some {rs : List Rul} {s : ByteArray → Int} (hs : NLeast rs s) {k : Int} (hk : 0 ≤ k) {q : Rul} (hq : q ∈ rs) (hlt : k < s (hdN q)) : ∃ r ∈ rs, s (hdN r) = k := by
  apply Classical.byContradiction
  intro hno
  have hne : ∀ r ∈ rs, s (hdN r) ≠ k := fun r hr e => hno ⟨r, hr, e⟩
  have hsol : NSol rs (fun x => if k < s x then s x - 1 else s x) := by
    refine ⟨fun r hr => ?_, fun r hr l hl hp hd => ?_⟩
    · have := hs.sol.nn r hr
      show 0 ≤ if k < s (hdN r) then s (hdN r) - 1 else s (hdN r)
      split <;> omega
    · have h1 := hs.sol.le r hr l hl hp hd
      obtain ⟨q', hq', e'⟩ := hd
      have h2 := hne q' hq'
      rw [e'] at h2
      have h3 := hne r hr
      have h4 := Tj.ng_nn (decide (l.1 = 2))
      have h5 : Tj.ng (decide (l.1 = 2)) ≤ 1 := by unfold Tj.ng; split <;> omega
      show (if k < s l.2.1 then s l.2.1 - 1 else s l.2.1) + Tj.ng (decide (l.1 = 2)) ≤ if k < s (hdN r) then s (hdN r) - 1 else s (hdN r)
      split <;> split <;> omega
  have := hs.least _ hsol q hq
  simp only [hlt, if_true] at this
  omega
end Go.Proofs.Ytdmhajeaphnebaa.Gr
namespace Go.Proofs.Ytdmhajeaphnebaa.Gr
open Go.RowKit
open Vl (Fr)
open Tj (memB memB_iff)
variable {w0 w w' : World} {L : List ByteArray} {f : ByteArray → Int}
theorem nodup_lenG {α : Type} : ∀ {l H : List α}, l.Nodup → (∀ x ∈ l, x ∈ H) → l.length ≤ H.length
  | [], _, _, _ => Nat.zero_le _
  | x :: r, H, hn, hs => by
    obtain ⟨h1, h2⟩ := List.nodup_cons.1 hn
    obtain ⟨a, b, rfl⟩ := List.append_of_mem (hs x (by simp))
    have := nodup_lenG (l := r) (H := a ++ b) h2 (fun y hy => by
      have h3 := hs y (by simp [hy])
      have hne : y ≠ x := fun e => h1 (by rw [← e]; exact hy)
      rcases List.mem_append.1 h3 with h | h
      · exact List.mem_append_left _ h
      · rcases List.mem_cons.1 h with h | h
        · exact absurd h hne
        · exact List.mem_append_right _ h)
    simp only [List.length_cons, List.length_append] at this ⊢
    omega
theorem perm_of_sub {α : Type} {l m : List α} (hl : l.Nodup) (hm : m.Nodup) (hs : ∀ x ∈ l, x ∈ m) (hlen : m.length ≤ l.length) : l.Perm m := by
  refine (List.perm_ext_iff_of_nodup hl hm).2 fun x => ⟨hs x, fun hx => ?_⟩
  apply Classical.byContradiction
  intro hn
  have := nodup_lenG (l := x :: l) (H := m) (List.nodup_cons.2 ⟨hn, hl⟩) (fun y hy => by
    rcases List.mem_cons.1 hy with e | h
    · rw [e]; exact hx
    · exact hs y h)
  simp only [List.length_cons] at this
  omega
def bsL (x : ByteArray) : List UInt8 := x.data.toList
theorem bsL_inj {x y : ByteArray} (h : bsL x = bsL y) : x = y := Vl.bytes_ext h
/-- The map's keys are its names. -/
theorem Mp.keys {ob : Nat} (h : Mp w ob L f) {ob' nn : Nat} {D : DataW Value} (hm : w.ownsMap Try.prog 9 heldR ob' nn D) (hs : Maps.size D = L.length) (hh : ∀ x, Maps.has D (kb x) = memB L x) : (strKeys D).Perm (L.map bsL) := by
  obtain ⟨es, rfl, hap, hk⟩ := hm.entries law9
  have hp : (L.map kb).Perm (es.map (·.1)) := by
    refine perm_of_sub ?_ ?_ (fun k hk' => ?_) ?_
    · exact List.Pairwise.map _ (fun a b hab => kb_ne hab) h.nd
    · exact List.Pairwise.map _ (fun a b hab => hab) hap
    · obtain ⟨x, hx, rfl⟩ := List.mem_map.1 hk'
      have h1 := hh x
      rw [memB_iff.2 hx, Maps.has_eq, List.any_eq_true] at h1
      obtain ⟨p, hp, he⟩ := h1
      have : p.1 = kb x := (WideAt.sameKey_iff (kb_lit x)).1 he
      exact List.mem_map.2 ⟨p, hp, this⟩
    · simp only [List.length_map]
      rw [Maps.size_eq] at hs
      omega
  have h2 := (hp.map strOf).symm
  have e1 : (es.map (·.1)).map strOf = strKeys (.map es) := by simp [strKeys]
  have e2 : (L.map kb).map strOf = L.map bsL := by simp [kb, strOf, bsL]
  rw [e1, e2] at h2
  exact h2
def nmRow (L : List ByteArray) : List Value := L.map fun x => .string x
/-- Rows of names, by levels. -/
structure Ns (Wb w : World) (go co h : Nat) (V : Nat → Value) (F : Nat → List ByteArray) : Prop where
  fr : Fr (fun k => k = go) Wb w
  o : w.ownsRow 0 32 1 (.slice (some ⟨go, 0, none⟩) h co) h ((List.range h).map V)
  r : ∀ k, k < h → w.ownsRow 0 9 1 (V k) (F k).length (nmRow (F k))
  ap : ∀ v u, v < h → u < h → v ≠ u → apart (V v) (V u)
  zr : ∀ k, k < h → ∀ b, (V k).ownBlock = some b → Wb.heap.size ≤ b
  lt : go < Wb.heap.size
variable {Wb : World} {go co h : Nat} {V : Nat → Value} {F : Nat → List ByteArray}
theorem Ns.below (k : Ns Wb w go co h V F) (hb : Below w.heap.size w w') : Ns Wb w' go co h V F := by
  have hf : Fr (fun _ => False) w w' := Fr.of_below hb
  have ho : ∀ {e s c : Nat} {x : Value} {xs : List Value}, w.ownsRow 0 e s x c xs → w'.ownsRow 0 e s x c xs := fun {e s c x xs} k => own_of_cell k hf (fun _ hk => hk.elim)
  exact ⟨k.fr.trans hf (fun _ _ h => h.elim), ho k.o, fun v hv => ho (k.r v hv), k.ap, k.zr, k.lt⟩
theorem Ns.push {i : Nat} {x : ByteArray} (k : Ns Wb w go co h V F) (hi : i < h) {w3 : World} {g c : Nat} (k1 : w3.ownsRow 0 9 1 (.slice (some ⟨g, 0, none⟩) ((F i).length + 1) c) ((F i).length + 1) (nmRow (F i) ++ [.string x])) (k2 : Fr (fun b => (V i).ownBlock = some b) w w3) (k3 : Gw w (V i) (.slice (some ⟨g, 0, none⟩) ((F i).length + 1) c)) :
    Ns Wb (w3.setCell ⟨go, i, none⟩ (.slice (some ⟨g, 0, none⟩) ((F i).length + 1) c)) go co h (upd V i (.slice (some ⟨g, 0, none⟩) ((F i).length + 1) c)) (upd F i (F i ++ [x])) := by
  have hi2 := k.r i hi
  have o3 : w3.ownsRow 0 32 1 (.slice (some ⟨go, 0, none⟩) h co) h ((List.range h).map V) := own_of_cell k.o k2 (fun b hb => Vl.own_ne hi2 k.o (by decide) hb)
  have o4 := own_set (j := i) o3 (.slice (some ⟨g, 0, none⟩) ((F i).length + 1) c)
  rw [range_set] at o4
  have hf4 : Fr (fun b => b = go) w3 (w3.setCell ⟨go, i, none⟩ (.slice (some ⟨g, 0, none⟩) ((F i).length + 1) c)) := Vl.Fr.one _ _ _ _
  have hg : ∀ {s c' : Nat} {x : Value} {xs : List Value}, w3.ownsRow 0 9 s x c' xs → (w3.setCell ⟨go, i, none⟩ (.slice (some ⟨g, 0, none⟩) ((F i).length + 1) c)).ownsRow 0 9 s x c' xs := fun {s c' x xs} q => own_of_cell q hf4 (fun b hb hu => by subst hb; exact Vl.own_ne o3 q (by decide) rfl hu)
  have hsz := k.fr.size
  refine ⟨(k.fr.trans k2 (fun b hb hv => ?_)).trans hf4 (fun _ _ e => e), o4, fun v hv => ?_, fun v u hv hu hvu => ?_, fun v hv b hb => ?_, k.lt⟩
  · have := k.zr i hi b hv; omega
  · by_cases e : v = i
    · subst e
      rw [upd_s, upd_s]
      have h1 := hg k1
      have e2 : nmRow (F v) ++ [.string x] = nmRow (F v ++ [x]) := by simp [nmRow]
      rw [e2] at h1
      simpa using h1
    · rw [upd_o _ _ e, upd_o _ _ e]
      exact hg (own_of_cell (k.r v hv) k2 (fun b hb hu => k.ap i v hi hv (Ne.symm e) b hb hu))
  · intro b hb hb'
    by_cases e : v = i
    · subst e
      rw [upd_s] at hb
      rw [upd_o _ _ (Ne.symm hvu)] at hb'
      rcases k3 b hb with h5 | h5
      · exact k.ap v u hv hu hvu b h5 hb'
      · have := own_lt (k.r u hu) hb'; omega
    · rw [upd_o _ _ e] at hb
      by_cases e2 : u = i
      · subst e2
        rw [upd_s] at hb'
        rcases k3 b hb' with h5 | h5
        · exact k.ap v u hv hu hvu b hb h5
        · have := own_lt (k.r v hv) hb; omega
      · rw [upd_o _ _ e2] at hb'
        exact k.ap v u hv hu hvu b hb hb'
  · by_cases e : v = i
    · subst e
      rw [upd_s] at hb
      rcases k3 b hb with h5 | h5
      · exact k.zr v hv b h5
      · omega
    · rw [upd_o _ _ e] at hb
      exact k.zr v hv b hb
/-- The names of a level. -/
def lev (f : ByteArray → Int) (S : List ByteArray) (k : Nat) : List ByteArray := S.filter fun x => decide (f x = (k : Int))
theorem lev_snoc {S : List ByteArray} {x : ByteArray} {i : Nat} (hx : f x = (i : Int)) : upd (lev f S) i (lev f S i ++ [x]) = lev f (S ++ [x]) := by
  funext k
  simp only [upd, lev, List.filter_append]
  by_cases e : k = i
  · subst e
    simp [hx]
  · rw [if_neg e]
    have : ¬ (f x = (k : Int)) := by rw [hx]; omega
    simp [this]
end Go.Proofs.Ytdmhajeaphnebaa.Gr
namespace Go.Proofs.Ytdmhajeaphnebaa.Gr
open Go.RowKit
open Vl (Fr)
open Tj (memB memB_iff ixN ixN_lt ixN_at)
variable {w : World}
/-- Where a name stands; -1: nowhere. -/
def plc (H : List ByteArray) (s : ByteArray) : Int := if memB H s = true then (ixN H s : Int) else -1
theorem ixN_take : ∀ {H : List ByteArray} {s : ByteArray} {i : Nat}, i < H.length → s ∉ H.take i → H[i]? = some s → ixN H s = i
  | [], _, _, h, _, _ => by simp at h
  | y :: r, s, 0, _, _, h => by simp at h; simp [ixN, h]
  | y :: r, s, i + 1, hl, hn, h => by
    simp only [List.take_succ_cons, List.mem_cons, not_or] at hn
    unfold ixN
    rw [if_neg (fun e => hn.1 e.symm), ixN_take (by simpa using hl) hn.2 (by simpa using h)]
set_option maxHeartbeats 2000000 in
theorem place_any {v : Value} {H : List ByteArray} (h : w.ownsRow 0 9 1 v H.length (nmRow H)) (hl : H.length ≤ 100000) (s : ByteArray) :
    Calls Try.prog 21 #[v, .string s] w fun e w' => e = .returned (.int .i64 (plc H s)) ∧ w' = w := by
  obtain ⟨ao, cap, rfl⟩ := own_sl h
  have HH := hide h
  have hlI : (H.length : Int) ≤ 100000 := by omega
  clear h
  go_enter Try.func21, Try.ntmps21
  go_wp2_with fail
  go_loopw [5] (fun iv wr => ∃ i : Nat, iv = .int .i64 (i : Int) ∧ i ≤ H.length ∧ Hid (s ∉ H.take i) ∧ wr = w) (fun iv _ => H.length - (intOf iv).toNat)
  case atStart => exact ⟨0, rfl, Nat.zero_le _, by show _ ∉ _; simp, rfl⟩
  case round =>
    obtain ⟨i, rfl, hi, HI, hwr⟩ := hrel
    have hwr' := hwr.symm
    subst hwr'
    clear hwr
    by_cases hlt : i < H.length
    · have hltI : (i : Int) < (H.length : Int) := by omega
      obtain ⟨g, c, e, _, _, hc, _⟩ := own_open HH.out (by omega)
      simp only [Value.slice.injEq] at e
      obtain ⟨rfl, _, rfl⟩ := e
      have hx : w.cell? ⟨g, i, none⟩ = some (.string H[i]) := (hc i (by omega)).trans (by simp [nmRow, hlt])
      have htk : H.take (i + 1) = H.take i ++ [H[i]] := List.take_succ_eq_append_getElem hlt
      have hgi : H[i]? = some H[i] := List.getElem?_eq_getElem hlt
      clear hc
      generalize H[i] = nm at *
      cases hb : (nm.toList == s.toList) with
      | true =>
        have e : nm = s := ba_eq.1 hb
        have HE : Hid (plc H s = (i : Int)) := by
          show _ = _
          rw [plc, if_pos (memB_iff.2 (List.mem_of_getElem? (by rw [← e]; exact hgi))), ixN_take hlt HI.out (by rw [← e]; exact hgi)]
        clear e htk hgi
        go_wp2_with fail
        go_ret
        exact ⟨by rw [HE.out]; rfl, rfl⟩
      | false =>
        have HE : Hid (s ∉ H.take (i + 1)) := by
          show _ ∉ _
          rw [htk]
          intro h
          rcases List.mem_append.1 h with h | h
          · exact HI.out h
          · have e : s = nm := by simpa using h
            rw [ba_eq.2 e.symm] at hb
            cases hb
        clear htk hgi
        go_wp2_with fail
        refine ⟨⟨i + 1, by simp, by omega, HE, trivial⟩, ?_⟩
        show H.length - (intOf (.int .i64 ((i : Int) + 1))).toNat < H.length - (intOf (.int .i64 (i : Int))).toNat
        simp [intOf]
        omega
    · have hie : i = H.length := by omega
      have hge : ¬ ((i : Int) < (H.length : Int)) := by omega
      have HE : Hid (plc H s = -1) := by
        show _ = _
        have h := HI.out
        rw [hie, List.take_length] at h
        rw [plc, if_neg (fun e => h (memB_iff.1 e))]
      go_wp2_with fail
      go_ret
      exact ⟨by rw [HE.out]; rfl, rfl⟩
end Go.Proofs.Ytdmhajeaphnebaa.Gr
namespace Go.Proofs.Ytdmhajeaphnebaa.Gr
open Go.RowKit
open Vl (Fr)
open Sy (isRs isRs_below isLs isLs_cells Rul OkR)
open Rp (isRs_cells isRs_shape)
open Tj (memB memB_iff ixN ixN_lt ixN_inj hdN ndOf ndOf_mem ndB nd1 nd1_mem isP idsOf idsOf_len heads_ids Back BackN Rch)
variable {w0 w w' : World} {rs : List Rul}
/-- A name needs another one. -/
def Edg (rs : List Rul) (a b : ByteArray) : Prop := ∃ r ∈ rs, hdN r = a ∧ ∃ l ∈ r.2, isP l ∧ l.2.1 = b ∧ b ∈ idsOf rs
inductive Rcn (rs : List Rul) : ByteArray → ByteArray → Prop
  | refl (a : ByteArray) : Rcn rs a a
  | step {a b c : ByteArray} : Edg rs a b → Rcn rs b c → Rcn rs a c
theorem Rcn.trans {a b c : ByteArray} (h : Rcn rs a b) (k : Rcn rs b c) : Rcn rs a c := by
  induction h with
  | refl => exact k
  | step h1 _ ih => exact .step h1 (ih k)
def Bkn (rs : List Rul) (a : ByteArray) : Prop := ∃ b, Edg rs a b ∧ Rcn rs b a
theorem edge_nd {a b : ByteArray} (h : Edg rs a b) : ∃ e ∈ ndOf (idsOf rs) rs (ixN (idsOf rs) a), e.1 = ixN (idsOf rs) b := by
  obtain ⟨r, hr, ha, l, hl, hp, hb, hm⟩ := h
  exact ⟨_, ndOf_mem.2 ⟨r, hr, by rw [ha], l, hl, hp, by rw [hb]; exact hm, rfl⟩, by rw [hb]⟩
theorem nd_edge {a : ByteArray} (ha : a ∈ idsOf rs) {e : Nat × Bool} (he : e ∈ ndOf (idsOf rs) rs (ixN (idsOf rs) a)) : ∃ b, Edg rs a b ∧ e.1 = ixN (idsOf rs) b := by
  obtain ⟨r, hr, hv, l, hl, hp, hm, rfl⟩ := ndOf_mem.1 he
  exact ⟨l.2.1, ⟨r, hr, ixN_inj (((heads_ids rs).mem _).2 ⟨r, hr, rfl⟩) ha hv, l, hl, hp, rfl, hm⟩, rfl⟩
theorem rcn_rch {a b : ByteArray} (h : Rcn rs a b) : Rch (ndOf (idsOf rs) rs) (ixN (idsOf rs) a) (ixN (idsOf rs) b) := by
  induction h with
  | refl => exact .refl _
  | step h1 _ ih =>
    obtain ⟨e, he, e1⟩ := edge_nd h1
    exact .step he (by rw [e1]; exact ih)
theorem rch_rcn {u v : Nat} (h : Rch (ndOf (idsOf rs) rs) u v) : ∀ a ∈ idsOf rs, u = ixN (idsOf rs) a → ∃ b ∈ idsOf rs, v = ixN (idsOf rs) b ∧ Rcn rs a b := by
  induction h with
  | refl u => exact fun a ha e => ⟨a, ha, e, .refl _⟩
  | @step u v e he _ ih =>
    intro a ha eu
    rw [eu] at he
    obtain ⟨b, hb, e1⟩ := nd_edge ha he
    obtain ⟨c, hc, e2, h2⟩ := ih b (by obtain ⟨_, _, _, _, _, _, _, hm⟩ := hb; exact hm) e1
    exact ⟨c, hc, e2, .step hb h2⟩
theorem bkn_iff {a : ByteArray} : Bkn rs a ↔ BackN rs a := by
  constructor
  · rintro ⟨b, hb, hr⟩
    have ha : a ∈ idsOf rs := by
      obtain ⟨r, hr, h, _⟩ := hb
      exact ((heads_ids rs).mem _).2 ⟨r, hr, h⟩
    obtain ⟨e, he, e1⟩ := edge_nd hb
    exact ⟨ha, e, he, by rw [e1]; exact rcn_rch hr⟩
  · rintro ⟨ha, e, he, hr⟩
    obtain ⟨b, hb, e1⟩ := nd_edge ha he
    have hbm : b ∈ idsOf rs := by obtain ⟨_, _, _, _, _, _, _, hm⟩ := hb; exact hm
    obtain ⟨c, hc, e2, h2⟩ := rch_rcn hr b hbm e1
    have : c = a := ixN_inj hc ha e2.symm
    rw [this] at h2
    exact ⟨b, hb, h2⟩
/-- A search by names: who was seen, who still waits; of x the rules ahead of i are gone through, and of the i-th the first j literals. -/
structure Sn (rs : List Rul) (a : ByteArray) (seen wait : List ByteArray) : Prop where
  from' : ∀ x, x ∈ seen → ∃ b, Edg rs a b ∧ Rcn rs b x
  wt : ∀ x ∈ wait, x = a ∨ x ∈ seen
  sm : ∀ x ∈ seen, x ∈ idsOf rs
  nd : seen.Nodup
structure Sx (rs : List Rul) (a : ByteArray) (seen wait : List ByteArray) (P : ByteArray → ByteArray → Prop) : Prop where
  s : Sn rs a seen wait
  dn : ∀ x, (x = a ∨ x ∈ seen) → x ∉ wait → ∀ b, Edg rs x b → P x b ∨ (b ≠ a ∧ b ∈ seen)
variable {a x0 : ByteArray} {seen wait : List ByteArray}
/-- What is still to be gone through of x0: behind the j-th literal of the i-th rule. -/
def pend (rs : List Rul) (i j : Nat) (x0 : ByteArray) : ByteArray → ByteArray → Prop := fun x b => x = x0 ∧ ∃ k, ∃ hk : k < rs.length, hdN rs[k] = x0 ∧ ∃ m, ∃ hm : m < rs[k].2.length, isP rs[k].2[m] ∧ rs[k].2[m].2.1 = b ∧ b ∈ idsOf rs ∧ (i < k ∨ (i = k ∧ j ≤ m))
theorem pend_zero {b : ByteArray} (h : Edg rs x0 b) : pend rs 0 0 x0 x0 b := by
  obtain ⟨r, hr, h1, l, hl, h2, h3, h4⟩ := h
  obtain ⟨k, hk, rfl⟩ := List.mem_iff_getElem.1 hr
  obtain ⟨m, hm, rfl⟩ := List.mem_iff_getElem.1 hl
  exact ⟨rfl, k, hk, h1, m, hm, h2, h3, h4, by omega⟩
theorem pend_next {i j : Nat} (hi : i < rs.length) (hj : j < rs[i].2.length) {x b : ByteArray} (h : pend rs i j x0 x b) : pend rs i (j + 1) x0 x b ∨ (isP rs[i].2[j] ∧ rs[i].2[j].2.1 = b ∧ b ∈ idsOf rs ∧ x = x0) := by
  obtain ⟨h0, k, hk, h1, m, hm, h2, h3, h4, h5⟩ := h
  by_cases e : i = k ∧ j = m
  · obtain ⟨rfl, rfl⟩ := e
    exact .inr ⟨h2, h3, h4, h0⟩
  · exact .inl ⟨h0, k, hk, h1, m, hm, h2, h3, h4, by omega⟩
theorem pend_rule {i j : Nat} (hi : i < rs.length) (hj : rs[i].2.length ≤ j ∨ hdN rs[i] ≠ x0) {x b : ByteArray} (h : pend rs i j x0 x b) : pend rs (i + 1) 0 x0 x b := by
  obtain ⟨h0, k, hk, h1, m, hm, h2, h3, h4, h5⟩ := h
  refine ⟨h0, k, hk, h1, m, hm, h2, h3, h4, ?_⟩
  rcases h5 with h5 | ⟨e, h5⟩
  · omega
  · subst e
    rcases hj with hj | hj
    · omega
    · exact absurd h1 hj
theorem pend_end {i j : Nat} (hi : rs.length ≤ i) {x b : ByteArray} (h : pend rs i j x0 x b) : False := by
  obtain ⟨_, k, hk, _, _, _, _, _, _, h5⟩ := h
  omega
theorem Sx.start (rs : List Rul) (a : ByteArray) : Sx rs a [] [a] (fun _ _ => False) :=
  ⟨⟨fun _ h => (List.not_mem_nil h).elim, fun x hx => .inl (by simpa using hx), fun _ h => (List.not_mem_nil h).elim, List.nodup_nil⟩, fun x hx hn => by
    rcases hx with e | e
    · exact absurd (by simp [e]) hn
    · exact (List.not_mem_nil e).elim⟩
theorem Sx.pop (h : Sx rs a seen (x0 :: wait) (fun _ _ => False)) : Sx rs a seen wait (pend rs 0 0 x0) ∧ (x0 = a ∨ x0 ∈ seen) := by
  refine ⟨⟨⟨h.s.from', fun x hx => h.s.wt x (by simp [hx]), h.s.sm, h.s.nd⟩, fun x hx hn b hb => ?_⟩, h.s.wt x0 (by simp)⟩
  by_cases e : x = x0
  · subst e; exact .inl (pend_zero hb)
  · exact .inr ((h.dn x hx (by simp [e, hn]) b hb).resolve_left id)
theorem Sx.imp {P Q : ByteArray → ByteArray → Prop} (h : Sx rs a seen wait P) (hpq : ∀ x b, P x b → Q x b ∨ (b ≠ a ∧ b ∈ seen)) : Sx rs a seen wait Q :=
  ⟨h.s, fun x hx hn b hb => (h.dn x hx hn b hb).elim (hpq x b) .inr⟩
theorem Sx.push {P Q : ByteArray → ByteArray → Prop} {b0 : ByteArray} (h : Sx rs a seen wait P) (hx : x0 = a ∨ x0 ∈ seen) (he : Edg rs x0 b0) (hne : b0 ≠ a) (hns : b0 ∉ seen) (hpq : ∀ x b, P x b → Q x b ∨ b = b0) : Sx rs a (seen ++ [b0]) (wait ++ [b0]) Q := by
  have hm : b0 ∈ idsOf rs := by obtain ⟨_, _, _, _, _, _, _, hm⟩ := he; exact hm
  refine ⟨⟨fun x hx' => ?_, fun x hx' => ?_, fun x hx' => ?_, ?_⟩, fun x hx' hn b hb => ?_⟩
  · rcases List.mem_append.1 hx' with h1 | h1
    · exact h.s.from' x h1
    · have e : x = b0 := by simpa using h1
      rw [e]
      rcases hx with e0 | e0
      · rw [e0] at he; exact ⟨b0, he, .refl _⟩
      · obtain ⟨b1, h2, h3⟩ := h.s.from' x0 e0
        exact ⟨b1, h2, h3.trans (.step he (.refl _))⟩
  · rcases List.mem_append.1 hx' with h1 | h1
    · exact (h.s.wt x h1).imp id (fun k => List.mem_append_left _ k)
    · exact .inr (List.mem_append_right _ h1)
  · rcases List.mem_append.1 hx' with h1 | h1
    · exact h.s.sm x h1
    · have e : x = b0 := by simpa using h1
      rw [e]; exact hm
  · refine List.nodup_append.2 ⟨h.s.nd, by simp, fun y hy z hz => ?_⟩
    have e : z = b0 := by simpa using hz
    rw [e]
    exact fun e' => hns (by rw [← e']; exact hy)
  · have hx2 : x = a ∨ x ∈ seen := by
      rcases hx' with e | e
      · exact .inl e
      · rcases List.mem_append.1 e with h1 | h1
        · exact .inr h1
        · exact absurd (List.mem_append_right _ h1) hn
    rcases h.dn x hx2 (fun h' => hn (List.mem_append_left _ h')) b hb with h1 | ⟨h1, h2⟩
    · rcases hpq x b h1 with h2 | h2
      · exact .inl h2
      · exact .inr ⟨by rw [h2]; exact hne, by rw [h2]; simp⟩
    · exact .inr ⟨h1, List.mem_append_left _ h2⟩
theorem Sx.found {P : ByteArray → ByteArray → Prop} (h : Sx rs a seen wait P) (hx : x0 = a ∨ x0 ∈ seen) (he : Edg rs x0 a) : Bkn rs a := by
  rcases hx with e | e
  · rw [e] at he; exact ⟨a, he, .refl _⟩
  · obtain ⟨b, h1, h2⟩ := h.s.from' x0 e
    exact ⟨b, h1, h2.trans (.step he (.refl _))⟩
theorem Sx.none (h : Sx rs a seen [] (fun _ _ => False)) : ¬ Bkn rs a := by
  have step : ∀ x, (x = a ∨ x ∈ seen) → ∀ b, Edg rs x b → b ≠ a ∧ b ∈ seen := fun x hx b hb => (h.dn x hx (by simp) b hb).resolve_left id
  have key : ∀ x y, Rcn rs x y → x ∈ seen → x ≠ a → y ∈ seen ∧ y ≠ a := by
    intro x y r
    induction r with
    | refl => exact fun h1 h2 => ⟨h1, h2⟩
    | @step x y z hb _ ih =>
      intro h1 _
      obtain ⟨k1, k2⟩ := step x (.inr h1) y hb
      exact ih k2 k1
  rintro ⟨b, hb, r⟩
  obtain ⟨k1, k2⟩ := step a (.inl rfl) b hb
  exact (key b a r k2 k1).2 rfl
end Go.Proofs.Ytdmhajeaphnebaa.Gr
namespace Go.Proofs.Ytdmhajeaphnebaa.Ck
open Go.RowKit
open Lx (Wd tx bs scanL scanL_nil scanL_cons blankN sizeL kindL scanAt)
open Vl (Tm Fr)
open Sy

theorem beg_s1 : scanL [112, 32, 58, 45, 32, 33, 113, 46, 32, 113, 32, 58, 45, 32, 114, 46, 32, 115, 32, 58, 45, 32, 115, 46] 0 = some [(1, [112], 0), (4, [58, 45], 2), (4, [33], 5), (1, [113], 6), (4, [46], 7), (1, [113], 9), (4, [58, 45], 11), (1, [114], 14), (4, [46], 15), (1, [115], 17), (4, [58, 45], 19), (1, [115], 22), (4, [46], 23)] := by
  have s23 := step_word 46 [] 23 1 4 [46] _ _ (by decide) (by decide) (by decide) (by decide) rfl (by decide) rfl (scanL_nil 24)
  have s22 := step_word 115 [46] 22 1 1 [115] _ _ (by decide) (by decide) (by decide) (by decide) rfl (by decide) rfl s23
  have s21 := step_blank 32 [115, 46] 21 _ (by decide) s22
  have s19 := step_word 58 [45, 32, 115, 46] 19 2 4 [58, 45] _ _ (by decide) (by decide) (by decide) (by decide) rfl (by decide) rfl s21
  have s18 := step_blank 32 [58, 45, 32, 115, 46] 18 _ (by decide) s19
  have s17 := step_word 115 [32, 58, 45, 32, 115, 46] 17 1 1 [115] _ _ (by decide) (by decide) (by decide) (by decide) rfl (by decide) rfl s18
  have s16 := step_blank 32 [115, 32, 58, 45, 32, 115, 46] 16 _ (by decide) s17
  have s15 := step_word 46 [32, 115, 32, 58, 45, 32, 115, 46] 15 1 4 [46] _ _ (by decide) (by decide) (by decide) (by decide) rfl (by decide) rfl s16
  have s14 := step_word 114 [46, 32, 115, 32, 58, 45, 32, 115, 46] 14 1 1 [114] _ _ (by decide) (by decide) (by decide) (by decide) rfl (by decide) rfl s15
  have s13 := step_blank 32 [114, 46, 32, 115, 32, 58, 45, 32, 115, 46] 13 _ (by decide) s14
  have s11 := step_word 58 [45, 32, 114, 46, 32, 115, 32, 58, 45, 32, 115, 46] 11 2 4 [58, 45] _ _ (by decide) (by decide) (by decide) (by decide) rfl (by decide) rfl s13
  have s10 := step_blank 32 [58, 45, 32, 114, 46, 32, 115, 32, 58, 45, 32, 115, 46] 10 _ (by decide) s11
  have s9 := step_word 113 [32, 58, 45, 32, 114, 46, 32, 115, 32, 58, 45, 32, 115, 46] 9 1 1 [113] _ _ (by decide) (by decide) (by decide) (by decide) rfl (by decide) rfl s10
  have s8 := step_blank 32 [113, 32, 58, 45, 32, 114, 46, 32, 115, 32, 58, 45, 32, 115, 46] 8 _ (by decide) s9
  have s7 := step_word 46 [32, 113, 32, 58, 45, 32, 114, 46, 32, 115, 32, 58, 45, 32, 115, 46] 7 1 4 [46] _ _ (by decide) (by decide) (by decide) (by decide) rfl (by decide) rfl s8
  have s6 := step_word 113 [46, 32, 113, 32, 58, 45, 32, 114, 46, 32, 115, 32, 58, 45, 32, 115, 46] 6 1 1 [113] _ _ (by decide) (by decide) (by decide) (by decide) rfl (by decide) rfl s7
  have s5 := step_word 33 [113, 46, 32, 113, 32, 58, 45, 32, 114, 46, 32, 115, 32, 58, 45, 32, 115, 46] 5 1 4 [33] _ _ (by decide) (by decide) (by decide) (by decide) rfl (by decide) rfl s6
  have s4 := step_blank 32 [33, 113, 46, 32, 113, 32, 58, 45, 32, 114, 46, 32, 115, 32, 58, 45, 32, 115, 46] 4 _ (by decide) s5
  have s2 := step_word 58 [45, 32, 33, 113, 46, 32, 113, 32, 58, 45, 32, 114, 46, 32, 115, 32, 58, 45, 32, 115, 46] 2 2 4 [58, 45] _ _ (by decide) (by decide) (by decide) (by decide) rfl (by decide) rfl s4
  have s1 := step_blank 32 [58, 45, 32, 33, 113, 46, 32, 113, 32, 58, 45, 32, 114, 46, 32, 115, 32, 58, 45, 32, 115, 46] 1 _ (by decide) s2
  have s0 := step_word 112 [32, 58, 45, 32, 33, 113, 46, 32, 113, 32, 58, 45, 32, 114, 46, 32, 115, 32, 58, 45, 32, 115, 46] 0 1 1 [112] _ _ (by decide) (by decide) (by decide) (by decide) rfl (by decide) rfl s1
  exact s0

def begT1 : ByteArray := ⟨#[112, 32, 58, 45, 32, 33, 113, 46, 32, 113, 32, 58, 45, 32, 114, 46, 32, 115, 32, 58, 45, 32, 115, 46]⟩
def begR1 : List Rul := [((1, tx [112], []), [(2, tx [113], [])]), ((1, tx [113], []), [(1, tx [114], [])]), ((1, tx [115], []), [(1, tx [115], [])])]
theorem beg_p1 : progL 30 [(1, [112], 0), (4, [58, 45], 2), (4, [33], 5), (1, [113], 6), (4, [46], 7), (1, [113], 9), (4, [58, 45], 11), (1, [114], 14), (4, [46], 15), (1, [115], 17), (4, [58, 45], 19), (1, [115], 22), (4, [46], 23)] = .ok begR1 := by kernel_rfl
theorem beg_rules1 : rulesS begT1 = begR1 := by
  have h1 : wordsL (bs begT1) = [(1, [112], 0), (4, [58, 45], 2), (4, [33], 5), (1, [113], 6), (4, [46], 7), (1, [113], 9), (4, [58, 45], 11), (1, [114], 14), (4, [46], 15), (1, [115], 17), (4, [58, 45], 19), (1, [115], 22), (4, [46], 23)] := by
    have h2 : scanAt (bs begT1) 0 = some [(1, [112], 0), (4, [58, 45], 2), (4, [33], 5), (1, [113], 6), (4, [46], 7), (1, [113], 9), (4, [58, 45], 11), (1, [114], 14), (4, [46], 15), (1, [115], 17), (4, [58, 45], 19), (1, [115], 22), (4, [46], 23)] := beg_s1
    rw [wordsL, h2]
  have h3 : Lx.cutS begT1 1200 = begT1 := by kernel_rfl
  rw [rulesS, h3, h1, beg_p1]
  rfl

theorem beg_s2 : scanL [112, 32, 58, 45, 32, 33, 112, 46] 0 = some [(1, [112], 0), (4, [58, 45], 2), (4, [33], 5), (1, [112], 6), (4, [46], 7)] := by
  have s7 := step_word 46 [] 7 1 4 [46] _ _ (by decide) (by decide) (by decide) (by decide) rfl (by decide) rfl (scanL_nil 8)
  have s6 := step_word 112 [46] 6 1 1 [112] _ _ (by decide) (by decide) (by decide) (by decide) rfl (by decide) rfl s7
  have s5 := step_word 33 [112, 46] 5 1 4 [33] _ _ (by decide) (by decide) (by decide) (by decide) rfl (by decide) rfl s6
  have s4 := step_blank 32 [33, 112, 46] 4 _ (by decide) s5
  have s2 := step_word 58 [45, 32, 33, 112, 46] 2 2 4 [58, 45] _ _ (by decide) (by decide) (by decide) (by decide) rfl (by decide) rfl s4
  have s1 := step_blank 32 [58, 45, 32, 33, 112, 46] 1 _ (by decide) s2
  have s0 := step_word 112 [32, 58, 45, 32, 33, 112, 46] 0 1 1 [112] _ _ (by decide) (by decide) (by decide) (by decide) rfl (by decide) rfl s1
  exact s0

def begT2 : ByteArray := ⟨#[112, 32, 58, 45, 32, 33, 112, 46]⟩
def begR2 : List Rul := [((1, tx [112], []), [(2, tx [112], [])])]
theorem beg_p2 : progL 30 [(1, [112], 0), (4, [58, 45], 2), (4, [33], 5), (1, [112], 6), (4, [46], 7)] = .ok begR2 := by kernel_rfl
theorem beg_rules2 : rulesS begT2 = begR2 := by
  have h1 : wordsL (bs begT2) = [(1, [112], 0), (4, [58, 45], 2), (4, [33], 5), (1, [112], 6), (4, [46], 7)] := by
    have h2 : scanAt (bs begT2) 0 = some [(1, [112], 0), (4, [58, 45], 2), (4, [33], 5), (1, [112], 6), (4, [46], 7)] := beg_s2
    rw [wordsL, h2]
  have h3 : Lx.cutS begT2 1200 = begT2 := by kernel_rfl
  rw [rulesS, h3, h1, beg_p2]
  rfl

theorem read_ok (s : ByteArray) : (rulesS s).length ≤ 30 ∧ ∀ q ∈ rulesS s, OkR q := by
  unfold rulesS
  have hw := Sh.of (words_ok (bs (Lx.cutS s 1200))).1
  cases h : progL 30 (wordsL (bs (Lx.cutS s 1200))) with
  | error e => exact ⟨by simp [okRs], by simp [okRs]⟩
  | ok l =>
    obtain ⟨h1, h2⟩ := progL_ok 30 _ l hw h
    exact ⟨h1, fun q hq => (h2 q hq).1⟩

end Go.Proofs.Ytdmhajeaphnebaa.Ck
namespace Go.Proofs.Ytdmhajeaphnebaa.Gr
open Tj (NSol NLeast hdN idsOf heads_ids ng isP BackN)
open Lx (tx)
open Ck (begR1 begR2)
theorem ids1 : idsOf begR1 = [tx [112], tx [113], tx [115]] := by kernel_rfl
theorem ids2 : idsOf begR2 = [tx [112]] := by kernel_rfl
theorem nsol2 (t : ByteArray → Int) : ¬ NSol begR2 t := fun h => by
  have this : t (tx [112]) + ng (decide ((2 : Int) = 2)) ≤ t (tx [112]) := h.le ((1, tx [112], []), [(2, tx [112], [])]) (List.mem_singleton.2 rfl) (2, tx [112], []) (List.mem_singleton.2 rfl) (.inr rfl) ⟨((1, tx [112], []), [(2, tx [112], [])]), List.mem_singleton.2 rfl, rfl⟩
  have e : ng (decide ((2 : Int) = 2)) = 1 := rfl
  rw [e] at this
  omega
theorem nsol1 : NSol begR1 (fun x => if x = tx [112] then 1 else 0) := by
  have hpq : ¬ (tx [113] = tx [112]) := by decide
  have hps : ¬ (tx [115] = tx [112]) := by decide
  have hpr : ¬ (tx [114] = tx [112]) := by decide
  refine ⟨fun r _ => by show (0 : Int) ≤ if _ then _ else _; split <;> omega, fun r hr l hl hp _ => ?_⟩
  rcases List.mem_cons.1 hr with rfl | hr
  · have : l = (2, tx [113], []) := List.mem_singleton.1 hl
    subst this
    show (if tx [113] = tx [112] then (1 : Int) else 0) + ng (decide ((2 : Int) = 2)) ≤ if tx [112] = tx [112] then 1 else 0
    rw [if_neg hpq, if_pos rfl]
    decide
  · rcases List.mem_cons.1 hr with rfl | hr
    · have : l = (1, tx [114], []) := List.mem_singleton.1 hl
      subst this
      show (if tx [114] = tx [112] then (1 : Int) else 0) + ng (decide ((1 : Int) = 2)) ≤ if tx [113] = tx [112] then 1 else 0
      rw [if_neg hpr, if_neg hpq]
      decide
    · have : r = ((1, tx [115], []), [(1, tx [115], [])]) := List.mem_singleton.1 hr
      subst this
      have : l = (1, tx [115], []) := List.mem_singleton.1 hl
      subst this
      show (if tx [115] = tx [112] then (1 : Int) else 0) + ng (decide ((1 : Int) = 2)) ≤ if tx [115] = tx [112] then 1 else 0
      rw [if_neg hps]
      decide
theorem least1 {s : ByteArray → Int} (h : NLeast begR1 s) : s (tx [112]) = 1 ∧ s (tx [113]) = 0 ∧ s (tx [115]) = 0 := by
  have hpq : ¬ (tx [113] = tx [112]) := by decide
  have hps : ¬ (tx [115] = tx [112]) := by decide
  have m1 : ((1, tx [112], []), [(2, tx [113], [])]) ∈ begR1 := by simp [begR1]
  have m2 : ((1, tx [113], []), [(1, tx [114], [])]) ∈ begR1 := by simp [begR1]
  have m3 : ((1, tx [115], []), [(1, tx [115], [])]) ∈ begR1 := by simp [begR1]
  have l1 : s (tx [112]) ≤ (if tx [112] = tx [112] then (1 : Int) else 0) := h.least _ nsol1 _ m1
  have l2 : s (tx [113]) ≤ (if tx [113] = tx [112] then (1 : Int) else 0) := h.least _ nsol1 _ m2
  have l3 : s (tx [115]) ≤ (if tx [115] = tx [112] then (1 : Int) else 0) := h.least _ nsol1 _ m3
  have n2 : 0 ≤ s (tx [113]) := h.sol.nn _ m2
  have n3 : 0 ≤ s (tx [115]) := h.sol.nn _ m3
  have e1 : s (tx [113]) + ng (decide ((2 : Int) = 2)) ≤ s (tx [112]) := h.sol.le _ m1 (2, tx [113], []) (List.mem_singleton.2 rfl) (.inr rfl) ⟨_, m2, rfl⟩
  have e : ng (decide ((2 : Int) = 2)) = 1 := rfl
  rw [e] at e1
  rw [if_neg hpq] at l2
  rw [if_neg hps] at l3
  rw [if_pos rfl] at l1
  refine ⟨by omega, by omega, by omega⟩
theorem back_s : BackN begR1 (tx [115]) := bkn_iff.1 ⟨tx [115], ⟨((1, tx [115], []), [(1, tx [115], [])]), by simp [begR1], rfl, (1, tx [115], []), by simp, .inl rfl, rfl, by rw [ids1]; simp⟩, .refl _⟩
theorem back_p : ¬ BackN begR1 (tx [112]) := fun h => by
  obtain ⟨b, hb, hr⟩ := bkn_iff.2 h
  have no : ∀ c, ¬ Edg begR1 (tx [113]) c := by
    rintro c ⟨r, hr, h1, l, hl, h2, h3, h4⟩
    rcases List.mem_cons.1 hr with rfl | hr
    · exact absurd h1 (by decide)
    · rcases List.mem_cons.1 hr with rfl | hr
      · have : l = (1, tx [114], []) := List.mem_singleton.1 hl
        subst this
        rw [ids1, ← h3] at h4
        have h5 : Tj.memB [tx [112], tx [113], tx [115]] (tx [114]) = true := Tj.memB_iff.2 h4
        exact absurd h5 (by decide)
      · have : r = ((1, tx [115], []), [(1, tx [115], [])]) := List.mem_singleton.1 hr
        subst this
        exact absurd h1 (by decide)
  obtain ⟨r, hr', h1, l, hl, h2, h3, h4⟩ := hb
  have hbq : b = tx [113] := by
    rcases List.mem_cons.1 hr' with rfl | hr'
    · have : l = (2, tx [113], []) := List.mem_singleton.1 hl
      subst this
      exact h3.symm
    · rcases List.mem_cons.1 hr' with rfl | hr'
      · exact absurd h1 (by decide)
      · have : r = ((1, tx [115], []), [(1, tx [115], [])]) := List.mem_singleton.1 hr'
        subst this
        exact absurd h1 (by decide)
  rw [hbq] at hr
  cases hr with
  | step h5 _ => exact no _ h5
end Go.Proofs.Ytdmhajeaphnebaa.Gr
