/- Plain mathematics: the calls that a log holds, and the state that they make; sizes. No walk. Plain mathematics: what the calls of a log make, one by one. No walk. piece and redo, of a log of one record and a keep of nothing. redo, of a keep of nothing. decode of a call's text; redo, of a keep whatever it holds. -/
import Derived.Test.YtjndgekpdmlbiaaGreatDoorPart14
import Derived.Test.YtjndgekpdmlbiaaGreatDoorPart20
import Derived.Test.YtjndgekpdmlbiaaGreatDoorPart13
import Derived.Test.YtjndgekpdmlbiaaGreatDoorPart03
import Derived.Deep.CutRange
namespace Go.Proofs.YtjndgekpdmlbiaaGreatDoor.Kp
open Bn

abbrev Cal := Bool × Rdy
/-- The record of a call of one piece. -/
def txt (c : Cal) : List UInt8 := fl true ++ encR c.1 c.2
def step1 (s : St) (c : Cal) : Option St := (if c.1 then st0 else s).after c.2
def doAll : St → List Cal → Option St
  | s, [] => some s
  | s, c :: cs => (step1 s c).bind fun t => doAll t cs
theorem doAll_app (cs ds : List Cal) : ∀ s, doAll s (cs ++ ds) = (doAll s cs).bind fun t => doAll t ds := by
  induction cs with
  | nil => intro s; rfl
  | cons c cs ih =>
    intro s
    show ((step1 s c).bind fun t => doAll t (cs ++ ds)) = (((step1 s c).bind fun t => doAll t cs)).bind fun t => doAll t ds
    rw [Option.bind_assoc]
    congr 1
    funext t
    exact ih t
theorem doAll_one (s : St) (c : Cal) : doAll s [c] = step1 s c := by
  show (step1 s c).bind (fun t => some t) = _
  cases step1 s c <;> rfl
/-- Behind each front of the calls there is a state. -/
theorem doAll_front {cs : List Cal} {s t : St} (h : doAll s cs = some t) (k : Nat) (hk : k < cs.length) : ∃ a b, doAll s (cs.take k) = some a ∧ step1 a cs[k] = some b ∧ doAll s (cs.take (k + 1)) = some b := by
  have e1 : cs = cs.take k ++ (cs[k] :: cs.drop (k + 1)) := by simp
  have h' := h
  rw [e1, doAll_app] at h'
  cases ha : doAll s (cs.take k) with
  | none => rw [ha] at h'; cases h'
  | some a =>
    rw [ha] at h'
    have h2 : ((step1 a cs[k]).bind fun t => doAll t (cs.drop (k + 1))) = some t := h'
    cases hb : step1 a cs[k] with
    | none => rw [hb] at h2; cases h2
    | some b =>
      refine ⟨a, b, rfl, hb, ?_⟩
      rw [List.take_succ_eq_append_getElem hk, doAll_app, ha]
      show doAll a [cs[k]] = some b
      rw [doAll_one, hb]

/-- A state without a snapshot whose entries are numbered from 1 on. -/
structure Flat (s : St) : Prop where
  snap : s.snap = ⟨0, 0, [], []⟩
  rises : risesB 1 0 s.ents = true
  ok : I64 s.term ∧ I64 s.vote ∧ ∀ e ∈ s.ents, e.ok
theorem Flat.zero : Flat st0 := ⟨rfl, rfl, ⟨by decide, by decide⟩, ⟨by decide, by decide⟩, fun e he => by simp [st0] at he⟩
def firstOf : List Ent → Int
  | [] => 0
  | e :: _ => e.idx
/-- The call that makes a state out of nothing. -/
def St.whole (s : St) : Rdy := ⟨s.term, s.vote, true, firstOf s.ents, s.ents, none⟩
theorem Flat.first {s : St} (h : Flat s) : (s.ents = [] ∧ firstOf s.ents = 0) ∨ (s.ents ≠ [] ∧ firstOf s.ents = 1) := by
  cases he : s.ents with
  | nil => exact .inl ⟨rfl, rfl⟩
  | cons e es =>
    refine .inr ⟨by simp, ?_⟩
    have := h.rises
    rw [he] at this
    simp only [risesB, Bool.and_eq_true, decide_eq_true_eq] at this
    show e.idx = 1
    omega
theorem Flat.whole_after {s : St} (h : Flat s) : st0.after s.whole = some s := by
  obtain ⟨st, sv, sn, es⟩ := s
  obtain ⟨h1, h2, _⟩ := h
  dsimp only at h1 h2
  subst h1
  unfold St.after St.shot St.put
  cases es with
  | nil => rfl
  | cons e es =>
    have h3 := h2
    simp only [risesB, Bool.and_eq_true, decide_eq_true_eq] at h3
    have he : e.idx = 1 := by omega
    show (if 0 < e.idx then _ else _) = _
    rw [he]
    show (if (St.mayGoOn _ e.idx (e :: es)) = true then some _ else none) = _
    have hm : St.mayGoOn (st0.hard (St.whole ⟨st, sv, ⟨0, 0, [], []⟩, e :: es⟩)) e.idx (e :: es) = true := by
      unfold St.mayGoOn
      rw [he, h2]
      rfl
    rw [if_pos hm]
    show some (St.mk st sv ⟨0, 0, [], []⟩ (List.take (e.idx - 1 - 0).toNat [] ++ (e :: es))) = _
    rw [List.take_nil]
    rfl
theorem Flat.whole_ok {s : St} (h : Flat s) : s.whole.ok := by
  refine ⟨h.ok.1, h.ok.2.1, ?_, h.ok.2.2, fun p hp => by cases hp⟩
  rcases h.first with ⟨_, e⟩ | ⟨_, e⟩
  · show I64 (firstOf s.ents); rw [e]; exact ⟨by decide, by decide⟩
  · show I64 (firstOf s.ents); rw [e]; exact ⟨by decide, by decide⟩

/-- What the state weighs. -/
def wtE (es : List Ent) : Nat := (es.map fun e => 64 + e.data.length).sum
theorem wtE_cons (e : Ent) (es : List Ent) : wtE (e :: es) = 64 + e.data.length + wtE es := by simp [wtE]
theorem wtE_take (es : List Ent) (k : Nat) (h : k < es.length) : wtE (es.take (k + 1)) = wtE (es.take k) + (64 + es[k].data.length) := by
  rw [List.take_succ_eq_append_getElem h, wtE, wtE, List.map_append, List.sum_append]
  simp
theorem esz_mul (es : List Ent) (h : ∀ e ∈ es, e.data = []) : esz es = 40 * es.length := by
  induction es with
  | nil => rfl
  | cons e es ih =>
    have h1 := ih fun x hx => h x (by simp [hx])
    have h2 := h e (by simp)
    simp only [esz, List.map_cons, List.sum_cons, List.length_cons, h2, List.length_nil] at h1 ⊢
    omega
theorem encR_le (an : Bool) (r : Rdy) (hs : r.snap = none) (h : ∀ e ∈ r.ents, e.data = []) : (encR an r).length ≤ 40 + 40 * r.ents.length := by
  have h1 : (encH r).length ≤ 20 := by
    unfold encH
    split
    · have := enc_le r.term; have := enc_le r.vote; simp only [List.length_append]; omega
    · simp
  have h2 : (encL r).length ≤ 10 + 40 * r.ents.length := by
    unfold encL
    split
    · have := enc_le r.first
      have h3 := flat_le r.ents
      rw [esz_mul _ h] at h3
      simp only [List.length_append]
      omega
    · simp
  unfold encR encP
  rw [hs]
  simp only [List.length_append, fl, List.length_singleton, List.length_nil]
  omega

/-- A file is as long as its records. -/
theorem fileB_len (first : Int) (h0 : 0 ≤ first) : ∀ (ds : List (List UInt8)), (∀ d ∈ ds, d.length ≤ 32768) → first + ds.length ≤ 4611686018427387904 → (Wl.fileB first ds).length ≤ (ds.map fun d => d.length + 28).sum := by
  intro ds
  induction ds generalizing first with
  | nil => intro _ _; simp [Wl.fileB]
  | cons d ds ih =>
    intro h hb
    simp only [List.length_cons] at hb
    have h1 := Wl.recB_size first d ⟨by omega, by omega⟩ (h d (by simp))
    have h2 := ih (first + 1) (by omega) (fun x hx => h x (by simp [hx])) (by omega)
    simp only [Wl.fileB, List.length_append, List.map_cons, List.sum_cons]
    omega
end Go.Proofs.YtjndgekpdmlbiaaGreatDoor.Kp
namespace Go.Proofs.YtjndgekpdmlbiaaGreatDoor.Kp
open Bn

/-- A call as it may stand in a log. -/
structure CallOk (c : Cal) : Prop where
  saved : c.2.saved = true
  snap : c.2.snap = none
  ok : c.2.ok
  small : ∀ e ∈ c.2.ents, e.data.length ≤ 8192
  len : (encR c.1 c.2).length ≤ 32767
theorem after_snap {s s' : St} {r : Rdy} (hr : r.snap = none) (h : s.after r = some s') : s'.snap = s.snap := by
  unfold St.after St.shot at h
  rw [hr] at h
  have h2 : (s.hard r).put r = some s' := h
  have h3 : (s.hard r).snap = s.snap := by unfold St.hard; split <;> rfl
  unfold St.put at h2
  split at h2
  · split at h2
    · cases h2; exact h3
    · cases h2
  · cases h2; exact h3
theorem after_len {s s' : St} {r : Rdy} (hr : r.snap = none) (h : s.after r = some s') : s'.ents.length ≤ s.ents.length + r.ents.length := by
  unfold St.after St.shot at h
  rw [hr] at h
  have h2 : (s.hard r).put r = some s' := h
  have h3 : (s.hard r).ents = s.ents := by unfold St.hard; split <;> rfl
  unfold St.put at h2
  split at h2
  · split at h2
    · cases h2
      unfold St.ahead
      rw [h3]
      simp only [List.length_append, List.length_take]
      omega
    · cases h2
  · cases h2; rw [h3]; omega
def entSum (cs : List Cal) : Nat := (cs.map fun c => c.2.ents.length).sum
theorem step1_facts {s s' : St} {c : Cal} (hs : s.snap = ⟨0, 0, [], []⟩) (hr : c.2.snap = none) (h : step1 s c = some s') : s'.snap = ⟨0, 0, [], []⟩ ∧ s'.ents.length ≤ s.ents.length + c.2.ents.length := by
  unfold step1 at h
  have h1 := after_snap hr h
  have h2 := after_len hr h
  split at h1
  · exact ⟨h1, by
      rename_i hc
      rw [if_pos hc] at h2
      have : st0.ents.length = 0 := rfl
      omega⟩
  · rename_i hc
    rw [if_neg hc] at h2
    exact ⟨by rw [h1]; exact hs, h2⟩
theorem doAll_facts : ∀ (cs : List Cal) (s t : St), s.snap = ⟨0, 0, [], []⟩ → (∀ c ∈ cs, c.2.snap = none) → doAll s cs = some t → t.snap = ⟨0, 0, [], []⟩ ∧ t.ents.length ≤ s.ents.length + entSum cs
  | [], s, t, hs, _, h => by
    cases h
    exact ⟨hs, by simp [entSum]⟩
  | c :: cs, s, t, hs, hc, h => by
    have h' : ((step1 s c).bind fun u => doAll u cs) = some t := h
    cases hb : step1 s c with
    | none => rw [hb] at h'; cases h'
    | some u =>
      rw [hb] at h'
      obtain ⟨f1, f2⟩ := step1_facts hs (hc c (by simp)) hb
      obtain ⟨g1, g2⟩ := doAll_facts cs u t f1 (fun x hx => hc x (by simp [hx])) h'
      refine ⟨g1, ?_⟩
      have : entSum (c :: cs) = c.2.ents.length + entSum cs := by simp [entSum]
      omega
theorem entSum_take (cs : List Cal) (k : Nat) (h : k < cs.length) : entSum (cs.take k) + cs[k].2.ents.length ≤ entSum cs := by
  have e1 : cs = cs.take k ++ (cs[k] :: cs.drop (k + 1)) := by simp
  have e2 : entSum cs = entSum (cs.take k) + (cs[k].2.ents.length + entSum (cs.drop (k + 1))) := by
    conv => lhs; rw [e1]
    unfold entSum
    rw [List.map_append, List.sum_append, List.map_cons, List.sum_cons]
  omega
/-- The state behind k calls, and the next one. -/
theorem doAll_at {cs : List Cal} {σ : St} (hok : ∀ c ∈ cs, CallOk c) (h : doAll st0 cs = some σ) (hsum : entSum cs ≤ 1000000) (k : Nat) (hk : k < cs.length) :
    ∃ a b, doAll st0 (cs.take k) = some a ∧ step1 a cs[k] = some b ∧ doAll st0 (cs.take (k + 1)) = some b ∧ a.snap = ⟨0, 0, [], []⟩ ∧ a.ents.length + cs[k].2.ents.length ≤ 1000000 := by
  obtain ⟨a, b, h1, h2, h3⟩ := doAll_front h k hk
  obtain ⟨g1, g2⟩ := doAll_facts (cs.take k) st0 a rfl (fun c hc => (hok c (List.mem_of_mem_take hc)).snap) h1
  have := entSum_take cs k hk
  have e0 : st0.ents.length = 0 := rfl
  exact ⟨a, b, h1, h2, h3, g1, by omega⟩
end Go.Proofs.YtjndgekpdmlbiaaGreatDoor.Kp
namespace Go.Proofs.YtjndgekpdmlbiaaGreatDoor.Kp
open Go.RowKit Bn

set_option maxHeartbeats 2000000 in
/-- piece, of a record that ends a call. -/
theorem piece_one {w : World} {kb p pd : Nat} {s : Dk.St} {H : Nat → Prop} (t : List UInt8) (h : Wl.LX w p pd s H 1 [fl true ++ t]) (ck : w.cell? ⟨kb, 7, none⟩ = some (.pointer (some ⟨p, 0, none⟩))) (hl : t.length ≤ 100000) :
    Calls Tryz.prog 51 #[.pointer (some ⟨kb, 0, none⟩), .int .i64 1] w fun e w' => ∃ a n c, e = .returned (.tuple #[.slice a n c, .bool true, .bool true]) ∧ Hid (Sl w' (.slice a n c) t ∧ Below w.heap.size w w') := by
  have HG : Hid (Calls Tryz.prog 81 #[.pointer (some ⟨p, 0, none⟩), .int .i64 1] w fun e w1 => ∃ g n c, e = .returned (.tuple #[.slice (some ⟨g, 0, none⟩) n c, .bool true]) ∧ n = t.length + 1 ∧ n ≤ c ∧ Hid (w1.ownsRow w.heap.size 5 1 (.slice (some ⟨g, 0, none⟩) n c) (fl true ++ t).length (cells8 (fl true ++ t)) ∧ Below w.heap.size w w1)) := by
    obtain ⟨F, hW, _⟩ := h.lw
    have h1 := Wl.get_hit 0 p pd s F 1 [fl true ++ t] 0 w hW (by simp) (by omega) (by simp) (by simp) (by simp [fl]; omega)
    simp only [List.getElem_cons_zero] at h1
    have e1 : (1 : Int) + ((0 : Nat) : Int) = 1 := by omega
    rw [e1] at h1
    refine h1.mono ?_
    rintro e w1 ⟨v1, rfl, hO, hb⟩
    rcases Dk.own_shape hO with ⟨_, h0⟩ | ⟨g, c, rfl, hc, _⟩
    · simp [fl] at h0
    · exact ⟨g, _, c, rfl, by simp [fl], hc, hO, hb⟩
  clear h
  go_enter Tryz.func51, Tryz.ntmps51
  go_wp2_with fail
  refine Calls.mono HG.out ?_
  rintro e w1 ⟨g, n, c, rfl, hn, hnc, HO⟩
  have HN := hide hn
  clear HG hn
  have HR : Hid (Calls Tryz.prog 82 #[.slice (some ⟨g, 0, none⟩) n c] w1 fun e w2 => ∃ B, e = .returned (.pointer (some ⟨B, 0, none⟩)) ∧ Hid (Calls Tryz.prog 83 #[.pointer (some ⟨B, 0, none⟩)] w2 fun e w3 => e = .returned (.bool true) ∧ Hid (Calls Tryz.prog 84 #[.pointer (some ⟨B, 0, none⟩)] w3 fun e w4 => e = .returned (.bool true) ∧ w4 = w3) ∧ Hid (Sl w3 (.slice (some ⟨g, 0, none⟩) n c) (fl true ++ t) ∧ Below w.heap.size w w3))) := by
    have hS := Sl.of_own HO.out.1
    refine (read_any _ _ w1 hS (by have := HN.out; simp [fl]; omega)).mono ?_
    rintro e w2 ⟨B, rfl, hB, hRd, hb2⟩
    refine ⟨B, rfl, ?_⟩
    refine (rflag_any B _ w2 hRd).mono ?_
    rw [rFlag_fl]
    rintro e w3 ⟨rfl, hRd3, hg3⟩
    have hbb : Below w1.heap.size w1 w3 := hb2.grown hg3 hb2.size (fun k hk => by cases hk; exact hB)
    refine ⟨rfl, ok_any B _ w3 hRd3, hS.below hbb, HO.out.2.trans (hbb.mono HO.out.2.size)⟩
  have hn1 : (1 : Int) ≤ (n : Int) := by have := HN.out; omega
  clear HO
  go_wp2_with fail
  refine Calls.mono HR.out ?_
  rintro e w2 ⟨B, rfl, HR2⟩
  clear HR
  go_wp2_with fail
  refine Calls.mono HR2.out ?_
  rintro e w3 ⟨rfl, HR3, HS3⟩
  clear HR2
  go_wp2_with fail
  refine Calls.mono HR3.out ?_
  rintro e w4 ⟨rfl, hw4⟩
  have hw4' := hw4.symm
  subst hw4'
  clear HR3
  by_cases hc1 : c = 1
  · have HE : Hid (Sl w3 (.slice (some ⟨g, 0, none⟩) 0 0) t) := by
      have e1 : n - 1 = 0 := by omega
      have e2 : c - 1 = 0 := by omega
      have h1 := HS3.out.1.drop 1 (by have := HN.out; omega) (some ⟨g, 0, none⟩) (fun h => absurd hc1 h) (fun _ => rfl)
      rw [e1, e2] at h1
      show Sl _ _ _
      simpa [fl] using h1
    subst hc1
    go_wp2_with fail
    refine bodyPost_ret (v := .tuple #[.slice (some ⟨g, 0, none⟩) 0 0, .bool true, .bool true]) (by simp [results, Tryz.results51, go_sem]) rfl ?_
    exact ⟨_, _, _, rfl, HE.out, HS3.out.2⟩
  · have HE : Hid (Sl w3 (.slice (some ⟨g, 1, none⟩) (n - 1) (c - 1)) t) := by
      have h1 := HS3.out.1.drop 1 (by have := HN.out; omega) (some ⟨g, 1, none⟩) (fun _ => rfl) (fun h => absurd h hc1)
      show Sl _ _ _
      simpa [fl] using h1
    go_wp2_with fail
    refine bodyPost_ret (v := .tuple #[.slice (some ⟨g, 1, none⟩) (n - 1) (c - 1), .bool true, .bool true]) (by simp [results, Tryz.results51, go_sem]) rfl ?_
    exact ⟨_, _, _, rfl, HE.out, HS3.out.2⟩
end Go.Proofs.YtjndgekpdmlbiaaGreatDoor.Kp
namespace Go.Proofs.YtjndgekpdmlbiaaGreatDoor.Kp
open Go.RowKit Bn

theorem KwB.now {w : World} {kb p : Nat} {c0 c1 c2 c3 c4 c5 c6 : Value} {z : Int} (h : KwB w kb p c0 c1 c2 c3 c4 c5 c6 z) (a b c d e f g : Value) :
    KwB (((((((w.setCell ⟨kb, 0, none⟩ a).setCell ⟨kb, 1, none⟩ b).setCell ⟨kb, 2, none⟩ c).setCell ⟨kb, 3, none⟩ d).setCell ⟨kb, 4, none⟩ e).setCell ⟨kb, 5, none⟩ f).setCell ⟨kb, 6, none⟩ g) kb p a b c d e f g z := by
  have k0 : KwB (w.setCell ⟨kb, 0, none⟩ a) kb p a c1 c2 c3 c4 c5 c6 z := heap_setCell_same w kb 0 _ 80 a h
  have k1 : KwB ((w.setCell ⟨kb, 0, none⟩ a).setCell ⟨kb, 1, none⟩ b) kb p a b c2 c3 c4 c5 c6 z := heap_setCell_same _ kb 1 _ 80 b k0
  have k2 : KwB (((w.setCell ⟨kb, 0, none⟩ a).setCell ⟨kb, 1, none⟩ b).setCell ⟨kb, 2, none⟩ c) kb p a b c c3 c4 c5 c6 z := heap_setCell_same _ kb 2 _ 80 c k1
  have k3 : KwB ((((w.setCell ⟨kb, 0, none⟩ a).setCell ⟨kb, 1, none⟩ b).setCell ⟨kb, 2, none⟩ c).setCell ⟨kb, 3, none⟩ d) kb p a b c d c4 c5 c6 z := heap_setCell_same _ kb 3 _ 80 d k2
  have k4 : KwB (((((w.setCell ⟨kb, 0, none⟩ a).setCell ⟨kb, 1, none⟩ b).setCell ⟨kb, 2, none⟩ c).setCell ⟨kb, 3, none⟩ d).setCell ⟨kb, 4, none⟩ e) kb p a b c d e c5 c6 z := heap_setCell_same _ kb 4 _ 80 e k3
  have k5 : KwB ((((((w.setCell ⟨kb, 0, none⟩ a).setCell ⟨kb, 1, none⟩ b).setCell ⟨kb, 2, none⟩ c).setCell ⟨kb, 3, none⟩ d).setCell ⟨kb, 4, none⟩ e).setCell ⟨kb, 5, none⟩ f) kb p a b c d e f c6 z := heap_setCell_same _ kb 5 _ 80 f k4
  exact heap_setCell_same _ kb 6 _ 80 g k5
theorem Er.frk {b kb : Nat} {W W' : World} {v : Value} {es : List Ent} (h : Er b W v es) (hf : Dk.Fr (fun k => k = kb) W W') (hk : kb < b) : Er b W' v es :=
  h.rd ⟨hf.os, hf.tape, hf.output, hf.size, fun k hk2 hne => hf.block k hk2 (fun e => hne (by rw [e]))⟩ hk
theorem decode_one {w : World} (rt rv rf : Int) (re : List Ent) (ho : (⟨rt, rv, true, rf, re, none⟩ : Rdy).ok) (hf : 0 < rf) (a : Option Addr) (n c : Nat) (hS : Sl w (.slice a n c) (encR false ⟨rt, rv, true, rf, re, none⟩)) (hl : (encR false ⟨rt, rv, true, rf, re, none⟩).length ≤ 1000000000000) :
    Calls Tryz.prog 85 #[.slice a n c] w fun x w1 => ∃ ao L cap, x = .returned (.tuple #[.bool false, .agg #[.int .i64 rt, .int .i64 rv, .bool true, .int .i64 rf, .slice ao L cap, .pointer none, .slice none 0 0, .slice none 0 0, .slice none 0 0], .bool true]) ∧ Hid (Er w.heap.size w1 (.slice ao L cap) re ∧ Below w.heap.size w w1) := by
  have e0 : encR false ⟨rt, rv, true, rf, re, none⟩ = fl false ++ (fl true ++ (encH ⟨rt, rv, true, rf, re, none⟩ ++ (fl (none : Option Snp).isSome ++ (encP ⟨rt, rv, true, rf, re, none⟩ ++ encL ⟨rt, rv, true, rf, re, none⟩)))) := by simp [encR]
  have e1 := rFlag_fl false (fl true ++ (encH ⟨rt, rv, true, rf, re, none⟩ ++ (fl (none : Option Snp).isSome ++ (encP ⟨rt, rv, true, rf, re, none⟩ ++ encL ⟨rt, rv, true, rf, re, none⟩))))
  rw [← e0] at e1
  have e2 := rFlag_fl true (encH ⟨rt, rv, true, rf, re, none⟩ ++ (fl (none : Option Snp).isSome ++ (encP ⟨rt, rv, true, rf, re, none⟩ ++ encL ⟨rt, rv, true, rf, re, none⟩)))
  have e3 := rdH_enc ⟨rt, rv, true, rf, re, none⟩ (fl (none : Option Snp).isSome ++ (encP ⟨rt, rv, true, rf, re, none⟩ ++ encL ⟨rt, rv, true, rf, re, none⟩)) ho
  have e4 := rdP_enc ⟨rt, rv, true, rf, re, none⟩ (encL ⟨rt, rv, true, rf, re, none⟩) ho
  have e5 := rdL_enc ⟨rt, rv, true, rf, re, none⟩ ho
  simp only [if_true] at e3
  simp only [hf, if_true] at e5
  refine (decode_any _ _ w hS hl false true _ _ _ _ _ e1 e2 e3 e4 e5).mono ?_
  rintro x w1 ⟨ao, L, cap, ps, rfl, HP⟩
  obtain ⟨h1, h2, h3⟩ := HP.out
  have h2' : ps = none := h2
  subst h2'
  exact ⟨ao, L, cap, rfl, h1, h3⟩

set_option maxHeartbeats 4000000 in
theorem redo_one {w : World} {kb p : Nat} (h : KwB w kb p (.int .i64 0) (.int .i64 0) (.int .i64 0) (.int .i64 0) (.slice none 0 0) (.slice none 0 0) (.slice none 0 0) 0) (rt rv rf : Int) (re : List Ent) (ho : (⟨rt, rv, true, rf, re, none⟩ : Rdy).ok) (hf : 0 < rf) (s' : St) (hs : st0.after ⟨rt, rv, true, rf, re, none⟩ = some s') (hln : re.length ≤ 1000000000) (hd : ∀ e ∈ re, e.data.length ≤ 140737488355328)
    (a : Option Addr) (n c : Nat) (hS : Sl w (.slice a n c) (encR false ⟨rt, rv, true, rf, re, none⟩)) (hl : (encR false ⟨rt, rv, true, rf, re, none⟩).length ≤ 1000000) (last : Int) :
    Calls Tryz.prog 52 #[.pointer (some ⟨kb, 0, none⟩), .slice a n c, .int .i64 last] w fun e w' => e = .returned (.bool true) ∧ Hid (∃ av nv cv z, KwB w' kb p (.int .i64 s'.term) (.int .i64 s'.vote) (.int .i64 0) (.int .i64 0) (.slice none 0 0) (.slice none 0 0) (.slice av nv cv) z ∧ Es w' (.slice av nv cv) s'.ents ∧ Dk.Fr (fun k => k = kb) w w') := by
  have HD := hide (decode_one rt rv rf re ho hf a n c hS (by omega))
  have HKB := hide h
  have hn : n ≤ 140737488355328 := by have := hS.len; omega
  have HSZ : Hid (∀ W, Calls Tryz.prog 86 #[.slice a n c] W fun e w' => e = .returned (.int .i64 (sizeL n : Nat)) ∧ w' = W) := fun W => sizeOf_any a n c W hn
  have HOO := hide ho
  have HLN := hide hln
  have HDD := hide hd
  have HSS := hide hs
  clear h ho hs hln hd hS hl
  go_enter Tryz.func52, Tryz.ntmps52
  go_wp2_with fail
  refine Calls.mono HD.out ?_
  rintro x w1 ⟨ao, L, cap, rfl, HP1⟩
  obtain ⟨k0, k1, k2, k3, k4, k5, k6, k7, k8⟩ := nine (HKB.out.below HP1.out.2)
  have ka0 := cell_alloc k0
  have ka1 := cell_alloc k1
  have ka2 := cell_alloc k2
  have ka3 := cell_alloc k3
  have ka4 := cell_alloc k4
  have ka5 := cell_alloc k5
  have ka6 := cell_alloc k6
  clear HD
  have hb3 : Below w1.heap.size w1 ((w1.alloc (.cells #[.int .i64 rt, .int .i64 rv, .bool true, .int .i64 rf, .slice ao L cap, .pointer none, .slice none 0 0, .slice none 0 0, .slice none 0 0] 43)).alloc (.cells #[.int .i64 0, .int .i64 0, .int .i64 0, .int .i64 0, .slice none 0 0, .slice none 0 0, .slice none 0 0] 78)) := ((Below.refl _ w1).alloc (Nat.le_refl _) _).alloc (by simp) _
  have HB3 := hide (HP1.out.2.trans (hb3.mono HP1.out.2.size))
  have hAF := after_zero (W := (w1.alloc (.cells #[.int .i64 rt, .int .i64 rv, .bool true, .int .i64 rf, .slice ao L cap, .pointer none, .slice none 0 0, .slice none 0 0, .slice none 0 0] 43)).alloc (.cells #[.int .i64 0, .int .i64 0, .int .i64 0, .int .i64 0, .slice none 0 0, .slice none 0 0, .slice none 0 0] 78)) ⟨rt, rv, true, rf, re, none⟩ s' HSS.out (.slice none 0 0) (.slice none 0 0) (.slice none 0 0) ao L cap (HP1.out.1.es.below hb3) rfl HOO.out HLN.out HDD.out
  have HAF := hide hAF
  clear hAF hb3 HSS HOO HLN HDD
  go_wp2_with fail
  refine Calls.mono HAF.out ?_
  rintro x w4 ⟨av, nv, cv, rfl, HP4⟩
  clear HAF ka0 ka1 ka2 ka3 ka4 ka5 ka6 k0 k1 k2 k3 k4 k5 k6 k7 k8
  have hb4 : Below w.heap.size w w4 := HB3.out.trans (HP4.out.2.mono HB3.out.size)
  have HB5 : Hid (Below w.heap.size w (w4.alloc (.cells #[.int .i64 s'.term, .int .i64 s'.vote, .int .i64 0, .int .i64 0, .slice none 0 0, .slice none 0 0, .slice av nv cv] 78))) := hb4.alloc hb4.size _
  have HES : Hid (∃ b5, kb < b5 ∧ Er b5 (w4.alloc (.cells #[.int .i64 s'.term, .int .i64 s'.vote, .int .i64 0, .int .i64 0, .slice none 0 0, .slice none 0 0, .slice av nv cv] 78)) (.slice av nv cv) s'.ents) := ⟨_, Nat.lt_of_lt_of_le HKB.out.lt HB3.out.size, HP4.out.1.below ((Below.refl _ _).alloc (Nat.le_refl _) _)⟩
  have h75 : (w4.alloc (.cells #[.int .i64 s'.term, .int .i64 s'.vote, .int .i64 0, .int .i64 0, .slice none 0 0, .slice none 0 0, .slice av nv cv] 78)).heap[w4.heap.size]? = some (.cells #[.int .i64 s'.term, .int .i64 s'.vote, .int .i64 0, .int .i64 0, .slice none 0 0, .slice none 0 0, .slice av nv cv] 78 (0, 0)) := heap_alloc_new _ _
  have H75 := hide h75
  clear h75 hb4 HP4 HB3
  go_upto_region 8 with fail
  generalize w4.alloc (.cells #[.int .i64 s'.term, .int .i64 s'.vote, .int .i64 0, .int .i64 0, .slice none 0 0, .slice none 0 0, .slice av nv cv] 78) = w5 at *
  have hK5 := HKB.out.below HB5.out
  obtain ⟨k0, k1, k2, k3, k4, k5, k6, k7, k8⟩ := nine hK5
  obtain ⟨o0, o1, o2, o3, o4, o5, o6⟩ := seven H75.out
  have ff := hK5.f
  have HK6 : Hid (KwB (((((((w5.setCell ⟨kb, 0, none⟩ (.int .i64 s'.term)).setCell ⟨kb, 1, none⟩ (.int .i64 s'.vote)).setCell ⟨kb, 2, none⟩ (.int .i64 0)).setCell ⟨kb, 3, none⟩ (.int .i64 0)).setCell ⟨kb, 4, none⟩ (.slice none 0 0)).setCell ⟨kb, 5, none⟩ (.slice none 0 0)).setCell ⟨kb, 6, none⟩ (.slice av nv cv)) kb p (.int .i64 s'.term) (.int .i64 s'.vote) (.int .i64 0) (.int .i64 0) (.slice none 0 0) (.slice none 0 0) (.slice av nv cv) 0) := hK5.now _ _ _ _ _ _ _
  have HF6 : Hid (Dk.Fr (fun k => k = kb) w5 (((((((w5.setCell ⟨kb, 0, none⟩ (.int .i64 s'.term)).setCell ⟨kb, 1, none⟩ (.int .i64 s'.vote)).setCell ⟨kb, 2, none⟩ (.int .i64 0)).setCell ⟨kb, 3, none⟩ (.int .i64 0)).setCell ⟨kb, 4, none⟩ (.slice none 0 0)).setCell ⟨kb, 5, none⟩ (.slice none 0 0)).setCell ⟨kb, 6, none⟩ (.slice av nv cv))) := Dk.Fr.setCell (p := ⟨kb, 6, none⟩) (Dk.Fr.setCell (p := ⟨kb, 5, none⟩) (Dk.Fr.setCell (p := ⟨kb, 4, none⟩) (Dk.Fr.setCell (p := ⟨kb, 3, none⟩) (Dk.Fr.setCell (p := ⟨kb, 2, none⟩) (Dk.Fr.setCell (p := ⟨kb, 1, none⟩) (Dk.Fr.setCell (p := ⟨kb, 0, none⟩) (Dk.Fr.refl (fun k => k = kb) w5) (fun _ => rfl) _) (fun _ => rfl) _) (fun _ => rfl) _) (fun _ => rfl) _) (fun _ => rfl) _) (fun _ => rfl) _) (fun _ => rfl) _
  clear hK5
  go_upto_region 9 with fail
  generalize (((((((w5.setCell ⟨kb, 0, none⟩ (.int .i64 s'.term)).setCell ⟨kb, 1, none⟩ (.int .i64 s'.vote)).setCell ⟨kb, 2, none⟩ (.int .i64 0)).setCell ⟨kb, 3, none⟩ (.int .i64 0)).setCell ⟨kb, 4, none⟩ (.slice none 0 0)).setCell ⟨kb, 5, none⟩ (.slice none 0 0)).setCell ⟨kb, 6, none⟩ (.slice av nv cv)) = w6 at *
  clear k0 k1 k2 k3 k4 k5 k6 k7 k8 o0 o1 o2 o3 o4 o5 o6 ff
  have c8 := HK6.out.c 8
  simp at c8
  have f8 := HK6.out.f 8
  have HEZ : Hid (∀ zz, ∃ av nv cv z, KwB (w6.setCell ⟨kb, 8, none⟩ (.int .i64 zz)).drew kb p (.int .i64 s'.term) (.int .i64 s'.vote) (.int .i64 0) (.int .i64 0) (.slice none 0 0) (.slice none 0 0) (.slice av nv cv) z ∧ Es (w6.setCell ⟨kb, 8, none⟩ (.int .i64 zz)).drew (.slice av nv cv) s'.ents ∧ Dk.Fr (fun k => k = kb) w (w6.setCell ⟨kb, 8, none⟩ (.int .i64 zz)).drew) := fun zz => by
    have hF : Dk.Fr (fun k => k = kb) w w6 := (Dk.Fr.of_below (F := fun k => k = kb) HB5.out).trans HF6.out (fun _ _ h => h)
    have hF2 : Dk.Fr (fun k => k = kb) w5 (w6.setCell ⟨kb, 8, none⟩ (.int .i64 zz)).drew := (Dk.Fr.setCell (p := ⟨kb, 8, none⟩) HF6.out (fun _ => rfl) _).drew
    obtain ⟨b5, hb5, hE5⟩ := HES.out
    exact ⟨av, nv, cv, zz, KwB.size HK6.out zz, (hE5.frk hF2 hb5).es, (Dk.Fr.setCell (p := ⟨kb, 8, none⟩) hF (fun _ => rfl) _).drew⟩
  obtain ⟨Z, hZ⟩ : ∃ Z, sizeL n = Z := ⟨_, rfl⟩
  have hZb : (Z : Int) ≤ 1000000000000000 := by
    rw [← hZ]
    unfold sizeL
    omega
  rw [hZ] at HSZ
  clear hZ HK6 HF6 HB5 HES H75
  refine wp_region_noPanic ?_
  go_region_with (go_at_call 86; refine Calls.mono (HSZ.out _) ?_; rintro x w7 ⟨rfl, hw7⟩; have hw7' := hw7.symm; subst hw7')
  all_goals
    refine NoPanic.normal ?_
    go_wp2_with fail
    go_ret
    exact ⟨rfl, HEZ.out _⟩
end Go.Proofs.YtjndgekpdmlbiaaGreatDoor.Kp
namespace Go.Proofs.YtjndgekpdmlbiaaGreatDoor.Kp
open Go.RowKit Bn

theorem decode_gen {w : World} (an : Bool) (rt rv rf : Int) (re : List Ent) (ho : (⟨rt, rv, true, rf, re, none⟩ : Rdy).ok) (a : Option Addr) (n c : Nat) (hS : Sl w (.slice a n c) (encR an ⟨rt, rv, true, rf, re, none⟩)) (hl : (encR an ⟨rt, rv, true, rf, re, none⟩).length ≤ 1000000000000) :
    Calls Tryz.prog 85 #[.slice a n c] w fun x w1 => ∃ ao L cap, x = .returned (.tuple #[.bool an, .agg #[.int .i64 rt, .int .i64 rv, .bool true, .int .i64 (if 0 < rf then rf else 0), .slice ao L cap, .pointer none, .slice none 0 0, .slice none 0 0, .slice none 0 0], .bool true]) ∧ Hid (Er w.heap.size w1 (.slice ao L cap) (if 0 < rf then re else []) ∧ Below w.heap.size w w1) := by
  have e0 : encR an ⟨rt, rv, true, rf, re, none⟩ = fl an ++ (fl true ++ (encH ⟨rt, rv, true, rf, re, none⟩ ++ (fl (none : Option Snp).isSome ++ (encP ⟨rt, rv, true, rf, re, none⟩ ++ encL ⟨rt, rv, true, rf, re, none⟩)))) := by simp [encR]
  have e1 := rFlag_fl an (fl true ++ (encH ⟨rt, rv, true, rf, re, none⟩ ++ (fl (none : Option Snp).isSome ++ (encP ⟨rt, rv, true, rf, re, none⟩ ++ encL ⟨rt, rv, true, rf, re, none⟩))))
  rw [← e0] at e1
  have e2 := rFlag_fl true (encH ⟨rt, rv, true, rf, re, none⟩ ++ (fl (none : Option Snp).isSome ++ (encP ⟨rt, rv, true, rf, re, none⟩ ++ encL ⟨rt, rv, true, rf, re, none⟩)))
  have e3 := rdH_enc ⟨rt, rv, true, rf, re, none⟩ (fl (none : Option Snp).isSome ++ (encP ⟨rt, rv, true, rf, re, none⟩ ++ encL ⟨rt, rv, true, rf, re, none⟩)) ho
  have e4 := rdP_enc ⟨rt, rv, true, rf, re, none⟩ (encL ⟨rt, rv, true, rf, re, none⟩) ho
  have e5 := rdL_enc ⟨rt, rv, true, rf, re, none⟩ ho
  simp only [if_true] at e3
  refine (decode_any _ _ w hS hl an true _ _ _ _ _ e1 e2 e3 e4 e5).mono ?_
  rintro x w1 ⟨ao, L, cap, ps, rfl, HP⟩
  obtain ⟨h1, h2, h3⟩ := HP.out
  have h2' : ps = none := h2
  subst h2'
  exact ⟨ao, L, cap, rfl, h1, h3⟩

/-- The state that a call is done upon. -/
def baseS (an : Bool) (s : St) : St := if an then st0 else s
theorem after_norm' (s : St) (rt rv rf : Int) (re : List Ent) : s.after ⟨rt, rv, true, if 0 < rf then rf else 0, if 0 < rf then re else [], none⟩ = s.after ⟨rt, rv, true, rf, re, none⟩ := by
  have h := after_norm s ⟨rt, rv, true, rf, re, none⟩
  rw [← h]
  rfl
theorem norm_ok {rt rv rf : Int} {re : List Ent} (ho : (⟨rt, rv, true, rf, re, none⟩ : Rdy).ok) : (⟨rt, rv, true, if 0 < rf then rf else 0, if 0 < rf then re else [], none⟩ : Rdy).ok := by
  refine ⟨ho.1, ho.2.1, ?_, ?_, fun s hs => by cases hs⟩
  · show I64 (if 0 < rf then rf else 0)
    split
    · exact ho.2.2.1
    · exact ⟨by decide, by decide⟩
  · show ∀ e ∈ (if 0 < rf then re else []), e.ok
    split
    · exact ho.2.2.2.1
    · intro e he; simp at he
/-- What redo leaves. -/
def RdR (b : Nat) (w : World) (kb p : Nat) (s' : St) (w' : World) : Prop :=
  ∃ av nv cv z, KwB w' kb p (.int .i64 s'.term) (.int .i64 s'.vote) (.int .i64 0) (.int .i64 0) (.slice none 0 0) (.slice none 0 0) (.slice av nv cv) z ∧ Er b w' (.slice av nv cv) s'.ents ∧ Dk.Fr (fun k => k = kb ∨ b ≤ k) w w'
theorem RdR.drew {b : Nat} {w W : World} {kb p : Nat} {s' : St} (h : RdR b w kb p s' W) (m : Nat) : RdR b w kb p s' (W.drewN m) := by
  obtain ⟨av, nv, cv, z, h1, h2, h3⟩ := h
  have hb := Wl.below_drew W m
  exact ⟨av, nv, cv, z, h1.below hb, h2.below hb, h3.trans (Dk.Fr.of_below (F := fun k => k = kb ∨ b ≤ k) hb) (fun _ _ h => h)⟩
theorem RdR.size {b : Nat} {w W : World} {kb p : Nat} {s' : St} (h : RdR b w kb p s' W) (hkb : kb < b) (x : Int) : RdR b w kb p s' (W.setCell ⟨kb, 8, none⟩ (.int .i64 x)) := by
  obtain ⟨av, nv, cv, z, h1, h2, h3⟩ := h
  exact ⟨av, nv, cv, x, h1.size x, h2.frk (Dk.Fr.one W kb 8 _) hkb, Dk.Fr.setCell (p := ⟨kb, 8, none⟩) h3 (fun _ => Or.inl rfl) _⟩
theorem RdR.c7 {b : Nat} {w W : World} {kb p : Nat} {s' : St} (h : RdR b w kb p s' W) : W.cell? ⟨kb, 7, none⟩ = some (.pointer (some ⟨p, 0, none⟩)) ∧ W.frozen? ⟨kb, 8, none⟩ = false := by
  obtain ⟨av, nv, cv, z, h1, h2, h3⟩ := h
  exact ⟨h1.c 7, h1.f 8⟩
theorem RdR.c8 {b : Nat} {w W : World} {kb p : Nat} {s' : St} (h : RdR b w kb p s' W) : ∃ z, W.cell? ⟨kb, 8, none⟩ = some (.int .i64 z) := by
  obtain ⟨av, nv, cv, z, h1, h2, h3⟩ := h
  exact ⟨z, h1.c 8⟩
theorem RdR.fr {b : Nat} {w W : World} {kb p : Nat} {s' : St} (h : RdR b w kb p s' W) : Dk.Fr (fun k => k = kb ∨ b ≤ k) w W := by
  obtain ⟨av, nv, cv, z, h1, h2, h3⟩ := h
  exact h3

set_option maxHeartbeats 4000000 in
theorem redo_any {b : Nat} {w : World} {kb p : Nat} {t0 v0 : Int} {es0 : List Ent} {av : Option Addr} {nv cv : Nat} {z : Int} (h : KwB w kb p (.int .i64 t0) (.int .i64 v0) (.int .i64 0) (.int .i64 0) (.slice none 0 0) (.slice none 0 0) (.slice av nv cv) z) (hE : Er b w (.slice av nv cv) es0) (hkb : kb < b) (hbw : b ≤ w.heap.size)
    (an : Bool) (rt rv rf : Int) (re : List Ent) (ho : (⟨rt, rv, true, rf, re, none⟩ : Rdy).ok) (s' : St) (hs : step1 ⟨t0, v0, ⟨0, 0, [], []⟩, es0⟩ (an, ⟨rt, rv, true, rf, re, none⟩) = some s') (hln : es0.length + re.length ≤ 1000000000) (hd : ∀ e ∈ re, e.data.length ≤ 140737488355328)
    (a : Option Addr) (n c : Nat) (hS : Sl w (.slice a n c) (encR an ⟨rt, rv, true, rf, re, none⟩)) (hl : (encR an ⟨rt, rv, true, rf, re, none⟩).length ≤ 1000000) (last : Int)
    (hU : ∀ W, Dk.Fr (fun k => k = kb ∨ b ≤ k) w W → an = true → 0 < last → Calls Tryz.prog 87 #[.pointer (some ⟨p, 0, none⟩), .int .i64 last] W fun e w' => e = .returned (.int .i64 0) ∧ ∃ m, w' = W.drewN m) :
    Calls Tryz.prog 52 #[.pointer (some ⟨kb, 0, none⟩), .slice a n c, .int .i64 last] w fun e w' => e = .returned (.bool true) ∧ Hid (RdR b w kb p s' w') := by
  have HD := hide (decode_gen an rt rv rf re ho a n c hS (by omega))
  have HKB := hide h
  have HU := hide hU
  have HKL := hide hkb
  have hn : n ≤ 140737488355328 := by have := hS.len; omega
  have HSZ : Hid (∀ W, Calls Tryz.prog 86 #[.slice a n c] W fun e w' => e = .returned (.int .i64 (sizeL n : Nat)) ∧ w' = W) := fun W => sizeOf_any a n c W hn
  obtain ⟨t1, ht1⟩ : ∃ t1, t1 = (if an then 0 else t0) := ⟨_, rfl⟩
  obtain ⟨v1, hv1⟩ : ∃ v1, v1 = (if an then 0 else v0) := ⟨_, rfl⟩
  obtain ⟨es1, hes1⟩ : ∃ es1, es1 = (if an then [] else es0) := ⟨_, rfl⟩
  obtain ⟨a1, ha1⟩ : ∃ a1, a1 = (if an then none else av) := ⟨_, rfl⟩
  obtain ⟨n1, hn1⟩ : ∃ n1, n1 = (if an then 0 else nv) := ⟨_, rfl⟩
  obtain ⟨c1, hc1⟩ : ∃ c1, c1 = (if an then 0 else cv) := ⟨_, rfl⟩
  have HAF : Hid (∀ W ao L cap, Below w.heap.size w W → Er w.heap.size W (.slice ao L cap) (if 0 < rf then re else []) → Calls Tryz.prog 54 #[.agg #[.int .i64 t1, .int .i64 v1, .int .i64 0, .int .i64 0, .slice none 0 0, .slice none 0 0, .slice a1 n1 c1], .agg #[.int .i64 rt, .int .i64 rv, .bool true, .int .i64 (if 0 < rf then rf else 0), .slice ao L cap, .pointer none, .slice none 0 0, .slice none 0 0, .slice none 0 0]] W fun x w' => ∃ a2 n2 c2, x = .returned (.tuple #[.agg #[.int .i64 s'.term, .int .i64 s'.vote, .int .i64 0, .int .i64 0, .slice none 0 0, .slice none 0 0, .slice a2 n2 c2], .bool true]) ∧ Hid (Er b w' (.slice a2 n2 c2) s'.ents ∧ Dk.Fr (fun k => b ≤ k) W w')) := fun W ao L cap hW hEr => by
    have hs1 : (⟨t1, v1, ⟨0, 0, [], []⟩, es1⟩ : St).after ⟨rt, rv, true, if 0 < rf then rf else 0, if 0 < rf then re else [], none⟩ = some s' := by
      rw [after_norm', ← hs]
      cases an <;> simp [step1, ht1, hv1, hes1, st0]
    have hE1 : Er b W (.slice a1 n1 c1) es1 := by
      cases an
      · simp at ha1 hn1 hc1 hes1
        subst ha1 hn1 hc1 hes1
        exact hE.below hW
      · simp at ha1 hn1 hc1 hes1
        subst ha1 hn1 hc1 hes1
        exact Er.nil _ _
    have hle : es1.length ≤ es0.length := by cases an <;> simp [hes1]
    have hre : (if 0 < rf then re else []).length ≤ re.length := by split <;> simp
    refine (after_plain (b := b) ⟨t1, v1, ⟨0, 0, [], []⟩, es1⟩ ⟨rt, rv, true, if 0 < rf then rf else 0, if 0 < rf then re else [], none⟩ none none 0 0 0 0 (.slice none 0 0) (.slice none 0 0) (.slice none 0 0) a1 n1 c1 ao L cap hE1 hEr.es rfl (norm_ok ho) (Int.le_refl _) (by show es1.length + (if 0 < rf then re else []).length ≤ _; omega) (fun e he => hd e (by
      have he' : e ∈ (if 0 < rf then re else []) := he
      split at he'
      · exact he'
      · simp at he')) (Nat.le_trans hbw hW.size)).mono ?_
    rintro x w' (⟨h1, _⟩ | ⟨s2, a2, n2, c2, h1, rfl, h2, HP⟩)
    · rw [hs1] at h1; cases h1
    · rw [hs1] at h1
      cases h1
      obtain ⟨e1, _, e3⟩ := HP.out
      refine ⟨a2, n2, c2, rfl, e1, ⟨e3.os, e3.tape, e3.output, e3.size, fun k hk hF => e3.block k hk (fun e => hF ?_)⟩⟩
      obtain ⟨us, _, o, _⟩ := hE1
      exact (o.lt k e.symm).1
  have HOLD : Hid (an = false → t1 = t0 ∧ v1 = v0 ∧ a1 = av ∧ n1 = nv ∧ c1 = cv) := fun e => by subst e; simp [ht1, hv1, ha1, hn1, hc1]
  have HNEW : Hid (an = true → t1 = 0 ∧ v1 = 0 ∧ a1 = none ∧ n1 = 0 ∧ c1 = 0) := fun e => by subst e; simp [ht1, hv1, ha1, hn1, hc1]
  obtain ⟨rf1, hrf1⟩ : ∃ rf1, (if 0 < rf then rf else 0) = rf1 := ⟨_, rfl⟩
  rw [hrf1] at HD HAF
  obtain ⟨re1, hre1⟩ : ∃ re1, (if 0 < rf then re else []) = re1 := ⟨_, rfl⟩
  rw [hre1] at HD HAF
  clear h ho hs hln hd hS hl hE hkb hbw hU ht1 hv1 hes1 ha1 hn1 hc1 hrf1 hre1
  go_enter Tryz.func52, Tryz.ntmps52
  go_wp2_with fail
  refine Calls.mono HD.out ?_
  rintro x w1 ⟨ao, L, cap, rfl, HP1⟩
  obtain ⟨k0, k1, k2, k3, k4, k5, k6, k7, k8⟩ := nine (HKB.out.below HP1.out.2)
  have ka0 := cell_alloc k0
  have ka1 := cell_alloc k1
  have ka2 := cell_alloc k2
  have ka3 := cell_alloc k3
  have ka4 := cell_alloc k4
  have ka5 := cell_alloc k5
  have ka6 := cell_alloc k6
  clear HD
  have HB3 : Hid (Below w1.heap.size w1 ((w1.alloc (.cells #[.int .i64 rt, .int .i64 rv, .bool true, .int .i64 rf1, .slice ao L cap, .pointer none, .slice none 0 0, .slice none 0 0, .slice none 0 0] 43)).alloc (.cells #[.int .i64 t0, .int .i64 v0, .int .i64 0, .int .i64 0, .slice none 0 0, .slice none 0 0, .slice av nv cv] 78))) := ((Below.refl _ w1).alloc (Nat.le_refl _) _).alloc (by simp) _
  have H9 : Hid (((w1.alloc (.cells #[.int .i64 rt, .int .i64 rv, .bool true, .int .i64 rf1, .slice ao L cap, .pointer none, .slice none 0 0, .slice none 0 0, .slice none 0 0] 43)).alloc (.cells #[.int .i64 t0, .int .i64 v0, .int .i64 0, .int .i64 0, .slice none 0 0, .slice none 0 0, .slice av nv cv] 78)).heap[w1.heap.size]? = some (.cells #[.int .i64 rt, .int .i64 rv, .bool true, .int .i64 rf1, .slice ao L cap, .pointer none, .slice none 0 0, .slice none 0 0, .slice none 0 0] 43 (0, 0))) := by
    show _ = _
    rw [Below.heap_alloc _ _ _ (by simp)]
    exact heap_alloc_new _ _
  have H7 : Hid (((w1.alloc (.cells #[.int .i64 rt, .int .i64 rv, .bool true, .int .i64 rf1, .slice ao L cap, .pointer none, .slice none 0 0, .slice none 0 0, .slice none 0 0] 43)).alloc (.cells #[.int .i64 t0, .int .i64 v0, .int .i64 0, .int .i64 0, .slice none 0 0, .slice none 0 0, .slice av nv cv] 78)).heap[w1.heap.size + 1]? = some (.cells #[.int .i64 t0, .int .i64 v0, .int .i64 0, .int .i64 0, .slice none 0 0, .slice none 0 0, .slice av nv cv] 78 (0, 0))) := by
    have := heap_alloc_new (w1.alloc (.cells #[.int .i64 rt, .int .i64 rv, .bool true, .int .i64 rf1, .slice ao L cap, .pointer none, .slice none 0 0, .slice none 0 0, .slice none 0 0] 43)) (.cells #[.int .i64 t0, .int .i64 v0, .int .i64 0, .int .i64 0, .slice none 0 0, .slice none 0 0, .slice av nv cv] 78)
    show _ = _
    simpa using this
  go_upto_if 23 with fail
  generalize (w1.alloc (.cells #[.int .i64 rt, .int .i64 rv, .bool true, .int .i64 rf1, .slice ao L cap, .pointer none, .slice none 0 0, .slice none 0 0, .slice none 0 0] 43)).alloc (.cells #[.int .i64 t0, .int .i64 v0, .int .i64 0, .int .i64 0, .slice none 0 0, .slice none 0 0, .slice av nv cv] 78) = w3 at *
  clear k0 k1 k2 k3 k4 k5 k6 k7 k8 ka0 ka1 ka2 ka3 ka4 ka5 ka6
  have ff := fun i => frozen_of_row w3 (w1.heap.size + 1) i _ 78 H7.out
  go_cut [] from 24 to 24 (fun wc => Hid (Below w1.heap.size w1 wc ∧ wc.heap[w1.heap.size]? = some (.cells #[.int .i64 rt, .int .i64 rv, .bool true, .int .i64 rf1, .slice ao L cap, .pointer none, .slice none 0 0, .slice none 0 0, .slice none 0 0] 43 (0, 0)) ∧ wc.heap[w1.heap.size + 1]? = some (.cells #[.int .i64 t1, .int .i64 v1, .int .i64 0, .int .i64 0, .slice none 0 0, .slice none 0 0, .slice a1 n1 c1] 78 (0, 0))))
  case first =>
    cases an with
    | false =>
      obtain ⟨rfl, rfl, rfl, rfl, rfl⟩ := HOLD.out rfl
      go_wp2_with fail
      go_meet
      exact ⟨HB3.out, H9.out, H7.out⟩
    | true =>
      obtain ⟨rfl, rfl, rfl, rfl, rfl⟩ := HNEW.out rfl
      obtain ⟨o0, o1, o2, o3, o4, o5, o6⟩ := seven H7.out
      have HN := hide (fill7 H7.out (.int .i64 0) (.int .i64 0) (.int .i64 0) (.int .i64 0) (.slice none 0 0) (.slice none 0 0) (.slice none 0 0))
      go_wp2_with fail
      go_meet
      exact ⟨HB3.out.trans (HN.out.2 w1.heap.size (by omega)), ((HN.out.2 (w1.heap.size + 1) (Nat.le_refl _)).block w1.heap.size (by omega)).trans H9.out, HN.out.1⟩
  case rest =>
    have HQ := hcut
    clear ff HB3 H9 H7
    obtain ⟨m0, m1, m2, m3, m4, m5, m6, m7, m8⟩ := nine HQ.out.2.1
    obtain ⟨o0, o1, o2, o3, o4, o5, o6⟩ := seven HQ.out.2.2
    have hbc : Below w.heap.size w wc := HP1.out.2.trans (HQ.out.1.mono HP1.out.2.size)
    have HBC := hide hbc
    have HAFc := hide (HAF.out wc ao L cap hbc (HP1.out.1.below HQ.out.1))
    clear HAF hbc HOLD HNEW
    go_wp2_with fail
    refine Calls.mono HAFc.out ?_
    rintro x w4 ⟨a2, n2, c2, rfl, HP4⟩
    clear HAFc m0 m1 m2 m3 m4 m5 m6 m7 m8 o0 o1 o2 o3 o4 o5 o6
    have hK4 := (HKB.out.below HBC.out).fr HP4.out.2 (fun h => by have := HKL.out; omega)
    have HK5 : Hid (KwB (w4.alloc (.cells #[.int .i64 s'.term, .int .i64 s'.vote, .int .i64 0, .int .i64 0, .slice none 0 0, .slice none 0 0, .slice a2 n2 c2] 78)) kb p (.int .i64 t0) (.int .i64 v0) (.int .i64 0) (.int .i64 0) (.slice none 0 0) (.slice none 0 0) (.slice av nv cv) z) := hK4.below ((Below.refl _ _).alloc (Nat.le_refl _) _)
    have HF5 : Hid (Dk.Fr (fun k => k = kb ∨ b ≤ k) w (w4.alloc (.cells #[.int .i64 s'.term, .int .i64 s'.vote, .int .i64 0, .int .i64 0, .slice none 0 0, .slice none 0 0, .slice a2 n2 c2] 78))) := ((Dk.Fr.of_below (F := fun k => k = kb ∨ b ≤ k) HBC.out).trans (HP4.out.2.mono (fun k _ hk => Or.inr hk)) (fun _ _ h => h)).trans (Dk.Fr.of_below (F := fun k => k = kb ∨ b ≤ k) ((Below.refl _ _).alloc (Nat.le_refl _) _)) (fun _ _ h => h)
    have HE5 : Hid (Er b (w4.alloc (.cells #[.int .i64 s'.term, .int .i64 s'.vote, .int .i64 0, .int .i64 0, .slice none 0 0, .slice none 0 0, .slice a2 n2 c2] 78)) (.slice a2 n2 c2) s'.ents) := HP4.out.1.below ((Below.refl _ _).alloc (Nat.le_refl _) _)
    have H75 : Hid ((w4.alloc (.cells #[.int .i64 s'.term, .int .i64 s'.vote, .int .i64 0, .int .i64 0, .slice none 0 0, .slice none 0 0, .slice a2 n2 c2] 78)).heap[w4.heap.size]? = some (.cells #[.int .i64 s'.term, .int .i64 s'.vote, .int .i64 0, .int .i64 0, .slice none 0 0, .slice none 0 0, .slice a2 n2 c2] 78 (0, 0))) := heap_alloc_new _ _
    clear hK4 HP4 HQ HBC HP1 HKB
    go_upto_region 8 with fail
    generalize w4.alloc (.cells #[.int .i64 s'.term, .int .i64 s'.vote, .int .i64 0, .int .i64 0, .slice none 0 0, .slice none 0 0, .slice a2 n2 c2] 78) = w5 at *
    obtain ⟨k0, k1, k2, k3, k4, k5, k6, k7, k8⟩ := nine HK5.out
    obtain ⟨o0, o1, o2, o3, o4, o5, o6⟩ := seven H75.out
    have ff := HK5.out.f
    have HK6 : Hid (KwB (((((((w5.setCell ⟨kb, 0, none⟩ (.int .i64 s'.term)).setCell ⟨kb, 1, none⟩ (.int .i64 s'.vote)).setCell ⟨kb, 2, none⟩ (.int .i64 0)).setCell ⟨kb, 3, none⟩ (.int .i64 0)).setCell ⟨kb, 4, none⟩ (.slice none 0 0)).setCell ⟨kb, 5, none⟩ (.slice none 0 0)).setCell ⟨kb, 6, none⟩ (.slice a2 n2 c2)) kb p (.int .i64 s'.term) (.int .i64 s'.vote) (.int .i64 0) (.int .i64 0) (.slice none 0 0) (.slice none 0 0) (.slice a2 n2 c2) z) := HK5.out.now _ _ _ _ _ _ _
    have HF6 : Hid (Dk.Fr (fun k => k = kb) w5 (((((((w5.setCell ⟨kb, 0, none⟩ (.int .i64 s'.term)).setCell ⟨kb, 1, none⟩ (.int .i64 s'.vote)).setCell ⟨kb, 2, none⟩ (.int .i64 0)).setCell ⟨kb, 3, none⟩ (.int .i64 0)).setCell ⟨kb, 4, none⟩ (.slice none 0 0)).setCell ⟨kb, 5, none⟩ (.slice none 0 0)).setCell ⟨kb, 6, none⟩ (.slice a2 n2 c2))) := Dk.Fr.setCell (p := ⟨kb, 6, none⟩) (Dk.Fr.setCell (p := ⟨kb, 5, none⟩) (Dk.Fr.setCell (p := ⟨kb, 4, none⟩) (Dk.Fr.setCell (p := ⟨kb, 3, none⟩) (Dk.Fr.setCell (p := ⟨kb, 2, none⟩) (Dk.Fr.setCell (p := ⟨kb, 1, none⟩) (Dk.Fr.setCell (p := ⟨kb, 0, none⟩) (Dk.Fr.refl (fun k => k = kb) w5) (fun _ => rfl) _) (fun _ => rfl) _) (fun _ => rfl) _) (fun _ => rfl) _) (fun _ => rfl) _) (fun _ => rfl) _) (fun _ => rfl) _
    go_upto_region 9 with fail
    generalize (((((((w5.setCell ⟨kb, 0, none⟩ (.int .i64 s'.term)).setCell ⟨kb, 1, none⟩ (.int .i64 s'.vote)).setCell ⟨kb, 2, none⟩ (.int .i64 0)).setCell ⟨kb, 3, none⟩ (.int .i64 0)).setCell ⟨kb, 4, none⟩ (.slice none 0 0)).setCell ⟨kb, 5, none⟩ (.slice none 0 0)).setCell ⟨kb, 6, none⟩ (.slice a2 n2 c2)) = w6 at *
    clear k0 k1 k2 k3 k4 k5 k6 k7 k8 o0 o1 o2 o3 o4 o5 o6 ff
    have c8 := HK6.out.c 8
    have c7 := HK6.out.c 7
    simp at c8 c7
    have f8 := HK6.out.f 8
    have HR6 : Hid (RdR b w kb p s' w6) := ⟨a2, n2, c2, z, HK6.out, HE5.out.frk HF6.out HKL.out, HF5.out.trans (HF6.out.mono (fun k _ hk => Or.inl hk)) (fun _ _ h => h)⟩
    have HEZ : Hid (∀ zz, RdR b w kb p s' (w6.setCell ⟨kb, 8, none⟩ (.int .i64 zz)).drew) := fun zz => (HR6.out.size HKL.out zz).drew 1
    obtain ⟨Z, hZ⟩ : ∃ Z, sizeL n = Z := ⟨_, rfl⟩
    have hZb : (Z : Int) ≤ 1000000000000000 := by
      rw [← hZ]
      unfold sizeL
      omega
    rw [hZ] at HSZ
    clear hZ HK6 HF6 HF5 HE5 HK5 H75
    refine wp_region_noPanic ?_
    go_region_with (go_at_call 86; refine Calls.mono (HSZ.out _) ?_; rintro x w7 ⟨rfl, hw7⟩; have hw7' := hw7.symm; subst hw7')
    all_goals
      refine NoPanic.normal ?_
      clear c8 f8
      cases an with
      | false =>
        go_wp2_with fail
        go_ret
        exact ⟨rfl, HEZ.out _⟩
      | true =>
        by_cases hlast : 0 < last
        · go_wp2_with fail
          refine Calls.mono (HU.out _ (HEZ.out _).fr (by first | rfl | trivial) hlast) ?_
          rintro x w8 ⟨rfl, m, hw8⟩
          have HR8 : Hid (RdR b w kb p s' w8) := by rw [hw8]; exact (HEZ.out _).drew m
          clear hw8 HEZ HU HR6
          obtain ⟨z8, d8⟩ := HR8.out.c8
          have f8 := HR8.out.c7.2
          go_wp2_with fail
          refine Calls.mono (HSZ.out _) ?_
          rintro x w9 ⟨rfl, hw9⟩
          have hw9' := hw9.symm
          subst hw9'
          go_wp2_with fail
          go_ret
          exact ⟨rfl, HR8.out.size HKL.out _⟩
        · go_wp2_with fail
          go_ret
          exact ⟨rfl, HEZ.out _⟩
end Go.Proofs.YtjndgekpdmlbiaaGreatDoor.Kp
