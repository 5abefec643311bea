/- Plain mathematics of package keep: a call, its text, how the text is read, what a call makes of what is kept. No walk. The walks of keep's small functions: sizeOf, flag, areMembers; a writer that a function makes for itself. A row of entries in memory; writeEntries. The reader's walks once more, with where its bytes lie: below b. readEntries. -/
import Derived.Test.YtgknpbgepgmmmaaPart03
namespace Go.Proofs.Ytgknpbgepgmmmaa.Kp
open Bn

structure Ent where
  idx : Int
  term : Int
  kind : Int
  data : List UInt8
structure Snp where
  idx : Int
  term : Int
  conf : List Int
  data : List UInt8
structure Rdy where
  term : Int
  vote : Int
  saved : Bool
  first : Int
  ents : List Ent
  snap : Option Snp
structure St where
  term : Int
  vote : Int
  snap : Snp
  ents : List Ent

def fl (b : Bool) : List UInt8 := [if b then 1 else 0]
def encT (t : List UInt8) : List UInt8 := enc t.length ++ t
def encE (e : Ent) : List UInt8 := enc e.idx ++ enc e.term ++ enc e.kind ++ encT e.data
def encS (s : Snp) : List UInt8 := enc s.idx ++ enc s.term ++ enc s.conf.length ++ s.conf.flatMap enc ++ encT s.data
def encH (r : Rdy) : List UInt8 := if r.saved then enc r.term ++ enc r.vote else []
def encP (r : Rdy) : List UInt8 := match r.snap with | none => [] | some s => encS s
def encL (r : Rdy) : List UInt8 := if 0 < r.first then enc r.first ++ r.ents.flatMap encE else []
def encR (anew : Bool) (r : Rdy) : List UInt8 := fl anew ++ fl r.saved ++ encH r ++ fl r.snap.isSome ++ encP r ++ encL r

def I64 (n : Int) : Prop := -9223372036854775808 ≤ n ∧ n ≤ 9223372036854775807
def Ent.ok (e : Ent) : Prop := I64 e.idx ∧ I64 e.term ∧ I64 e.kind ∧ e.data.length ≤ 9223372036854775807
def Snp.ok (s : Snp) : Prop := I64 s.idx ∧ I64 s.term ∧ (∀ n ∈ s.conf, I64 n) ∧ s.conf.length ≤ 9223372036854775807 ∧ s.data.length ≤ 9223372036854775807
def Rdy.ok (r : Rdy) : Prop := I64 r.term ∧ I64 r.vote ∧ I64 r.first ∧ (∀ e ∈ r.ents, e.ok) ∧ (∀ s, r.snap = some s → s.ok)

abbrev R := Option (List UInt8)
def rdE : Nat → R → List Ent × R
  | 0, st => ([], st)
  | f + 1, st => if (st.getD []).length = 0 then ([], st) else
      ((⟨(rNum st).1, (rNum (rNum st).2).1, (rNum (rNum (rNum st).2).2).1, (rText (rNum (rNum (rNum st).2).2).2).1⟩ : Ent) :: (rdE f (rText (rNum (rNum (rNum st).2).2).2).2).1,
       (rdE f (rText (rNum (rNum (rNum st).2).2).2).2).2)
def rdC : Nat → R → List Int × R
  | 0, st => ([], st)
  | f + 1, st => if st.isNone then ([], st) else ((rNum st).1 :: (rdC f (rNum st).2).1, (rdC f (rNum st).2).2)
def rdS (st : R) : Snp × R :=
  let a := rNum st
  let b := rNum a.2
  let c := rNum b.2
  let d := rdC c.1.toNat c.2
  let e := rText d.2
  (⟨a.1, b.1, d.1, e.1⟩, e.2)
def rdH (saved : Bool) (st : R) : (Int × Int) × R := if saved then (((rNum st).1, (rNum (rNum st).2).1), (rNum (rNum st).2).2) else ((0, 0), st)
def rdP (st : R) : Option Snp × R := if (rFlag st).1 then (some (rdS (rFlag st).2).1, (rdS (rFlag st).2).2) else (none, (rFlag st).2)
def rdL (st : R) : (Int × List Ent) × R :=
  if 0 < (st.getD []).length then (((rNum st).1, (rdE ((rNum st).2.getD []).length (rNum st).2).1), (rdE ((rNum st).2.getD []).length (rNum st).2).2) else ((0, []), st)
def decR (st : R) : (Bool × Rdy) × R :=
  let a := rFlag st
  let b := rFlag a.2
  let h := rdH b.1 b.2
  let p := rdP h.2
  let l := rdL p.2
  ((a.1, ⟨h.1.1, h.1.2, b.1, l.1.1, l.1.2, p.1⟩), l.2)

/-- What a text holds of a call. -/
def Rdy.norm (r : Rdy) : Rdy := ⟨if r.saved then r.term else 0, if r.saved then r.vote else 0, r.saved, if 0 < r.first then r.first else 0, if 0 < r.first then r.ents else [], r.snap⟩

theorem rFlag_fl (b : Bool) (r : List UInt8) : rFlag (some (fl b ++ r)) = (b, some r) := by cases b <;> rfl
theorem rNum_i (n : Int) (r : List UInt8) (h : I64 n) : rNum (some (enc n ++ r)) = (n, some r) := rNum_enc n r h.1 h.2
theorem rText_t (t r : List UInt8) (h : t.length ≤ 9223372036854775807) : rText (some (encT t ++ r)) = (t, some r) := by
  rw [encT, List.append_assoc]; exact rText_enc t r h
theorem encT_pos (t : List UInt8) : 0 < (encT t).length := by have := enc_pos t.length; simp [encT]; omega
theorem encE_pos (e : Ent) : 0 < (encE e).length := by have := enc_pos e.idx; simp [encE]; omega

theorem rdE_enc : ∀ (es : List Ent) (f : Nat), (∀ e ∈ es, e.ok) → es.length ≤ f → rdE f (some (es.flatMap encE)) = (es, some [])
  | [], f, _, _ => by cases f <;> simp [rdE]
  | e :: es, 0, _, h => by simp at h
  | e :: es, f + 1, ho, h => by
    obtain ⟨h1, h2, h3, h4⟩ := ho e (by simp)
    have hp := encE_pos e
    have e1 : rNum (some ((e :: es).flatMap encE)) = (e.idx, some (enc e.term ++ (enc e.kind ++ (encT e.data ++ es.flatMap encE)))) := by
      rw [← rNum_i e.idx _ h1]; simp [encE]
    have hne : ¬ ((some ((e :: es).flatMap encE)).getD []).length = 0 := by
      simp only [Option.getD_some, List.flatMap_cons, List.length_append]; omega
    have ih := rdE_enc es f (fun x hx => ho x (by simp [hx])) (by simp at h; omega)
    rw [rdE, if_neg hne, e1]
    simp only [rNum_i _ _ h2, rNum_i _ _ h3, rText_t _ _ h4, ih]

theorem rdC_enc : ∀ (ns : List Int) (r : List UInt8), (∀ n ∈ ns, I64 n) → rdC ns.length (some (ns.flatMap enc ++ r)) = (ns, some r)
  | [], r, _ => by simp [rdC]
  | n :: ns, r, ho => by
    have e1 : rNum (some ((n :: ns).flatMap enc ++ r)) = (n, some (ns.flatMap enc ++ r)) := by
      rw [← rNum_i n _ (ho n (by simp))]; simp
    have ih := rdC_enc ns r fun x hx => ho x (by simp [hx])
    rw [List.length_cons, rdC, if_neg (by simp), e1]
    simp only [ih]

theorem rdS_enc (s : Snp) (r : List UInt8) (h : s.ok) : rdS (some (encS s ++ r)) = (s, some r) := by
  obtain ⟨h1, h2, h3, h4, h5⟩ := h
  have hc : I64 (s.conf.length : Int) := ⟨by omega, by omega⟩
  have e0 : encS s ++ r = enc s.idx ++ (enc s.term ++ (enc s.conf.length ++ (s.conf.flatMap enc ++ (encT s.data ++ r)))) := by simp [encS]
  simp only [rdS, e0, rNum_i _ _ h1, rNum_i _ _ h2, rNum_i _ _ hc, Int.toNat_natCast, rdC_enc _ _ h3, rText_t _ _ h5]

theorem rdH_enc (r : Rdy) (t : List UInt8) (h : r.ok) : rdH r.saved (some (encH r ++ t)) = ((if r.saved then r.term else 0, if r.saved then r.vote else 0), some t) := by
  obtain ⟨h1, h2, _⟩ := h
  cases hs : r.saved
  · simp [rdH, encH, hs]
  · simp [rdH, encH, hs, rNum_i _ _ h1, rNum_i _ _ h2]

theorem rdP_enc (r : Rdy) (t : List UInt8) (h : r.ok) : rdP (some (fl r.snap.isSome ++ (encP r ++ t))) = (r.snap, some t) := by
  obtain ⟨_, _, _, _, h⟩ := h
  rw [rdP, rFlag_fl]
  cases hs : r.snap with
  | none => simp [encP, hs]
  | some s => simp [encP, hs, rdS_enc s t (h s hs)]

theorem ents_len (es : List Ent) : es.length ≤ (es.flatMap encE).length := by
  induction es with
  | nil => simp
  | cons e es ih => have := encE_pos e; simp only [List.flatMap_cons, List.length_append, List.length_cons]; omega

theorem rdL_enc (r : Rdy) (h : r.ok) : rdL (some (encL r)) = ((if 0 < r.first then r.first else 0, if 0 < r.first then r.ents else []), some []) := by
  obtain ⟨_, _, h1, h2, _⟩ := h
  by_cases hf : 0 < r.first
  · have hp := enc_pos r.first
    have hlt : 0 < ((some (enc r.first ++ r.ents.flatMap encE)).getD []).length := by simp only [Option.getD_some, List.length_append]; omega
    simp only [encL, hf, if_true]
    rw [rdL, if_pos hlt]
    simp only [rNum_i _ _ h1, Option.getD_some, rdE_enc _ _ h2 (ents_len _)]
  · simp [rdL, encL, hf]

/-- A call's text reads as the call, and nothing is left. -/
theorem decR_enc (anew : Bool) (r : Rdy) (h : r.ok) : decR (some (encR anew r)) = ((anew, r.norm), some []) := by
  have e0 : encR anew r = fl anew ++ (fl r.saved ++ (encH r ++ (fl r.snap.isSome ++ (encP r ++ encL r)))) := by simp [encR]
  simp only [decR, e0, rFlag_fl, rdH_enc r _ h, rdP_enc r _ h, rdL_enc r h, Rdy.norm]

/-! What a call makes of what is kept. -/
def St.has (s : St) (i t : Int) : Bool := decide (s.snap.idx < i) && (match s.ents[(i - s.snap.idx - 1).toNat]? with | none => false | some e => decide (e.term = t))
def St.behind (s : St) (i t : Int) : List Ent := if s.has i t then s.ents.drop (i - s.snap.idx).toNat else []
def risesB (first : Int) : Int → List Ent → Bool
  | _, [] => true
  | k, e :: es => decide (first ≤ e.idx) && decide (e.idx - first = k) && risesB first (k + 1) es
def St.mayGoOn (s : St) (first : Int) (es : List Ent) : Bool := decide (s.snap.idx < first) && decide (first - 1 - s.snap.idx ≤ s.ents.length) && risesB first 0 es
def St.ahead (s : St) (first : Int) : List Ent := s.ents.take (first - 1 - s.snap.idx).toNat
def St.hard (s : St) (r : Rdy) : St := if r.saved then { s with term := r.term, vote := r.vote } else s
def St.shot (s : St) (r : Rdy) : Option St :=
  match r.snap with
  | none => some s
  | some p => if p.idx ≤ s.snap.idx then none else some { s with snap := p, ents := s.behind p.idx p.term }
def St.put (s : St) (r : Rdy) : Option St :=
  if 0 < r.first then (if s.mayGoOn r.first r.ents then some { s with ents := s.ahead r.first ++ r.ents } else none) else some s
def St.after (s : St) (r : Rdy) : Option St := ((s.hard r).shot r).bind fun s => s.put r

/-- A call does what its text's reading does. -/
theorem after_norm (s : St) (r : Rdy) : s.after r.norm = s.after r := by
  have h1 : s.hard r.norm = s.hard r := by cases h : r.saved <;> simp [St.hard, Rdy.norm, h]
  have h2 : ∀ s : St, s.shot r.norm = s.shot r := fun _ => rfl
  have h3 : ∀ s : St, s.put r.norm = s.put r := fun s => by
    by_cases h : 0 < r.first <;> simp [St.put, Rdy.norm, h]
  simp only [St.after, h1, h2, h3]

def membersB : Int → List Int → Bool
  | last, [] => decide (0 < last)
  | last, id :: ids => decide (last < id) && decide (id ≤ 7) && membersB id ids
def St.isGood (s : St) (r : Rdy) : Bool :=
  (!r.saved || (decide (s.term ≤ r.term) && decide (0 ≤ r.vote) && decide (r.vote ≤ 7))) &&
  r.ents.all (fun e => decide (1 ≤ e.kind) && decide (e.kind ≤ 3) && decide (1 ≤ e.term)) &&
  (match r.snap with | none => true | some p => decide (0 ≤ p.term) && decide (0 ≤ p.idx) && membersB 0 p.conf)
def Rdy.long (r : Rdy) : Bool := r.ents.any (fun e => decide (8192 < e.data.length)) || (match r.snap with | none => false | some p => decide (20000 < p.data.length))

/-- How many bytes a text's records take at most. -/
def sizeL (n : Nat) : Nat := n + (n + 32766) / 32767 * 41

/-- A text in pieces, each with its flag ahead. -/
def pieces : Nat → List UInt8 → List (List UInt8)
  | 0, _ => []
  | f + 1, t => if t = [] then [] else (fl (decide (t.length ≤ 32767)) ++ t.take 32767) :: pieces f (t.drop 32767)

end Go.Proofs.Ytgknpbgepgmmmaa.Kp
namespace Go.Proofs.Ytgknpbgepgmmmaa.Kp
open Go.RowKit Bn

/-- A writer made at w0's end, with these bytes in it; nothing of w0 has turned. -/
def Wb (w0 w : World) (bs : List UInt8) : Prop := ∃ v, Wr w 71 (w0.heap.size + 1) w0.heap.size v bs ∧ Below w0.heap.size w0 w

theorem wb_new (w0 : World) : Wb w0 (w0.alloc (.cells #[.slice none 0 0] 71)) [] :=
  ⟨_, ⟨heap_alloc_new _ _, World.ownsRow_nil _ _ _ _⟩, (Below.refl _ _).alloc (Nat.le_refl _) _⟩

theorem Wb.step {w0 w w' : World} {v v' : Value} {bs cs : List UInt8} (hW : Wr w 71 (w0.heap.size + 1) w0.heap.size v bs) (hb : Below w0.heap.size w0 w) (hW' : Wr w' 71 (w0.heap.size + 1) w0.heap.size v' cs) (hr : Wrote w w' w0.heap.size v.ownBlock) : Wb w0 w' cs :=
  ⟨v', hW', hb.trans (wrote_below hr (Nat.le_refl _) (fun k hk => by have := (hW.2.lt k hk).1; omega) hb.size)⟩

theorem wb_flag {w0 w : World} {bs : List UInt8} (h : Wb w0 w bs) (b : Bool) (hl : bs.length + 1 ≤ 140737488355328) :
    Calls Try.prog 40 #[.pointer (some ⟨w0.heap.size, 0, none⟩), .bool b] w fun e w' => e = .returned (.tuple #[]) ∧ Hid (Wb w0 w' (bs ++ fl b)) := by
  obtain ⟨v, hW, hb⟩ := h
  refine (wflag_any _ _ v bs b w hW (by have := hW.lt; omega) hl).mono ?_
  rintro e w' ⟨rfl, v', hW', hr, _⟩
  exact ⟨rfl, Wb.step hW hb hW' hr⟩

theorem wb_num {w0 w : World} {bs : List UInt8} (h : Wb w0 w bs) (n : Int) (hn : I64 n) (hl : bs.length + 10 ≤ 140737488355328) :
    Calls Try.prog 31 #[.pointer (some ⟨w0.heap.size, 0, none⟩), .int .i64 n] w fun e w' => e = .returned (.tuple #[]) ∧ Hid (Wb w0 w' (bs ++ enc n)) := by
  obtain ⟨v, hW, hb⟩ := h
  refine (wnum_any _ _ v bs n w hW (by have := hW.lt; omega) hn.1 hn.2 hl).mono ?_
  rintro e w' ⟨rfl, v', hW', hr, _⟩
  exact ⟨rfl, Wb.step hW hb hW' hr⟩

theorem wb_text {w0 w : World} {bs t : List UInt8} {vt : Value} (h : Wb w0 w bs) (hS : Sl w0 vt t) (hl : bs.length + 10 + t.length ≤ 140737488355328) :
    Calls Try.prog 32 #[.pointer (some ⟨w0.heap.size, 0, none⟩), vt] w fun e w' => e = .returned (.tuple #[]) ∧ Hid (Wb w0 w' (bs ++ encT t)) := by
  obtain ⟨v, hW, hb⟩ := h
  refine (wtext_any _ _ v _ bs t w hW (by have := hW.lt; omega) (hS.below hb) (fun w' hw => ?_) hl).mono ?_
  · exact hS.below (hb.trans (wrote_below hw (Nat.le_refl _) (fun k hk => by have := (hW.2.lt k hk).1; omega) hb.size))
  · rintro e w' ⟨rfl, v', hW', hr, _⟩
    exact ⟨rfl, Wb.step hW hb hW' hr⟩

theorem wb_bytes {w0 w : World} {bs : List UInt8} (h : Wb w0 w bs) (hl : bs.length ≤ 140737488355328) :
    Calls Try.prog 33 #[.pointer (some ⟨w0.heap.size, 0, none⟩)] w fun e w' => ∃ ao L cap, e = .returned (.slice ao L cap) ∧ Hid (w'.ownsRow w0.heap.size 5 1 (.slice ao L cap) bs.length (cells8 bs) ∧ Below w0.heap.size w0 w') := by
  obtain ⟨v, hW, hb⟩ := h
  refine (wbytes_any _ _ v bs w hW hl).mono ?_
  rintro e w' ⟨v', rfl, hO, hb'⟩
  obtain ⟨ao, L, cap, rfl⟩ := own_slice hO
  exact ⟨ao, L, cap, rfl, own_lower hO hb.size, hb.trans (hb'.mono hb.size)⟩

end Go.Proofs.Ytgknpbgepgmmmaa.Kp
namespace Go.Proofs.Ytgknpbgepgmmmaa.Kp
open Go.RowKit Bn

/-- The four cells of an entry. -/
def EntAt (w : World) (g o : Nat) (e : Ent) : Prop :=
  ∃ ad ld cd, w.cell? ⟨g, o, none⟩ = some (.int .i64 e.idx) ∧ w.cell? ⟨g, o + 1, none⟩ = some (.int .i64 e.term) ∧ w.cell? ⟨g, o + 2, none⟩ = some (.int .i64 e.kind) ∧
    w.cell? ⟨g, o + 3, none⟩ = some (.slice ad ld cd) ∧ Sl w (.slice ad ld cd) e.data
/-- A slice value that reads as these entries. -/
def Es (w : World) (v : Value) (es : List Ent) : Prop :=
  ∃ ao cap, v = .slice ao es.length cap ∧ es.length ≤ cap ∧ cap ≤ maxLen ∧
    (0 < es.length → ∃ g off, ao = some ⟨g, off, none⟩ ∧ ∀ j e, es[j]? = some e → EntAt w g (off + j * 4) e)
theorem EntAt.below {w w' : World} {g o : Nat} {e : Ent} (h : EntAt w g o e) (hb : Below w.heap.size w w') : EntAt w' g o e := by
  obtain ⟨ad, ld, cd, h0, h1, h2, h3, h4⟩ := h
  have K : ∀ o u, w.cell? ⟨g, o, none⟩ = some u → w'.cell? ⟨g, o, none⟩ = some u := fun o u hc => (World.cell?_of_block (w := w) (a := ⟨g, o, none⟩) (hb.block g (cell_lt hc))).trans hc
  exact ⟨ad, ld, cd, K _ _ h0, K _ _ h1, K _ _ h2, K _ _ h3, h4.below hb⟩
theorem Es.below {w w' : World} {v : Value} {es : List Ent} (h : Es w v es) (hb : Below w.heap.size w w') : Es w' v es := by
  obtain ⟨ao, cap, hv, h1, h2, h4⟩ := h
  refine ⟨ao, cap, hv, h1, h2, fun hp => ?_⟩
  obtain ⟨g, off, ha, hc⟩ := h4 hp
  exact ⟨g, off, ha, fun j e hj => (hc j e hj).below hb⟩

theorem Wb.alloc {w0 w : World} {bs : List UInt8} (h : Wb w0 w bs) (o : Obj) : Wb w0 (w.alloc o) bs := by
  obtain ⟨v, hW, hb⟩ := h
  refine ⟨v, ⟨?_, hW.2.alloc _⟩, hb.alloc hb.size o⟩
  have := ((Below.refl w.heap.size w).alloc (Nat.le_refl _) o).block w0.heap.size hW.lt
  rw [this]; exact hW.1

theorem encE_le (e : Ent) : (encE e).length ≤ 40 + e.data.length := by
  have h1 := enc_le e.idx
  have h2 := enc_le e.term
  have h3 := enc_le e.kind
  have h4 := enc_le e.data.length
  simp only [encE, encT, List.length_append]
  omega

def esz (es : List Ent) : Nat := (es.map fun e => 40 + e.data.length).sum
theorem flat_le (es : List Ent) : (es.flatMap encE).length ≤ esz es := by
  induction es with
  | nil => simp [esz]
  | cons e es ih => have := encE_le e; simp [esz] at ih ⊢; omega
theorem esz_cut (es : List Ent) (k : Nat) (e : Ent) (h : es[k]? = some e) : esz (es.take k) + (40 + e.data.length) ≤ esz es := by
  obtain ⟨hk, rfl⟩ := List.getElem?_eq_some_iff.1 h
  have e1 : es = es.take k ++ es[k] :: es.drop (k + 1) := by simp
  have : esz es = esz (es.take k) + (40 + es[k].data.length + esz (es.drop (k + 1))) := by
    conv => lhs; rw [e1]
    rw [esz, List.map_append, List.map_cons, List.sum_append, List.sum_cons]
    rfl
  omega
theorem take_more (es : List Ent) (k : Nat) (e : Ent) (h : es[k]? = some e) : (es.take (k + 1)).flatMap encE = (es.take k).flatMap encE ++ encE e := by
  obtain ⟨hk, rfl⟩ := List.getElem?_eq_some_iff.1 h
  rw [List.take_add_one, List.getElem?_eq_getElem hk, Option.toList_some, List.flatMap_append]
  simp

/-- Blocks of other kinds stay. -/
def Oth (w w' : World) : Prop := ∀ (k : Nat) (c : Array Value) (T : TypeId) (f : Nat × Nat), T ≠ 5 → T ≠ 71 → w.heap[k]? = some (Obj.cells c T f) → w'.heap[k]? = some (Obj.cells c T f)
theorem oth_of {w w' : World} {b B : Nat} {v : Value} {bs : List UInt8} (hW : Wr w 71 b B v bs) (hr : Wrote w w' B v.ownBlock) : Oth w w' := by
  intro k c T f h5 h9 hk
  rw [hr.block k (lt_of_block hk) ?_ ?_]
  · exact hk
  · rintro rfl
    rw [hW.1] at hk
    simp at hk
    exact h9 hk.2.1.symm
  · intro e
    rcases hW.2.2 with ⟨rfl, _⟩ | ⟨g, cap, cur, rfl, _, hg, _⟩
    · simp [Value.ownBlock] at e
    · simp [Value.ownBlock] at e
      subst e
      rw [hg] at hk
      simp at hk
      exact h5 hk.2.1.symm

theorem wo_num {w0 w : World} {bs : List UInt8} (h : Wb w0 w bs) (n : Int) (hn : I64 n) (hl : bs.length + 10 ≤ 140737488355328) :
    Calls Try.prog 31 #[.pointer (some ⟨w0.heap.size, 0, none⟩), .int .i64 n] w fun e w' => e = .returned (.tuple #[]) ∧ Hid (Wb w0 w' (bs ++ enc n) ∧ Oth w w') := by
  obtain ⟨v, hW, hb⟩ := h
  refine (wnum_any _ _ v bs n w hW (by have := hW.lt; omega) hn.1 hn.2 hl).mono ?_
  rintro e w' ⟨rfl, v', hW', hr, _⟩
  exact ⟨rfl, Wb.step hW hb hW' hr, oth_of hW hr⟩
theorem wo_text {w0 w : World} {bs t : List UInt8} {vt : Value} (h : Wb w0 w bs) (hS : Sl w0 vt t) (hl : bs.length + 10 + t.length ≤ 140737488355328) :
    Calls Try.prog 32 #[.pointer (some ⟨w0.heap.size, 0, none⟩), vt] w fun e w' => e = .returned (.tuple #[]) ∧ Hid (Wb w0 w' (bs ++ encT t) ∧ Oth w w') := by
  obtain ⟨v, hW, hb⟩ := h
  refine (wtext_any _ _ v _ bs t w hW (by have := hW.lt; omega) (hS.below hb) (fun w' hw => ?_) hl).mono ?_
  · exact hS.below (hb.trans (wrote_below hw (Nat.le_refl _) (fun k hk => by have := (hW.2.lt k hk).1; omega) hb.size))
  · rintro e w' ⟨rfl, v', hW', hr, _⟩
    exact ⟨rfl, Wb.step hW hb hW' hr, oth_of hW hr⟩

theorem four_cells {w : World} {B T : Nat} {a b c d : Value} (h : w.heap[B]? = some (.cells #[a, b, c, d] T (0, 0))) :
    w.cell? ⟨B, 0, none⟩ = some a ∧ w.cell? ⟨B, 1, none⟩ = some b ∧ w.cell? ⟨B, 2, none⟩ = some c ∧ w.cell? ⟨B, 3, none⟩ = some d := by
  refine ⟨?_, ?_, ?_, ?_⟩ <;> rw [cell_of_row w B _ _ T (0, 0) h] <;> rfl

/-- What writing one entry does, call by call. -/
theorem ent_calls {w0 w : World} {bs : List UInt8} (h : Wb w0 w bs) (e : Ent) (he : e.ok) (ad : Option Addr) (ld cd : Nat) (hS : Sl w0 (.slice ad ld cd) e.data) (hl : bs.length + (40 + e.data.length) ≤ 140737488355328) (E : Nat)
    (hE : w.heap[E]? = some (.cells #[.int .i64 e.idx, .int .i64 e.term, .int .i64 e.kind, .slice ad ld cd] 90 (0, 0))) :
    Calls Try.prog 31 #[.pointer (some ⟨w0.heap.size, 0, none⟩), .int .i64 e.idx] w fun x w1 => x = .returned (.tuple #[]) ∧ w1.cell? ⟨E, 1, none⟩ = some (.int .i64 e.term) ∧ Hid (
    Calls Try.prog 31 #[.pointer (some ⟨w0.heap.size, 0, none⟩), .int .i64 e.term] w1 fun x w2 => x = .returned (.tuple #[]) ∧ w2.cell? ⟨E, 2, none⟩ = some (.int .i64 e.kind) ∧ Hid (
    Calls Try.prog 31 #[.pointer (some ⟨w0.heap.size, 0, none⟩), .int .i64 e.kind] w2 fun x w3 => x = .returned (.tuple #[]) ∧ w3.cell? ⟨E, 3, none⟩ = some (.slice ad ld cd) ∧ Hid (
    Calls Try.prog 32 #[.pointer (some ⟨w0.heap.size, 0, none⟩), .slice ad ld cd] w3 fun x w4 => x = .returned (.tuple #[]) ∧ Hid (Wb w0 w4 (bs ++ encE e))))) := by
  obtain ⟨o1, o2, o3, o4⟩ := he
  have l1 := enc_le e.idx
  have l2 := enc_le e.term
  have l3 := enc_le e.kind
  refine (wo_num h _ o1 (by omega)).mono ?_
  rintro x w1 ⟨rfl, h1⟩
  have E1 := h1.out.2 _ _ _ _ (by decide) (by decide) hE
  refine ⟨rfl, (four_cells E1).2.1, ?_⟩
  refine (wo_num h1.out.1 _ o2 (by simp only [List.length_append]; omega)).mono ?_
  rintro x w2 ⟨rfl, h2⟩
  have E2 := h2.out.2 _ _ _ _ (by decide) (by decide) E1
  refine ⟨rfl, (four_cells E2).2.2.1, ?_⟩
  refine (wo_num h2.out.1 _ o3 (by simp only [List.length_append]; omega)).mono ?_
  rintro x w3 ⟨rfl, h3⟩
  have E3 := h3.out.2 _ _ _ _ (by decide) (by decide) E2
  refine ⟨rfl, (four_cells E3).2.2.2, ?_⟩
  refine (wo_text h3.out.1 hS (by simp only [List.length_append]; omega)).mono ?_
  rintro x w4 ⟨rfl, h4⟩
  refine ⟨rfl, ?_⟩
  have := h4.out.1
  simp only [List.append_assoc] at this
  show Wb _ _ _
  simpa only [encE, List.append_assoc] using this

end Go.Proofs.Ytgknpbgepgmmmaa.Kp
namespace Go.Proofs.Ytgknpbgepgmmmaa.Kp
open Go.RowKit Bn

/-- A reader whose bytes lie below b. -/
def Rq (w : World) (b B : Nat) (st : Option (List UInt8)) : Prop := ∃ v, w.heap[B]? = some (.cells #[v, .bool st.isNone] 108 (0, 0)) ∧ Sl w v (st.getD []) ∧ Pl v ∧ (st.getD []).length ≤ 140737488355328 ∧ ∀ k, v.ownBlock = some k → k < b
theorem Rq.rd {w : World} {b B : Nat} {st : Option (List UInt8)} (h : Rq w b B st) : Rd w 108 B st := by
  obtain ⟨v, h1, h2, h3, h4, _⟩ := h
  exact ⟨v, h1, h2, h3, h4⟩
theorem Rq.put {w : World} {b B : Nat} {v x : Value} {st bs : List UInt8} (hB : w.heap[B]? = some (.cells #[v, .bool false] 108 (0, 0))) (hv : Sl w v st) (hx : Sl w x bs) (hp : Pl x) (hl : bs.length ≤ 140737488355328) (hk : ∀ k, x.ownBlock = some k → k < b) :
    Rq (w.setCell ⟨B, 0, none⟩ x) b B (some bs) ∧ w.grownBy (w.setCell ⟨B, 0, none⟩ x) (some B) := by
  obtain ⟨⟨u, h1, h2, h3, h4⟩, hg⟩ := Rd.put hB hv hx hp hl
  have e := set_first (x := x) hB
  rw [h1] at e
  simp at e
  subst e
  exact ⟨⟨u, h1, h2, h3, h4, hk⟩, hg⟩
theorem Rq.below {w w' : World} {b B : Nat} {st : Option (List UInt8)} (h : Rq w b B st) (hb : Below w.heap.size w w') : Rq w' b B st := by
  obtain ⟨u, hB, hu, hp, hl, hk⟩ := h
  exact ⟨u, by rw [hb.block B (lt_of_block hB)]; exact hB, hu.below hb, hp, hl, hk⟩
/-- What is done from b on leaves it. -/
theorem Rq.above {w w' : World} {b B : Nat} {st : Option (List UInt8)} (h : Rq w b B st) (hB : B < b) (hb : Below b w w') : Rq w' b B st := by
  obtain ⟨u, hBl, hu, hp, hl, hk⟩ := h
  refine ⟨u, by rw [hb.block B hB]; exact hBl, ?_, hp, hl, hk⟩
  obtain ⟨ao, cap, rfl, a1, a2, a3, a4⟩ := hu
  refine ⟨ao, cap, rfl, a1, a2, a3, fun h0 => ?_⟩
  obtain ⟨g, off, rfl, hc⟩ := a4 h0
  have hg : g < b := hk g rfl
  exact ⟨g, off, rfl, fun j hj => (World.cell?_of_block (w := w) (a := ⟨g, off + j, none⟩) (hb.block g hg)).trans (hc j hj)⟩

set_option maxHeartbeats 400000 in
theorem fail_q (b B : Nat) (st : Option (List UInt8)) (w : World) (h : Rq w b B st) :
    Calls Try.prog 65 #[.pointer (some ⟨B, 0, none⟩)] w fun e w' => e = .returned (.tuple #[]) ∧ Rq w' b B none ∧ w.grownBy w' (some B) := by
  obtain ⟨v, hB, hv, _⟩ := h
  obtain ⟨c0, c1, f0, f1⟩ := two_cells hB
  have hfin : Rq ((w.setCell ⟨B, 0, none⟩ (.slice none 0 0)).setCell ⟨B, 1, none⟩ (.bool true)) b B none ∧ w.grownBy ((w.setCell ⟨B, 0, none⟩ (.slice none 0 0)).setCell ⟨B, 1, none⟩ (.bool true)) (some B) :=
    ⟨⟨_, set_second (set_first hB), Sl.nil _, Or.inl rfl, by simp, by simp [Value.ownBlock]⟩, grown_set (grown_set (grown_refl _ _))⟩
  clear hB hv
  go_enter Try.func65, Try.ntmps65
  go_wp2
  go_end0
  exact ⟨rfl, hfin⟩

set_option maxHeartbeats 400000 in
theorem qnum_none (b B : Nat) (w : World) (h : Rq w b B none) :
    Calls Try.prog 35 #[.pointer (some ⟨B, 0, none⟩)] w fun e w' => e = .returned (.int .i64 0) ∧ Rq w' b B none ∧ w.grownBy w' (some B) := by
  go_enter Try.func35, Try.ntmps35
  go_wp2_with (go_at_call 63; refine (ok_any B none _ h.rd).mono ?_; rintro e w' ⟨rfl, rfl⟩)
  go_ret
  exact ⟨rfl, h, grown_refl _ _⟩

set_option maxHeartbeats 400000 in
theorem qnum_bad (b B : Nat) (bs : List UInt8) (w : World) (h : Rq w b B (some bs)) (hn : num bs = none) :
    Calls Try.prog 35 #[.pointer (some ⟨B, 0, none⟩)] w fun e w' => e = .returned (.int .i64 0) ∧ Rq w' b B none ∧ w.grownBy w' (some B) := by
  have H : Hid (Rq w b B (some bs)) := h
  obtain ⟨v, hB, hv, hp, hlim, _⟩ := h
  obtain ⟨c0, c1, f0, f1⟩ := two_cells hB
  obtain ⟨ao, cap, rfl, hc1, hc2⟩ := hv.shape
  have HN : Hid (num bs = none) := hn
  have HV : Hid (Sl w (.slice ao (Option.getD (some bs) []).length cap) ((some bs).getD [])) := hv
  clear hn hv hB hp hlim
  go_enter Try.func35, Try.ntmps35
  go_wp2_with (first
    | (go_at_call 63; refine (ok_any B (some bs) _ H.out.rd).mono ?_; rintro e w' ⟨rfl, rfl⟩)
    | (go_at_call 64; refine (groups_none _ bs _ HV.out HN.out).mono ?_; rintro e w' ⟨rfl, rfl⟩)
    | (go_at_call 65; refine (fail_q b B (some bs) _ H.out).mono ?_; rintro e w' ⟨rfl, hr', hg'⟩))
  go_ret
  exact ⟨rfl, hr', hg'⟩

set_option maxHeartbeats 400000 in
theorem qnum_ok (b B : Nat) (bs : List UInt8) (w : World) (h : Rq w b B (some bs)) (u k : Nat) (hn : num bs = some (u, k)) :
    Calls Try.prog 35 #[.pointer (some ⟨B, 0, none⟩)] w fun e w' => e = .returned (.int .i64 (zag u)) ∧ Rq w' b B (some (bs.drop k)) ∧ w.grownBy w' (some B) := by
  obtain ⟨hu, hk0, hkl, hk10⟩ := num_bds hn
  have H : Hid (Rq w b B (some bs)) := h
  obtain ⟨v, hB, hv, hp, hlim, hkk⟩ := h
  obtain ⟨c0, c1, f0, f1⟩ := two_cells hB
  obtain ⟨ao, cap, rfl, hc1, hc2⟩ := hv.shape
  have hkl' : k ≤ (Option.getD (some bs) []).length := hkl
  obtain ⟨g, off, rfl, _⟩ := hv.cell (by omega)
  have HN : Hid (num bs = some (u, k)) := hn
  have HP : Hid (_) := Rq.put (b := b) hB hv (sl_rest hv k hkl').1 (sl_rest hv k hkl').2 (by rw [List.length_drop]; omega) (fun k' hk' => by
    have := hkk g rfl
    split at hk' <;> simp [Value.ownBlock] at hk' <;> omega)
  have HV : Hid (Sl w (.slice (some ⟨g, off, none⟩) (Option.getD (some bs) []).length cap) ((some bs).getD [])) := hv
  have hkc : (k : Int) ≤ (bs.length : Int) := by omega
  have hne : ((k : Int) == 0) = false := by rw [beq_eq_false_iff_ne]; omega
  have hcm : (bs.length : Int) ≤ cap := by have : bs.length ≤ cap := hc1; omega
  clear hn hv hB hkl' hp hlim hkk
  go_enter Try.func35, Try.ntmps35
  go_wp2_with (first
    | (go_at_call 63; refine (ok_any B (some bs) _ H.out.rd).mono ?_; rintro e w' ⟨rfl, rfl⟩)
    | (go_at_call 64; refine (groups_ok _ bs _ HV.out u k HN.out).mono ?_; rintro e w' ⟨rfl, rfl⟩)
    | (go_at_call 66; refine (unfold_any u _ (by omega)).mono ?_; rintro e w' ⟨rfl, rfl⟩))
  all_goals go_ret
  · have hp := HP.out
    rw [if_pos (by assumption), show cap - k = 0 by omega] at hp
    exact ⟨rfl, hp⟩
  · have hp := HP.out
    rw [if_neg (by assumption)] at hp
    exact ⟨rfl, hp⟩

theorem qnum_any (b B : Nat) (st : Option (List UInt8)) (w : World) (h : Rq w b B st) :
    Calls Try.prog 35 #[.pointer (some ⟨B, 0, none⟩)] w fun e w' => e = .returned (.int .i64 (rNum st).1) ∧ Rq w' b B (rNum st).2 ∧ w.grownBy w' (some B) := by
  cases st with
  | none => exact qnum_none b B w h
  | some bs =>
    cases hn : num bs with
    | none => simp only [rNum, hn]; exact qnum_bad b B bs w h hn
    | some uk => obtain ⟨u, k⟩ := uk; simp only [rNum, hn]; exact qnum_ok b B bs w h u k hn
theorem qnum_is (b B : Nat) (st st1 : Option (List UInt8)) (n : Int) (w : World) (h : Rq w b B st) (hn : rNum st = (n, st1)) :
    Calls Try.prog 35 #[.pointer (some ⟨B, 0, none⟩)] w fun e w' => e = .returned (.int .i64 n) ∧ Rq w' b B st1 ∧ w.grownBy w' (some B) := by
  have := qnum_any b B st w h
  rw [hn] at this
  exact this

/-- A row that lies above stays while a reader's block is written. -/
theorem own_rd {w w' : World} {base B e s n : Nat} {v : Value} {xs : List Value} (h : w.ownsRow base e s v n xs) (hg : w.grownBy w' (some B)) (hB : B < base) : w'.ownsRow base e s v n xs := by
  refine ⟨h.1, ?_⟩
  rcases h.2 with h2 | ⟨g, cap, cur, e1, e2, e3, e4⟩
  · exact Or.inl h2
  · refine Or.inr ⟨g, cap, cur, e1, e2, ?_, e4⟩
    rw [hg.block g (lt_of_block e3) (by simp; omega)]
    exact e3

set_option maxHeartbeats 400000 in
theorem qtext_none (b B : Nat) (st : Option (List UInt8)) (n : Int) (w : World) (h : Rq w b B st) (hn : rNum st = (n, none)) :
    Calls Try.prog 36 #[.pointer (some ⟨B, 0, none⟩)] w fun e w' => ∃ v, e = .returned v ∧ w'.ownsRow w.heap.size 5 1 v ([] : List UInt8).length (cells8 []) ∧ Rq w' b B none ∧ w.grownBy w' (some B) := by
  have HN : Hid (rNum st = (n, none)) := hn
  clear hn
  go_enter Try.func36, Try.ntmps36
  go_wp2_with (first
    | (go_at_call 35; refine (qnum_is b B st none n _ h HN.out).mono ?_; rintro e w1 ⟨rfl, hr1, hg1⟩)
    | (go_at_call 63; refine (ok_any B none _ hr1.rd).mono ?_; rintro e w' ⟨rfl, rfl⟩))
  go_ret
  exact ⟨_, rfl, World.ownsRow_nil _ _ _ _, hr1, hg1⟩

set_option maxHeartbeats 400000 in
theorem qtext_bad (b B : Nat) (st : Option (List UInt8)) (bs : List UInt8) (n : Int) (w : World) (h : Rq w b B st) (hn : rNum st = (n, some bs)) (hb : ¬ (0 ≤ n ∧ n ≤ bs.length)) :
    Calls Try.prog 36 #[.pointer (some ⟨B, 0, none⟩)] w fun e w' => ∃ v, e = .returned v ∧ w'.ownsRow w.heap.size 5 1 v ([] : List UInt8).length (cells8 []) ∧ Rq w' b B none ∧ w.grownBy w' (some B) := by
  have HN : Hid (rNum st = (n, some bs)) := hn
  clear hn
  by_cases h0 : n < 0
  · clear hb
    go_enter Try.func36, Try.ntmps36
    go_wp2_with (first
      | (go_at_call 35; refine (qnum_is b B st (some bs) n _ h HN.out).mono ?_; rintro e w1 ⟨rfl, hr1, hg1⟩)
      | (go_at_call 63; refine (ok_any B (some bs) _ hr1.rd).mono ?_; rintro e w' ⟨rfl, rfl⟩)
      | (go_at_call 65; refine (fail_q b B (some bs) _ hr1).mono ?_; rintro e w2 ⟨rfl, hr2, hg2⟩))
    go_ret
    exact ⟨_, rfl, World.ownsRow_nil _ _ _ _, hr2, hg1.trans hg2⟩
  · have h1 : (bs.length : Int) < n := by omega
    clear hb
    go_enter Try.func36, Try.ntmps36
    go_wp2_with (first
      | (go_at_call 35; refine (qnum_is b B st (some bs) n _ h HN.out).mono ?_; rintro e w1 ⟨rfl, hr1, hg1⟩)
      | (go_at_call 63; refine (ok_any B (some bs) _ hr1.rd).mono ?_; rintro e w' ⟨rfl, rfl⟩; have H1 : Hid _ := hr1; obtain ⟨v, hB, hv, _, _⟩ := hr1; obtain ⟨ao, cap, rfl, _, _⟩ := hv.shape; obtain ⟨c0, _, _, _⟩ := two_cells hB; clear hB hv)
      | (go_at_call 65; refine (fail_q b B (some bs) _ H1.out).mono ?_; rintro e w2 ⟨rfl, hr2, hg2⟩))
    go_ret
    exact ⟨_, rfl, World.ownsRow_nil _ _ _ _, hr2, hg1.trans hg2⟩

set_option maxHeartbeats 400000 in
theorem qtext_ok (b B : Nat) (st : Option (List UInt8)) (bs : List UInt8) (m : Nat) (w : World) (h : Rq w b B st) (hn : rNum st = ((m : Int), some bs)) (hb : m ≤ bs.length) :
    Calls Try.prog 36 #[.pointer (some ⟨B, 0, none⟩)] w fun e w' => ∃ v, e = .returned v ∧ w'.ownsRow w.heap.size 5 1 v (bs.take m).length (cells8 (bs.take m)) ∧ Rq w' b B (some (bs.drop m)) ∧ w.grownBy w' (some B) := by
  have HN : Hid (rNum st = ((m : Int), some bs)) := hn
  have hBw : B < w.heap.size := h.rd.lt
  clear hn
  have hb' : (m : Int) ≤ bs.length := by omega
  go_enter Try.func36, Try.ntmps36
  go_wp2_with fail
  refine (qnum_is b B st (some bs) m _ h HN.out).mono ?_
  rintro e w1 ⟨rfl, hr1, hg1⟩
  have H1 : Hid (Rq w1 b B (some bs)) := hr1
  obtain ⟨v, hB, hv, hp, hlim, hkk⟩ := hr1
  have hlim' : bs.length ≤ 140737488355328 := hlim
  rcases hp with rfl | ⟨g, off, n', cap, rfl⟩
  · have e0 := hv.len
    simp only [Option.getD_some] at e0
    have e1 : bs = [] := List.eq_nil_of_length_eq_zero e0.symm
    subst e1
    have e2 : m = 0 := by simpa using hb
    subst e2
    obtain ⟨c0, c1, f0, f1⟩ := two_cells hB
    have HP : Hid (_) := Rq.put (b := b) hB hv (Sl.nil _) (Or.inl rfl) (by simp) (by simp [Value.ownBlock])
    clear hv hlim hlim' hB e0 hb hb' hkk
    go_wp2_with (first
      | (go_at_call 63; refine (ok_any B (some []) _ H1.out.rd).mono ?_; rintro e w' ⟨rfl, rfl⟩)
      | (go_at_call 61; refine (clone_nil _).mono ?_; rintro e w2 ⟨rfl, rfl⟩))
    go_ret
    exact ⟨_, rfl, World.ownsRow_nil _ _ _ _, HP.out.1, hg1.trans HP.out.2⟩
  · have e0 := hv.len
    simp only [Option.getD_some] at e0
    subst e0
    have hcap : bs.length ≤ cap := by obtain ⟨_, _, e, h1, _⟩ := hv; simp only [Value.slice.injEq] at e; rw [e.2.2]; exact h1
    obtain ⟨c0, c1, f0, f1⟩ := two_cells hB
    have hBl := lt_of_block hB
    have HV : Hid (Sl w1 (.slice (some ⟨g, off, none⟩) bs.length cap) bs) := hv
    have HB : Hid (_) := hB
    have HK : Hid (g < b) := hkk g rfl
    clear hv hlim hB hkk
    go_wp2_with (first
      | (go_at_call 63; refine (ok_any B (some bs) _ H1.out.rd).mono ?_; rintro e w' ⟨rfl, rfl⟩)
      | (go_at_call 61; refine (clone_any _ (bs.take m) _ (HV.out.take m hb) (by rw [List.length_take]; omega)).mono ?_; rintro e w2 ⟨v', rfl, hown, hb2⟩; have c0' := (hb2.cell (p := ⟨B, 0, none⟩) hBl).trans c0; have f0' := (hb2.frozen (p := ⟨B, 0, none⟩) hBl).trans f0; obtain ⟨ao', cap', rfl, _, _⟩ := (Sl.of_own hown).shape))
    all_goals go_ret
    all_goals
      have hB2 := (hb2.block B hBl).trans HB.out
      have hv2 := HV.out.below hb2
      have HP := Rq.put (b := b) hB2 hv2 (sl_rest hv2 m hb).1 (sl_rest hv2 m hb).2 (by rw [List.length_drop]; omega) (fun k' hk' => by
        have := HK.out
        split at hk' <;> simp [Value.ownBlock] at hk' <;> omega)
      have HS := own_lower (own_rd hown HP.2 hBl) hg1.size
      have hlm : (bs.take m).length = m := by rw [List.length_take]; omega
    · rw [if_pos (by assumption), show cap - m = 0 by omega] at HP HS
      rw [hlm] at HS
      exact ⟨_, rfl, HS, HP.1, (grown_below hg1 hb2).trans HP.2⟩
    · rw [if_neg (by assumption)] at HP HS
      rw [hlm] at HS
      exact ⟨_, rfl, HS, HP.1, (grown_below hg1 hb2).trans HP.2⟩

theorem qtext_any (b B : Nat) (st : Option (List UInt8)) (w : World) (h : Rq w b B st) :
    Calls Try.prog 36 #[.pointer (some ⟨B, 0, none⟩)] w fun e w' => ∃ v, e = .returned v ∧ w'.ownsRow w.heap.size 5 1 v (rText st).1.length (cells8 (rText st).1) ∧ Rq w' b B (rText st).2 ∧ w.grownBy w' (some B) := by
  unfold rText
  cases hn : rNum st with
  | mk n st1 =>
    cases st1 with
    | none => exact qtext_none b B st n w h hn
    | some bs =>
      simp only [rCut]
      by_cases hb : 0 ≤ n ∧ n ≤ bs.length
      · rw [if_pos hb]
        obtain ⟨m, rfl⟩ := Int.eq_ofNat_of_zero_le hb.1
        exact qtext_ok b B st bs m w h hn (by omega)
      · rw [if_neg hb]
        exact qtext_bad b B st bs n w h hn hb

end Go.Proofs.Ytgknpbgepgmmmaa.Kp
namespace Go.Proofs.Ytgknpbgepgmmmaa.Kp
open Go.RowKit Bn

theorem Try.info90 : (Try.prog.info? 90).map (fun i => (i.zero, i.size, i.bytes)) = some (some (.agg #[.int .i64 0, .int .i64 0, .int .i64 0, .slice none 0 0]), 4, 48) := by kernel_rfl

def cellsE (es : List Ent) (us : List Value) : List Value := (es.zip us).flatMap fun t => [.int .i64 t.1.idx, .int .i64 t.1.term, .int .i64 t.1.kind, t.2]
/-- A row of entries of one's own, from b on. -/
def Er (b : Nat) (W : World) (v : Value) (es : List Ent) : Prop :=
  ∃ us : List Value, us.length = es.length ∧ W.ownsRow b 90 4 v es.length (cellsE es us) ∧ ∀ (j : Nat) (e : Ent), es[j]? = some e → ∃ u, us[j]? = some u ∧ W.ownsRow b 5 1 u e.data.length (cells8 e.data)
theorem Er.nil (b : Nat) (W : World) : Er b W (.slice none 0 0) [] := ⟨[], rfl, World.ownsRow_nil _ _ _ _, fun j e h => by simp at h⟩
theorem Er.rd {b B : Nat} {W W' : World} {v : Value} {es : List Ent} (h : Er b W v es) (hg : W.grownBy W' (some B)) (hB : B < b) : Er b W' v es := by
  obtain ⟨us, h1, h2, h3⟩ := h
  refine ⟨us, h1, own_rd h2 hg hB, fun j e hj => ?_⟩
  obtain ⟨u, h4, h5⟩ := h3 j e hj
  exact ⟨u, h4, own_rd h5 hg hB⟩
theorem own_type {W W' : World} {b n m : Nat} {u v : Value} {xs ys : List Value} (h : W.ownsRow b 5 1 u n xs) (hv : W.ownsRow b 90 4 v m ys) (hg : W.grownBy W' v.ownBlock) : W'.ownsRow b 5 1 u n xs := by
  refine ⟨h.1, ?_⟩
  rcases h.2 with h2 | ⟨g, cap, cur, e1, e2, e3, e4⟩
  · exact Or.inl h2
  · refine Or.inr ⟨g, cap, cur, e1, e2, ?_, e4⟩
    rw [hg.block g (lt_of_block e3) (fun e => ?_)]
    · exact e3
    · rcases hv.2 with ⟨rfl, _⟩ | ⟨g', cap', cur', rfl, _, hg', _⟩
      · simp [Value.ownBlock] at e
      · simp [Value.ownBlock] at e
        subst e
        rw [e3] at hg'
        simp at hg'
theorem cellsE_snoc (es : List Ent) (us : List Value) (e : Ent) (u : Value) (h : us.length = es.length) : cellsE (es ++ [e]) (us ++ [u]) = cellsE es us ++ [.int .i64 e.idx, .int .i64 e.term, .int .i64 e.kind, u] := by
  rw [cellsE, List.zip_append h.symm, List.flatMap_append]
  rfl
theorem Er.push {b : Nat} {W W' : World} {v v' u : Value} {es : List Ent} {us : List Value} {e : Ent} (h1 : us.length = es.length) (h2 : W.ownsRow b 90 4 v es.length (cellsE es us)) (h3 : ∀ (j : Nat) (e : Ent), es[j]? = some e → ∃ u, us[j]? = some u ∧ W.ownsRow b 5 1 u e.data.length (cells8 e.data))
    (hu : W.ownsRow b 5 1 u e.data.length (cells8 e.data)) (hO : W'.ownsRow b 90 4 v' (es.length + 1) (cellsE es us ++ [.int .i64 e.idx, .int .i64 e.term, .int .i64 e.kind, u])) (hg : W.grownBy W' v.ownBlock) : Er b W' v' (es ++ [e]) := by
  refine ⟨us ++ [u], by simp [h1], by rw [cellsE_snoc es us e u h1, List.length_append]; exact hO, fun j x hj => ?_⟩
  by_cases hlt : j < es.length
  · rw [List.getElem?_append_left hlt] at hj
    obtain ⟨y, h4, h5⟩ := h3 j x hj
    exact ⟨y, by rw [List.getElem?_append_left (by omega)]; exact h4, own_type h5 h2 hg⟩
  · rw [List.getElem?_append_right (by omega)] at hj
    have hj0 : j - es.length = 0 := by
      by_cases h0 : j - es.length = 0
      · exact h0
      · rw [List.getElem?_eq_none (by simp; omega)] at hj; simp at hj
    rw [hj0] at hj
    simp at hj
    subst hj
    exact ⟨u, by rw [List.getElem?_append_right (by omega), h1, hj0]; rfl, own_type hu h2 hg⟩

def lenS (st : R) : Nat := (st.getD []).length
theorem rNum_len (st : R) : lenS (rNum st).2 ≤ lenS st - 1 := by
  cases st with
  | none => simp [rNum, lenS]
  | some bs =>
    cases hn : num bs with
    | none => simp [rNum, hn, lenS]
    | some uk =>
      obtain ⟨u, k⟩ := uk
      obtain ⟨_, h2, _, _⟩ := num_bds hn
      simp [rNum, hn, lenS]
      omega
theorem rText_len (st : R) : lenS (rText st).2 ≤ lenS st - 1 := by
  have h := rNum_len st
  unfold rText
  cases hn : (rNum st).2 with
  | none => simp [lenS]
  | some bs =>
    rw [hn] at h
    simp only [rCut]
    split
    · simp [lenS] at h ⊢; omega
    · simp [lenS]

def lenV : Value → Nat
  | .slice _ n _ => n
  | _ => 0
/-- The state of reading entries: what is read, what is left. -/
def Rs (w : World) (B f0 : Nat) (st0 : R) (wr : World) (v : Value) (es : List Ent) (st : R) : Prop :=
  Rq wr w.heap.size B st ∧ Er w.heap.size wr v es ∧ w.grownBy wr (some B) ∧ ∃ f, lenS st ≤ f ∧ es ++ (rdE f st).1 = (rdE f0 st0).1 ∧ (rdE f st).2 = (rdE f0 st0).2

/-- The calls of one round. -/
theorem re_calls {w wr : World} {B f0 : Nat} {st0 st : R} {v : Value} {es : List Ent} (h : Rs w B f0 st0 wr v es st) (hB : B < w.heap.size) (hp : 0 < lenS st) :
    ∃ (e : Ent) (st' : R), lenS st' + 1 ≤ lenS st ∧ Hid (
    Calls Try.prog 35 #[.pointer (some ⟨B, 0, none⟩)] wr fun x w1 => x = .returned (.int .i64 e.idx) ∧ Hid (
    Calls Try.prog 35 #[.pointer (some ⟨B, 0, none⟩)] w1 fun x w2 => x = .returned (.int .i64 e.term) ∧ Hid (
    Calls Try.prog 35 #[.pointer (some ⟨B, 0, none⟩)] w2 fun x w3 => x = .returned (.int .i64 e.kind) ∧ Hid (
    Calls Try.prog 36 #[.pointer (some ⟨B, 0, none⟩)] (w3.alloc (.cells #[.int .i64 e.idx, .int .i64 e.term, .int .i64 e.kind, .slice none 0 0] 90)) fun x w5 => ∃ ad ld cd, x = .returned (.slice ad ld cd) ∧
      w5.cell? ⟨w3.heap.size, 0, none⟩ = some (.int .i64 e.idx) ∧ w5.cell? ⟨w3.heap.size, 1, none⟩ = some (.int .i64 e.term) ∧ w5.cell? ⟨w3.heap.size, 2, none⟩ = some (.int .i64 e.kind) ∧ w5.cell? ⟨w3.heap.size, 3, none⟩ = some (.slice none 0 0) ∧ w5.frozen? ⟨w3.heap.size, 3, none⟩ = false ∧ Hid (w.heap.size ≤ w5.heap.size) ∧
      Hid (∃ us, us.length = es.length ∧ ∀ o, ((w5.setCell ⟨w3.heap.size, 3, none⟩ (.slice ad ld cd)).alloc o).ownsRow w.heap.size 90 4 v es.length (cellsE es us) ∧
        ∀ w8 v', ((w5.setCell ⟨w3.heap.size, 3, none⟩ (.slice ad ld cd)).alloc o).grownBy w8 v.ownBlock → w8.ownsRow w.heap.size 90 4 v' (es.length + 1) (cellsE es us ++ [.int .i64 e.idx, .int .i64 e.term, .int .i64 e.kind, .slice ad ld cd]) → Rs w B f0 st0 w8 v' (es ++ [e]) st'))))) := by
  obtain ⟨hq, he, hg, f, hf, hr1, hr2⟩ := h
  obtain ⟨f', rfl⟩ : ∃ f', f = f' + 1 := ⟨f - 1, by omega⟩
  have hne : ¬ (st.getD []).length = 0 := by simp only [lenS] at hp; omega
  rw [rdE, if_neg hne] at hr1 hr2
  have l1 := rNum_len st
  have l2 := rNum_len (rNum st).2
  have l3 := rNum_len (rNum (rNum st).2).2
  have l4 := rText_len (rNum (rNum (rNum st).2).2).2
  refine ⟨⟨(rNum st).1, (rNum (rNum st).2).1, (rNum (rNum (rNum st).2).2).1, (rText (rNum (rNum (rNum st).2).2).2).1⟩, (rText (rNum (rNum (rNum st).2).2).2).2, by omega, ?_⟩
  refine (qnum_any _ B st wr hq).mono ?_
  rintro x w1 ⟨rfl, q1, g1⟩
  refine ⟨rfl, (qnum_any _ B _ w1 q1).mono ?_⟩
  rintro x w2 ⟨rfl, q2, g2⟩
  refine ⟨rfl, (qnum_any _ B _ w2 q2).mono ?_⟩
  rintro x w3 ⟨rfl, q3, g3⟩
  have g03 : wr.grownBy w3 (some B) := (g1.trans g2).trans g3
  have hs3 : w.heap.size ≤ w3.heap.size := Nat.le_trans hg.size g03.size
  obtain ⟨ob, hob⟩ : ∃ ob, ob = Obj.cells #[.int .i64 (rNum st).1, .int .i64 (rNum (rNum st).2).1, .int .i64 (rNum (rNum (rNum st).2).2).1, .slice none 0 0] 90 (0, 0) := ⟨_, rfl⟩
  have ba := (Below.refl w3.heap.size w3).alloc (Nat.le_refl _) ob
  have hsz4 : (w3.alloc ob).heap.size = w3.heap.size + 1 := by simp
  have hE4 : (w3.alloc ob).heap[w3.heap.size]? = some ob := heap_alloc_new _ _
  refine ⟨rfl, ?_⟩
  show Calls _ _ _ (w3.alloc (Obj.cells #[.int .i64 (rNum st).1, .int .i64 (rNum (rNum st).2).1, .int .i64 (rNum (rNum (rNum st).2).2).1, .slice none 0 0] 90 (0, 0))) _
  rw [← hob]
  refine (qtext_any _ B _ (w3.alloc ob) (q3.below ba)).mono ?_
  rintro x w5 ⟨u, rfl, hu, q5, g5⟩
  obtain ⟨ad, ld, cd, rfl⟩ := own_slice hu
  have hE5 : w5.heap[w3.heap.size]? = some ob := by rw [g5.block _ (by omega) (by simp; omega)]; exact hE4
  have hE5' := hE5
  rw [hob] at hE5'
  obtain ⟨c0, c1, c2, c3⟩ := four_cells hE5'
  have hs5 : w3.heap.size + 1 ≤ w5.heap.size := by have := g5.size; omega
  refine ⟨ad, ld, cd, rfl, c0, c1, c2, c3, frozen_of_row w5 _ 3 _ 90 hE5', (show w.heap.size ≤ w5.heap.size by omega), ?_⟩
  obtain ⟨us, h1, h2, h3⟩ := he
  obtain ⟨w6, hw6⟩ : ∃ w6, w6 = w5.setCell ⟨w3.heap.size, 3, none⟩ (.slice ad ld cd) := ⟨_, rfl⟩
  have g56 : w5.grownBy w6 (some w3.heap.size) := by rw [hw6]; exact grown_set (grown_refl _ _)
  have g06 : wr.grownBy w6 (some B) := by
    refine ⟨g56.os.trans (g5.os.trans (ba.os.trans g03.os)), g56.tape.trans (g5.tape.trans (ba.tape.trans g03.tape)), g56.output.trans (g5.output.trans (ba.output.trans g03.output)), ?_, fun k hk hne => ?_⟩
    · have a1 := g03.size
      have a2 := g56.size
      omega
    · have a1 := g03.size
      rw [g56.block k (by omega) (by simp; omega), g5.block k (by omega) hne, ba.block k (by omega)]
      exact g03.block k hk hne
  have hu6 : w6.ownsRow w.heap.size 5 1 (.slice ad ld cd) (rText (rNum (rNum (rNum st).2).2).2).1.length (cells8 (rText (rNum (rNum (rNum st).2).2).2).1) := own_lower (own_rd hu g56 (by omega)) (by omega)
  have b56 : Below w.heap.size w5 w6 := ⟨g56.os, g56.tape, g56.output, g56.size, fun k hk => g56.block k (by omega) (by simp; omega)⟩
  show ∃ us, _
  rw [← hw6]
  refine ⟨us, h1, fun o => ?_⟩
  have h2' := (own_rd h2 g06 hB).alloc o
  refine ⟨h2', fun w8 v' hgr hO => ?_⟩
  have b67 : Below w.heap.size w6 (w6.alloc o) := (Below.refl _ _).alloc (by have := b56.size; omega) o
  have b78 : Below w.heap.size (w6.alloc o) w8 := ⟨hgr.os, hgr.tape, hgr.output, hgr.size, fun k hk => hgr.block k (by have := b56.size; have := b67.size; omega) (fun e => by have := (h2'.lt k e.symm).1; omega)⟩
  have b58 := (b56.trans b67).trans b78
  have b68 := b67.trans b78
  refine ⟨q5.above hB b58, Er.push h1 h2' (fun j x hj => ?_) (hu6.alloc o) hO hgr, ?_, f', by omega, ?_, hr2⟩
  · obtain ⟨y, h4, h5⟩ := h3 j x hj
    exact ⟨y, h4, (own_rd h5 g06 hB).alloc o⟩
  · have g6 := hg.trans g06
    exact ⟨b68.os.trans g6.os, b68.tape.trans g6.tape, b68.output.trans g6.output, Nat.le_trans g6.size b68.size, fun k hk hne => (b68.block k hk).trans (g6.block k hk hne)⟩
  · rw [← hr1]
    simp

theorem news_at (W : World) (a b c d : Value) (n : Nat) (hn : n = W.heap.size) : ∀ j u, ([a, b, c, d] : List Value)[j]? = some u → (W.alloc (.cells #[a, b, c, d] 90)).cell? ((⟨n, 0, none⟩ : Addr).add j) = some u := by
  subst hn
  intro j u hj
  rw [Addr.add_lit, Nat.zero_add, cell_of_row _ _ j _ _ _ (heap_alloc_new _ _)]
  simpa using hj
theorem rdE_none (f : Nat) (st : R) (h : lenS st = 0) : rdE f st = ([], st) := by
  cases f with
  | zero => rfl
  | succ f => rw [rdE, if_pos (show (st.getD []).length = 0 from h)]

end Go.Proofs.Ytgknpbgepgmmmaa.Kp
