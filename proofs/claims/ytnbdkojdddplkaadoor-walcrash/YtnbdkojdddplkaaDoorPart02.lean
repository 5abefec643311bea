/- What the row's listed variable gives the walks: the table's sixteen words. Files by rising names, and changes of them: plain mathematics, no walk. What a slice of bytes is in memory, and what keeps it: laws on worlds alone, no walk. The walks of find, has, size: a name among files. -/
import Derived.Test.YtnbdkojdddplkaaDoorPart01
import Derived.Test.YtnbdkojdddplkaaDoorTie
import Derived.Test.YtnbdkojdddplkaaDoorCards
import Derived.ProofKit
import Derived.LaidMore
import Derived.OpenShut
import Derived.ShutString
import Derived.ChangeOld
import Derived.Below
import Derived.Stop.Joined
import Derived.Lib.Bytealg
import Derived.WalkKit
import Derived.Maps.AppendAt
import Derived.Laws.AppendOwnNone
import Derived.Laws.BytesArg
import Derived.Test.YtnbdkojdddplkaaDoorRows
import Derived.BigQuiet
namespace Go.Proofs.YtnbdkojdddplkaaDoor
open Go.ChangeShapes Go.WideShapes Go.ChangeAt Go.RowKit

theorem own : ownKnob Tryd.prog.godebug = none := by kernel_rfl
theorem laidOut : laidOutB Tryd.prog = true := by kernel_rfl
theorem gTab : Tryd.prog.globalNamed "delphi/frame.nibbleSums" = some 0 := by kernel_rfl
theorem tTab : (Tryd.prog.globals[0]?).map (·.type) = some 131 := by kernel_rfl
def laid1 : List (String × DataW Unit) := [("delphi/frame.nibbleSums", Rows.laid_delphi_frame_nibbleSums)]

theorem door_met (os : Os) (args : Array Value) : laidMetH Tryd.prog laid1 ((World.doorLaid Tryd.prog 400 os).forCall (fun _ _ => 0) ⟨#[], args, []⟩).memory :=
  laidMetH_of_parts3 (fuel := 8) (laidMet_of_run' 8 (by kernel_rfl) (by kernel_rfl)) (by kernel_rfl) (by kernel_rfl)

theorem of_laid {W : World} (h : laidMetH Tryd.prog laid1 W) : Fr.Tab W := by
  rw [MakeChecks.laidMetH_plain _ _ _ (by kernel_rfl)] at h
  obtain ⟨ps, ⟨g0, t0, cs0, f0, p0, q0, hg0, ht0, hv0, hd0, _, _⟩, _, _⟩ := h
  obtain rfl := Option.some.inj (gTab.symm.trans hg0)
  obtain rfl := Option.some.inj (tTab.symm.trans ht0)
  obtain ⟨xs, m1, rfl, hx1, hlen, hn3, hel⟩ := DataW.trod_array Tryd.underlying131 hd0
  intro i hi
  have c117 : Tryd.prog.cellsOf 117 = 1 := by kernel_rfl
  have h0 := hel i hi
  rw [List.getElem?_eq_getElem (by omega), c117, Nat.mul_one] at h0
  obtain ⟨k, e1, e2, _⟩ := DataW.trod_int Tryd.underlying117 h0
  simp only [Prod.mk.injEq] at hx1
  have hx := hx1.1
  have hL : Rows.laid_delphi_frame_nibbleSums = (DataW.agg (Fr.tabL.map fun n : Nat => DataW.lit (.int .u32 (n : Int))) : DataW Unit) := rfl
  rw [hL, DataW.agg.injEq] at hx
  have hxi := congrArg (fun l => l[i]?) hx
  have ht : Fr.tabL[i]? = some (Fr.tab i) := by
    unfold Fr.tab
    rw [List.getD, List.getElem?_eq_getElem (show i < Fr.tabL.length from hi)]
    rfl
  simp only [List.getElem?_map, ht, List.getElem?_eq_getElem (show i < xs.length by omega), Option.map_some, Option.some.injEq] at hxi
  have hk : k = (Fr.tab i : Int) := by
    rw [e2] at hxi
    simp at hxi
    exact hxi.symm
  subst hk
  have hc := World.var?_cell hg0 hv0 i
  rw [hc, ← Array.getElem?_toList]
  have h1 := congrArg (fun l => l[0]?) e1
  simpa using h1
end Go.Proofs.YtnbdkojdddplkaaDoor
namespace Go.Proofs.YtnbdkojdddplkaaDoor.Dk
open Go.Lib

theorem cmp_self : ∀ a : List UInt8, compareBytes a a = 0
  | [] => rfl
  | x :: a => by simp [compareBytes, UInt8.lt_irrefl, cmp_self a]

theorem cmp_zero : ∀ a b : List UInt8, compareBytes a b = 0 → a = b
  | [], [], _ => rfl
  | [], _ :: _, h => by simp [compareBytes] at h
  | _ :: _, [], h => by simp [compareBytes] at h
  | x :: a, y :: b, h => by
    unfold compareBytes at h
    by_cases h1 : x < y
    · simp [h1] at h
    · by_cases h2 : y < x
      · simp [h1, h2] at h
      · simp only [h1, h2, if_false] at h
        have e : x = y := UInt8.le_antisymm (UInt8.not_lt.1 h2) (UInt8.not_lt.1 h1)
        rw [e, cmp_zero a b h]

theorem cmp_swap : ∀ a b : List UInt8, compareBytes b a = - compareBytes a b
  | [], [] => rfl
  | [], _ :: _ => rfl
  | _ :: _, [] => rfl
  | x :: a, y :: b => by
    unfold compareBytes
    by_cases h1 : x < y
    · have h2 : ¬ y < x := fun h => UInt8.lt_irrefl x (UInt8.lt_trans h1 h)
      simp [h1, h2]
    · by_cases h2 : y < x
      · simp [h1, h2]
      · simp only [h1, h2, if_false]
        exact cmp_swap a b

theorem cmp_trans : ∀ a b c : List UInt8, compareBytes a b < 0 → compareBytes b c < 0 → compareBytes a c < 0
  | _, [], [], _, h => by simp [compareBytes] at h
  | [], _, _ :: _, _, _ => by simp [compareBytes]
  | _ :: _, [], _ :: _, h, _ => by simp [compareBytes] at h
  | _, _ :: _, [], _, h => by simp [compareBytes] at h
  | x :: a, y :: b, z :: c, h, k => by
    unfold compareBytes at h k ⊢
    by_cases h1 : x < y
    · by_cases k1 : y < z
      · simp [UInt8.lt_trans h1 k1]
      · by_cases k2 : z < y
        · simp [k1, k2] at k
        · have e : y = z := UInt8.le_antisymm (UInt8.not_lt.1 k2) (UInt8.not_lt.1 k1)
          subst e
          simp [h1]
    · by_cases h2 : y < x
      · simp [h1, h2] at h
      · have e : x = y := UInt8.le_antisymm (UInt8.not_lt.1 h2) (UInt8.not_lt.1 h1)
        subst e
        simp only [UInt8.lt_irrefl, if_false] at h
        by_cases k1 : x < z
        · simp [k1]
        · by_cases k2 : z < x
          · simp [k1, k2] at k
          · simp only [k1, k2, if_false] at k ⊢
            exact cmp_trans a b c h k

/-- The order of names. -/
def cmpN (a b : ByteArray) : Int := compareBytes a.data.toList b.data.toList
def nlt (a b : ByteArray) : Prop := cmpN a b < 0
theorem cmpN_eq {a b : ByteArray} : cmpN a b = 0 ↔ a = b := by
  constructor
  · intro h
    have := cmp_zero _ _ h
    obtain ⟨⟨la⟩⟩ := a
    obtain ⟨⟨lb⟩⟩ := b
    simp at this
    rw [this]
  · rintro rfl
    exact cmp_self _
theorem cmpN_swap (a b : ByteArray) : cmpN b a = - cmpN a b := cmp_swap _ _
theorem nlt_irrefl (a : ByteArray) : ¬ nlt a a := by
  unfold nlt
  rw [cmpN_eq.2 rfl]
  omega
theorem nlt_trans {a b c : ByteArray} (h : nlt a b) (k : nlt b c) : nlt a c := cmp_trans _ _ _ h k
theorem nlt_ne {a b : ByteArray} (h : nlt a b) : a ≠ b := fun e => nlt_irrefl b (e ▸ h)
theorem nlt_asymm {a b : ByteArray} (h : nlt a b) : ¬ nlt b a := fun k => nlt_irrefl a (nlt_trans h k)
theorem nlt_total (a b : ByteArray) : nlt a b ∨ a = b ∨ nlt b a := by
  unfold nlt
  rcases Int.lt_trichotomy (cmpN a b) 0 with h | h | h
  · exact Or.inl h
  · exact Or.inr (Or.inl (cmpN_eq.1 h))
  · exact Or.inr (Or.inr (by rw [cmpN_swap a b]; omega))
instance (a b : ByteArray) : Decidable (nlt a b) := inferInstanceAs (Decidable (cmpN a b < 0))

/-- A file. -/
structure Fl where
  name : ByteArray
  bs : List UInt8

def Srt (fs : List Fl) : Prop := fs.Pairwise fun a b => nlt a.name b.name

def ins (f : Fl) : List Fl → List Fl
  | [] => [f]
  | x :: r => if nlt f.name x.name then f :: x :: r else x :: ins f r
def del (n : ByteArray) (fs : List Fl) : List Fl := fs.filter fun f => !decide (f.name = n)
def look (n : ByteArray) (fs : List Fl) : Option Fl := fs.find? fun f => decide (f.name = n)
/-- The bytes of all files. -/
def used (fs : List Fl) : Nat := (fs.map fun f => f.bs.length).sum
/-- Files and bytes. -/
def mass (fs : List Fl) : Nat := (fs.map fun f => f.bs.length + 1).sum

theorem mass_append (a b : List Fl) : mass (a ++ b) = mass a + mass b := by simp [mass]
theorem mass_cons (f : Fl) (b : List Fl) : mass (f :: b) = f.bs.length + 1 + mass b := by simp [mass]
theorem mass_nil : mass [] = 0 := rfl
theorem used_append (a b : List Fl) : used (a ++ b) = used a + used b := by simp [used]
theorem used_cons (f : Fl) (b : List Fl) : used (f :: b) = f.bs.length + used b := by simp [used]
theorem used_mass : ∀ fs : List Fl, used fs + fs.length = mass fs
  | [] => rfl
  | f :: r => by
    have := used_mass r
    rw [used_cons, mass_cons, List.length_cons]
    omega

/-- Where a name stands among files, or would. -/
def Hit (n : ByteArray) (fs l : List Fl) (f : Fl) (r : List Fl) : Prop := fs = l ++ f :: r ∧ f.name = n ∧ (∀ x ∈ l, nlt x.name n) ∧ ∀ x ∈ r, nlt n x.name
def Miss (n : ByteArray) (fs l r : List Fl) : Prop := fs = l ++ r ∧ (∀ x ∈ l, nlt x.name n) ∧ ∀ x ∈ r, nlt n x.name

theorem split (n : ByteArray) : ∀ fs : List Fl, Srt fs → (∃ l f r, Hit n fs l f r) ∨ ∃ l r, Miss n fs l r
  | [], _ => Or.inr ⟨[], [], rfl, by simp, by simp⟩
  | x :: fs, h => by
    have hx := (List.pairwise_cons.1 h).1
    rcases nlt_total x.name n with h1 | h1 | h1
    · rcases split n fs (List.pairwise_cons.1 h).2 with ⟨l, f, r, rfl, hf, hl, hr⟩ | ⟨l, r, rfl, hl, hr⟩
      · exact Or.inl ⟨x :: l, f, r, rfl, hf, by simpa using ⟨h1, hl⟩, hr⟩
      · exact Or.inr ⟨x :: l, r, rfl, by simpa using ⟨h1, hl⟩, hr⟩
    · exact Or.inl ⟨[], x, fs, rfl, h1, by simp, fun y hy => h1 ▸ hx y hy⟩
    · exact Or.inr ⟨[], x :: fs, rfl, by simp, fun y hy => by
        rcases List.mem_cons.1 hy with rfl | hy
        · exact h1
        · exact nlt_trans h1 (hx y hy)⟩

theorem del_front (n : ByteArray) (l r : List Fl) (h : ∀ x ∈ l, nlt x.name n) : del n (l ++ r) = l ++ del n r := by
  unfold del
  rw [List.filter_append]
  congr 1
  exact List.filter_eq_self.2 fun x hx => by simp [nlt_ne (h x hx)]
theorem del_back (n : ByteArray) (r : List Fl) (h : ∀ x ∈ r, nlt n x.name) : del n r = r :=
  List.filter_eq_self.2 fun x hx => by simpa using (nlt_ne (h x hx)).symm
theorem look_front (n : ByteArray) (r : List Fl) : ∀ l : List Fl, (∀ x ∈ l, nlt x.name n) → look n (l ++ r) = look n r
  | [], _ => rfl
  | x :: l, h => by
    have := look_front n r l (fun y hy => h y (by simp [hy]))
    unfold look at this ⊢
    rw [List.cons_append, List.find?_cons]
    simp [nlt_ne (h x (by simp)), this]
theorem look_back (n : ByteArray) (r : List Fl) (h : ∀ x ∈ r, nlt n x.name) : look n r = none :=
  List.find?_eq_none.2 fun x hx => by simpa using (nlt_ne (h x hx)).symm
theorem ins_front (f : Fl) (r : List Fl) : ∀ l : List Fl, (∀ x ∈ l, nlt x.name f.name) → ins f (l ++ r) = l ++ ins f r
  | [], _ => rfl
  | x :: l, h => by
    have h1 : ¬ nlt f.name x.name := nlt_asymm (h x (by simp))
    rw [List.cons_append, ins, if_neg h1, ins_front f r l (fun y hy => h y (by simp [hy]))]
    rfl
theorem ins_back (f : Fl) (r : List Fl) (h : ∀ x ∈ r, nlt f.name x.name) : ins f r = f :: r := by
  cases r with
  | nil => rfl
  | cons x r => rw [ins, if_pos (h x (by simp))]
theorem ins_mid (f : Fl) (l r : List Fl) (hl : ∀ x ∈ l, nlt x.name f.name) (hr : ∀ x ∈ r, nlt f.name x.name) : ins f (l ++ r) = l ++ f :: r := by
  rw [ins_front f r l hl, ins_back f r hr]

theorem Hit.lookE {n : ByteArray} {fs l : List Fl} {f : Fl} {r : List Fl} (h : Hit n fs l f r) : look n fs = some f := by
  obtain ⟨rfl, hf, hl, hr⟩ := h
  rw [look_front n _ l hl]
  simp [look, hf]
theorem Hit.delE {n : ByteArray} {fs l : List Fl} {f : Fl} {r : List Fl} (h : Hit n fs l f r) : del n fs = l ++ r := by
  obtain ⟨rfl, hf, hl, hr⟩ := h
  rw [del_front n l _ hl]
  congr 1
  have := del_back n r hr
  unfold del at this ⊢
  rw [List.filter_cons]
  simp only [hf, decide_true, Bool.not_true, Bool.false_eq_true, if_false]
  exact this
theorem Hit.insE {n : ByteArray} {fs l : List Fl} {f : Fl} {r : List Fl} (h : Hit n fs l f r) (b : List UInt8) : ins ⟨n, b⟩ (del n fs) = l ++ ⟨n, b⟩ :: r := by
  rw [h.delE]
  exact ins_mid ⟨n, b⟩ l r h.2.2.1 h.2.2.2
theorem Miss.lookE {n : ByteArray} {fs l r : List Fl} (h : Miss n fs l r) : look n fs = none := by
  obtain ⟨rfl, hl, hr⟩ := h
  rw [look_front n _ l hl, look_back n r hr]
theorem Miss.delE {n : ByteArray} {fs l r : List Fl} (h : Miss n fs l r) : del n fs = fs := by
  obtain ⟨rfl, hl, hr⟩ := h
  rw [del_front n l _ hl, del_back n r hr]
theorem Miss.insE {n : ByteArray} {fs l r : List Fl} (h : Miss n fs l r) (b : List UInt8) : ins ⟨n, b⟩ fs = l ++ ⟨n, b⟩ :: r := by
  obtain ⟨rfl, hl, hr⟩ := h
  exact ins_mid ⟨n, b⟩ l r hl hr

/-- A change. -/
inductive Ch where
  | app (n : ByteArray) (b : List UInt8)
  | cut (n : ByteArray) (k : Nat)
  | rem (n : ByteArray)
  | mov (n t : ByteArray)

def Ch.mass : Ch → Nat
  | .app _ b => b.length + 1
  | _ => 0

def ap (fs : List Fl) : Ch → List Fl
  | .app n b => ins ⟨n, ((look n fs).map (·.bs)).getD [] ++ b⟩ (del n fs)
  | .cut n k => match look n fs with
    | some f => ins ⟨n, f.bs.take k⟩ (del n fs)
    | none => fs
  | .rem n => del n fs
  | .mov n t => match look n fs with
    | some f => if n = t then fs else ins ⟨t, f.bs⟩ (del t (del n fs))
    | none => fs

/-- May a change be made? -/
def Okc (fs : List Fl) : Ch → Prop
  | .cut n k => ∀ f, look n fs = some f → k ≤ f.bs.length
  | _ => True
def Okw (fs : List Fl) : List Ch → Prop
  | [] => True
  | c :: r => Okc fs c ∧ Okw (ap fs c) r

def run (fs : List Fl) (cs : List Ch) : List Fl := cs.foldl ap fs
def wmass (cs : List Ch) : Nat := (cs.map Ch.mass).sum

theorem srt_mid {l r : List Fl} {n : ByteArray} {b : List UInt8} (h : Srt (l ++ r)) (hl : ∀ x ∈ l, nlt x.name n) (hr : ∀ x ∈ r, nlt n x.name) : Srt (l ++ ⟨n, b⟩ :: r) := by
  unfold Srt at h ⊢
  rw [List.pairwise_append] at h ⊢
  refine ⟨h.1, List.pairwise_cons.2 ⟨hr, h.2.1⟩, fun a ha c hc => ?_⟩
  rcases List.mem_cons.1 hc with rfl | hc
  · exact hl a ha
  · exact h.2.2 a ha c hc
theorem srt_out {l r : List Fl} {f : Fl} (h : Srt (l ++ f :: r)) : Srt (l ++ r) :=
  List.Pairwise.sublist (by simp) h
theorem srt_del {fs : List Fl} (n : ByteArray) (h : Srt fs) : Srt (del n fs) := List.Pairwise.filter _ h
theorem srt_ins {fs : List Fl} (n : ByteArray) (b : List UInt8) (h : Srt fs) : Srt (ins ⟨n, b⟩ (del n fs)) := by
  rcases split n fs h with ⟨l, f, r, hh⟩ | ⟨l, r, hm⟩
  · rw [hh.insE]
    obtain ⟨rfl, hf, hl, hr⟩ := hh
    exact srt_mid (srt_out h) hl hr
  · rw [hm.delE, hm.insE]
    obtain ⟨rfl, hl, hr⟩ := hm
    exact srt_mid h hl hr
theorem del_mass (n : ByteArray) (fs : List Fl) : mass (del n fs) ≤ mass fs := by
  induction fs with
  | nil => exact Nat.le_refl _
  | cons x r ih =>
    unfold del at ih ⊢
    rw [List.filter_cons]
    split
    · rw [mass_cons, mass_cons]; omega
    · rw [mass_cons]; omega
theorem ins_mass (n : ByteArray) (b : List UInt8) (fs : List Fl) (h : Srt fs) : mass (ins ⟨n, b⟩ (del n fs)) ≤ mass fs + b.length + 1 := by
  rcases split n fs h with ⟨l, f, r, hh⟩ | ⟨l, r, hm⟩
  · rw [hh.insE]
    obtain ⟨rfl, hf, hl, hr⟩ := hh
    rw [mass_append, mass_cons, mass_append, mass_cons]
    simp only
    omega
  · rw [hm.delE, hm.insE]
    obtain ⟨rfl, hl, hr⟩ := hm
    rw [mass_append, mass_cons, mass_append]
    simp only
    omega

theorem ap_srt {fs : List Fl} (c : Ch) (h : Srt fs) : Srt (ap fs c) := by
  cases c with
  | app n b => exact srt_ins n _ h
  | cut n k =>
    simp only [ap]
    split
    · exact srt_ins n _ h
    · exact h
  | rem n => exact srt_del n h
  | mov n t =>
    simp only [ap]
    split
    · split
      · exact h
      · exact srt_ins t _ (srt_del n h)
    · exact h
theorem ap_mass {fs : List Fl} (c : Ch) (h : Srt fs) : mass (ap fs c) ≤ mass fs + c.mass := by
  cases c with
  | app n b =>
    simp only [ap, Ch.mass]
    rcases split n fs h with ⟨l, f, r, hh⟩ | ⟨l, r, hm⟩
    · rw [hh.insE, hh.lookE]
      obtain ⟨rfl, hf, hl, hr⟩ := hh
      simp only [mass_append, mass_cons, Option.map_some, Option.getD_some, List.length_append]
      omega
    · rw [hm.lookE, hm.delE, hm.insE]
      obtain ⟨rfl, hl, hr⟩ := hm
      simp only [mass_append, mass_cons, Option.map_none, Option.getD_none, List.nil_append]
      omega
  | cut n k =>
    simp only [ap, Ch.mass]
    rcases split n fs h with ⟨l, f, r, hh⟩ | ⟨l, r, hm⟩
    · rw [hh.lookE]
      simp only [hh.insE]
      obtain ⟨rfl, hf, hl, hr⟩ := hh
      simp only [mass_append, mass_cons, List.length_take]
      omega
    · rw [hm.lookE]
      simp
  | rem n => exact del_mass n fs
  | mov n t =>
    simp only [ap, Ch.mass]
    rcases split n fs h with ⟨l, f, r, hh⟩ | ⟨l, r, hm⟩
    · rw [hh.lookE]
      simp only
      split
      · simp
      · have h1 := ins_mass t f.bs (del n fs) (srt_del n h)
        rw [hh.delE] at h1 ⊢
        obtain ⟨rfl, hf, hl, hr⟩ := hh
        rw [mass_append] at h1
        rw [mass_append, mass_cons]
        omega
    · rw [hm.lookE]
      simp
theorem run_cons (fs : List Fl) (c : Ch) (cs : List Ch) : run fs (c :: cs) = run (ap fs c) cs := rfl
theorem run_snoc (fs : List Fl) (cs : List Ch) (c : Ch) : run fs (cs ++ [c]) = ap (run fs cs) c := by simp [run]
theorem run_srt (cs : List Ch) : ∀ fs : List Fl, Srt fs → Srt (run fs cs) := by
  induction cs with
  | nil => exact fun _ h => h
  | cons c r ih => exact fun fs h => ih _ (ap_srt c h)
theorem run_mass (cs : List Ch) : ∀ fs : List Fl, Srt fs → mass (run fs cs) ≤ mass fs + wmass cs := by
  induction cs with
  | nil => exact fun _ _ => by simp [run, wmass]
  | cons c r ih =>
    intro fs h
    have h1 := ih _ (ap_srt c h)
    have h2 := ap_mass c h
    have h3 : wmass (c :: r) = c.mass + wmass r := by simp [wmass]
    rw [run_cons]
    omega
theorem okw_snoc (c : Ch) : ∀ (cs : List Ch) (fs : List Fl), Okw fs cs → Okc (run fs cs) c → Okw fs (cs ++ [c])
  | [], _, _, h => ⟨h, trivial⟩
  | x :: r, fs, h, k => ⟨h.1, okw_snoc c r (ap fs x) h.2 k⟩
theorem okw_take : ∀ (k : Nat) (cs : List Ch) (fs : List Fl), Okw fs cs → ∀ c, cs[k]? = some c → Okc (run fs (cs.take k)) c
  | 0, x :: r, fs, h, c, hc => by
    simp at hc
    subst hc
    exact h.1
  | k + 1, x :: r, fs, h, c, hc => okw_take k r (ap fs x) h.2 c (by simpa using hc)
theorem wmass_take (cs : List Ch) (k : Nat) : wmass (cs.take k) ≤ wmass cs := by
  have := congrArg wmass (List.take_append_drop k cs)
  have h2 : wmass (cs.take k ++ cs.drop k) = wmass (cs.take k) + wmass (cs.drop k) := by unfold wmass; rw [List.map_append, List.sum_append]
  omega
theorem take_succ_snoc {α : Type} (cs : List α) (k : Nat) (c : α) (h : cs[k]? = some c) : cs.take (k + 1) = cs.take k ++ [c] := by
  rw [List.take_add_one, h]
  rfl
end Go.Proofs.YtnbdkojdddplkaaDoor.Dk
namespace Go.Proofs.YtnbdkojdddplkaaDoor.Dk
open Go.RowKit

def at8 (bs : List UInt8) (j : Nat) : Int := ((bs.getD j 0).toNat : Int)
def cells8 (bs : List UInt8) : List Value := bs.map fun b => .int .u8 (b.toNat : Int)
theorem cells8_len (bs : List UInt8) : (cells8 bs).length = bs.length := by simp [cells8]
theorem cells8_at (bs : List UInt8) (j : Nat) (h : j < bs.length) : (cells8 bs)[j]? = some (.int .u8 (at8 bs j)) := by
  simp [cells8, at8, List.getD, List.getElem?_eq_getElem h]
theorem cells8_one (bs : List UInt8) : ∀ u ∈ cells8 bs, u.oneCell' = true := by
  intro u hu
  obtain ⟨_, _, rfl⟩ := List.mem_map.1 hu
  rfl
theorem cells8_append (a b : List UInt8) : cells8 (a ++ b) = cells8 a ++ cells8 b := by simp [cells8]

/-- A slice value that reads as these bytes. -/
def Sl (w : World) (v : Value) (bs : List UInt8) : Prop :=
  ∃ ao cap, v = .slice ao bs.length cap ∧ bs.length ≤ cap ∧ cap ≤ maxLen ∧ (ao = none → cap = 0) ∧
    (0 < bs.length → ∃ g off, ao = some ⟨g, off, none⟩ ∧ ∀ j, j < bs.length → w.cell? ⟨g, off + j, none⟩ = some (.int .u8 (at8 bs j)))

theorem Sl.nil (w : World) : Sl w (.slice none 0 0) [] := ⟨none, 0, rfl, Nat.le_refl _, by simp [maxLen], fun _ => rfl, fun h => by simp at h⟩

theorem Sl.kept {w w' : World} {v : Value} {bs : List UInt8} (h : Sl w v bs) (hb : ∀ g o n, w.cell? ⟨g, o, none⟩ = some (.int .u8 n) → w'.heap[g]? = w.heap[g]?) : Sl w' v bs := by
  obtain ⟨ao, cap, hv, h1, h2, h3, h4⟩ := h
  refine ⟨ao, cap, hv, h1, h2, h3, fun hp => ?_⟩
  obtain ⟨g, off, ha, hc⟩ := h4 hp
  exact ⟨g, off, ha, fun j hj => (World.cell?_of_block (w := w) (a := ⟨g, off + j, none⟩) (hb g (off + j) _ (hc j hj))).trans (hc j hj)⟩

theorem cell_lt {w : World} {g o : Nat} {u : Value} (h : w.cell? ⟨g, o, none⟩ = some u) : g < w.heap.size := World.block_lt_of_cell? w ⟨g, o, none⟩ h

/-- What is below B stays, whatever is done from B on. -/
theorem Sl.below {w w' : World} {v : Value} {bs : List UInt8} (h : Sl w v bs) (hb : Below w.heap.size w w') : Sl w' v bs :=
  h.kept fun g _ _ hc => hb.block g (cell_lt hc)

theorem Sl.alloc {w : World} {v : Value} {bs : List UInt8} (h : Sl w v bs) (o : Obj) : Sl (w.alloc o) v bs :=
  h.below ((Below.refl _ _).alloc (Nat.le_refl _) o)

/-- The front of a slice. -/
theorem Sl.take {w : World} {ao : Option Addr} {len cap : Nat} {bs : List UInt8} (h : Sl w (.slice ao len cap) bs) (k : Nat) (hk : k ≤ len) : Sl w (.slice ao k cap) (bs.take k) := by
  obtain ⟨ao', cap', hv, h1, h2, h3, h4⟩ := h
  simp only [Value.slice.injEq] at hv
  obtain ⟨rfl, hl, rfl⟩ := hv
  have hlk : (bs.take k).length = k := by simp; omega
  refine ⟨ao, cap, by rw [hlk], by omega, h2, h3, fun hp => ?_⟩
  obtain ⟨g, off, ha, hc⟩ := h4 (by omega)
  refine ⟨g, off, ha, fun j hj => ?_⟩
  rw [hlk] at hj
  rw [hc j (by omega)]
  simp [at8, List.getD, hj]

/-- What is behind the front of a slice. -/
theorem Sl.drop {w : World} {ao : Option Addr} {len cap : Nat} {bs : List UInt8} (h : Sl w (.slice ao len cap) bs) (k : Nat) (hk : k ≤ len) (ao' : Option Addr) (hao : cap ≠ k → ao' = ao.map (·.add k)) (hz : cap = k → ao' = ao) :
    Sl w (.slice ao' (len - k) (cap - k)) (bs.drop k) := by
  obtain ⟨ao2, cap', hv, h1, h2, h3, h4⟩ := h
  simp only [Value.slice.injEq] at hv
  obtain ⟨rfl, hl, rfl⟩ := hv
  have hlk : (bs.drop k).length = len - k := by simp; omega
  refine ⟨ao', cap - k, by rw [hlk], by omega, by omega, fun hn => ?_, fun hp => ?_⟩
  · by_cases hc : cap = k
    · omega
    · rw [hao hc] at hn
      have := h3 (by cases ao <;> simp_all)
      omega
  · have hc : cap ≠ k := by omega
    obtain ⟨g, off, ha, hcell⟩ := h4 (by omega)
    refine ⟨g, off + k, ?_, fun j hj => ?_⟩
    · rw [hao hc, ha]; simp [Addr.add_lit]
    · rw [Nat.add_assoc, hcell (k + j) (by omega)]
      simp [at8, List.getD]

theorem Sl.len {w : World} {ao : Option Addr} {len cap : Nat} {bs : List UInt8} (h : Sl w (.slice ao len cap) bs) : len = bs.length := by
  obtain ⟨_, _, hv, _⟩ := h
  simp only [Value.slice.injEq] at hv
  exact hv.2.1
theorem Sl.shape {w : World} {v : Value} {bs : List UInt8} (h : Sl w v bs) : ∃ ao cap, v = .slice ao bs.length cap ∧ bs.length ≤ cap ∧ cap ≤ maxLen := by
  obtain ⟨ao, cap, hv, h1, h2, _⟩ := h
  exact ⟨ao, cap, hv, h1, h2⟩
theorem Sl.cell {w : World} {ao : Option Addr} {len cap : Nat} {bs : List UInt8} (h : Sl w (.slice ao len cap) bs) (hp : 0 < len) : ∃ g off, ao = some ⟨g, off, none⟩ ∧ ∀ j, j < len → w.cell? ⟨g, off + j, none⟩ = some (.int .u8 (at8 bs j)) := by
  obtain ⟨ao2, cap', hv, h1, h2, h3, h4⟩ := h
  simp only [Value.slice.injEq] at hv
  obtain ⟨rfl, hl, rfl⟩ := hv
  rw [hl] at hp ⊢
  exact h4 hp

/-- An owned row reads as its bytes. -/
theorem Sl.of_own {w : World} {base : Nat} {v : Value} {bs : List UInt8} (h : w.ownsRow base 5 1 v bs.length (cells8 bs)) : Sl w v bs := by
  rcases h.2 with ⟨rfl, h0⟩ | ⟨g, cap, cur, rfl, _, hg, hn, hc, hs, ht⟩
  · have : bs = [] := List.eq_nil_of_length_eq_zero h0
    subst this
    exact Sl.nil w
  · refine ⟨_, cap, rfl, hn, hc, fun e => by simp at e, fun _ => ⟨g, 0, rfl, fun j hj => ?_⟩⟩
    rw [Nat.zero_add]
    rw [h.cellAt j (by omega), cells8_at _ _ hj]

theorem str_of_sl {P : Program} {w : World} {v : Value} {bs : List UInt8} (h : Sl w v bs) (src e dst : TypeId) (hs : P.underlying src = some (.slice e)) (he : P.underlying e = some (.int .u8)) (hd : P.underlying dst = some .string) :
    (convert src dst v).run P w = .ok (.string ⟨bs.toArray⟩) w := by
  obtain ⟨ao, cap, rfl, h1, h2, h3, h4⟩ := h
  by_cases hp : 0 < bs.length
  · obtain ⟨g, off, rfl, hc⟩ := h4 hp
    have := run_convert_bytes_arg (P := P) w src e hs he g off bs.length cap (bs.map fun b => (b.toNat : Int)) (by simp) (fun i hi => by
      rw [hc i hi]; simp [at8, List.getD, List.getElem?_eq_getElem hi]) dst hd
    rw [this]
    congr 1
    congr 1
    unfold strOfNums
    simp only [List.map_map, ByteArray.mk.injEq]
    congr 1
    exact (List.map_congr_left (g := id) fun b _ => by simp).trans (List.map_id _)
  · have : bs = [] := List.eq_nil_of_length_eq_zero (by omega)
    subst this
    cases ao with
    | none => rw [run_convert_bytes_nil (P := P) w src e hs he _ _ dst hd]; rfl
    | some a =>
      rw [List.length_nil, run_convert_bytes_string w src dst e _ _ cap hs he hd, run_bytesToString w a 0 cap [] (by simp [loadCells, loadCellsFrom])]
      rfl

/-- A slice whose place is known, if it has one. -/
def Pl (v : Value) : Prop := v = .slice none 0 0 ∨ ∃ g off n cap, v = .slice (some ⟨g, off, none⟩) n cap
theorem Pl.of_own {w : World} {base : Nat} {v : Value} {bs : List UInt8} (h : w.ownsRow base 5 1 v bs.length (cells8 bs)) : Pl v := by
  rcases h.2 with ⟨rfl, h0⟩ | ⟨g, cap, cur, rfl, _⟩
  · exact Or.inl rfl
  · exact Or.inr ⟨g, 0, _, cap, rfl⟩

theorem grown_refl (w : World) (row : Option Nat) : w.grownBy w row := ⟨rfl, rfl, rfl, Nat.le_refl _, fun _ _ _ => rfl⟩


theorem grown_refl' (w : World) (row : Option Nat) : w.grownBy w row := grown_refl w row

/-- What a call may have turned: blocks of F alone, and new ones. -/
structure Fr (F : Nat → Prop) (w w' : World) : Prop where
  os : w'.os = w.os
  tape : w'.tape = w.tape
  output : w'.output = w.output
  size : w.heap.size ≤ w'.heap.size
  block : ∀ k, k < w.heap.size → ¬ F k → w'.heap[k]? = w.heap[k]?

theorem Fr.refl (F : Nat → Prop) (w : World) : Fr F w w := ⟨rfl, rfl, rfl, Nat.le_refl _, fun _ _ _ => rfl⟩
theorem Fr.trans {F G : Nat → Prop} {a b c : World} (h : Fr F a b) (k : Fr G b c) (hg : ∀ x, x < a.heap.size → G x → F x) : Fr F a c :=
  ⟨k.os.trans h.os, k.tape.trans h.tape, k.output.trans h.output, Nat.le_trans h.size k.size, fun i hi hF => (k.block i (Nat.lt_of_lt_of_le hi h.size) (fun hG => hF (hg i hi hG))).trans (h.block i hi hF)⟩
theorem Fr.mono {F G : Nat → Prop} {a b : World} (h : Fr F a b) (hg : ∀ x, x < a.heap.size → F x → G x) : Fr G a b :=
  ⟨h.os, h.tape, h.output, h.size, fun i hi hG => h.block i hi (fun hF => hG (hg i hi hF))⟩
theorem Fr.of_below {F : Nat → Prop} {w w' : World} (h : Below w.heap.size w w') : Fr F w w' := ⟨h.os, h.tape, h.output, h.size, fun k hk _ => h.block k hk⟩
theorem Fr.below {F : Nat → Prop} {w w' : World} {B : Nat} (h : Fr F w w') (hF : ∀ k, F k → B ≤ k) (hB : B ≤ w.heap.size) : Below B w w' :=
  ⟨h.os, h.tape, h.output, h.size, fun k hk => h.block k (by omega) (fun hk' => by have := hF k hk'; omega)⟩
theorem Fr.of_grown {F : Nat → Prop} {w w' : World} {row : Option Nat} (h : w.grownBy w' row) (hr : ∀ k, row = some k → F k) : Fr F w w' :=
  ⟨h.os, h.tape, h.output, h.size, fun k hk hF => h.block k hk (fun e => hF (hr k e.symm))⟩
theorem Fr.alloc {F : Nat → Prop} {a w : World} (h : Fr F a w) (o : Obj) : Fr F a (w.alloc o) :=
  h.trans (G := F) (Fr.of_below ((Below.refl _ _).alloc (Nat.le_refl _) o)) (fun _ _ h => h)
theorem Fr.drew {F : Nat → Prop} {a w : World} (h : Fr F a w) : Fr F a w.drew := ⟨h.os, h.tape, h.output, h.size, h.block⟩
theorem Fr.setCell {F : Nat → Prop} {a w : World} (h : Fr F a w) {p : Addr} (hp : p.block < a.heap.size → F p.block) (u : Value) : Fr F a (w.setCell p u) :=
  h.trans (G := fun k => k = p.block) ⟨rfl, rfl, rfl, by simp [World.setCell], fun k _ hk => Below.heap_setCell _ _ _ _ hk⟩ (fun _ hx e => by rw [e] at hx ⊢; exact hp hx)
theorem Fr.cell {F : Nat → Prop} {w w' : World} (h : Fr F w w') {p : Addr} {u : Value} (hc : w.cell? p = some u) (hp : ¬ F p.block) : w'.cell? p = some u :=
  (World.cell?_of_block (h.block p.block (World.block_lt_of_cell? w p hc) hp)).trans hc

/-- What was F's, and what is new. -/
def ext (F : Nat → Prop) (w w' : World) : Nat → Prop := fun k => F k ∨ (w.heap.size ≤ k ∧ k < w'.heap.size)

theorem own_kept {F : Nat → Prop} {w w' : World} {base e size n : Nat} {v : Value} {xs : List Value} (h : w.ownsRow base e size v n xs) (hf : Fr F w w') (hn : ∀ k, v.ownBlock = some k → ¬ F k) : w'.ownsRow base e size v n xs := by
  refine ⟨h.1, ?_⟩
  rcases h.2 with hn' | ⟨g, cap, cur, rfl, hb, hgg, rest⟩
  · exact .inl hn'
  · refine .inr ⟨g, cap, cur, rfl, hb, ?_, rest⟩
    rw [hf.block g (Array.getElem?_eq_some_iff.1 hgg).1 (hn g rfl)]
    exact hgg
theorem own_base {w : World} {base base' e size n : Nat} {v : Value} {xs : List Value} (h : w.ownsRow base e size v n xs) (hb : ∀ k, v.ownBlock = some k → base' ≤ k) : w.ownsRow base' e size v n xs := by
  refine ⟨h.1, ?_⟩
  rcases h.2 with hn' | ⟨g, cap, cur, rfl, _, rest⟩
  · exact .inl hn'
  · exact .inr ⟨g, cap, cur, rfl, hb g rfl, rest⟩
theorem own_zero {w : World} {base e size n : Nat} {v : Value} {xs : List Value} (h : w.ownsRow base e size v n xs) : w.ownsRow 0 e size v n xs := own_base h fun _ _ => Nat.zero_le _
theorem own_ne {w : World} {b b' e e' s s' n n' : Nat} {v v' : Value} {xs xs' : List Value} (h : w.ownsRow b e s v n xs) (h' : w.ownsRow b' e' s' v' n' xs') (he : e ≠ e') {k : Nat} (hk : v.ownBlock = some k) : v'.ownBlock ≠ some k := by
  intro hk'
  rcases h.2 with ⟨rfl, _⟩ | ⟨g, cap, cur, rfl, _, hg, _⟩
  · simp [Value.ownBlock] at hk
  · rcases h'.2 with ⟨rfl, _⟩ | ⟨g', cap', cur', rfl, _, hg', _⟩
    · simp [Value.ownBlock] at hk'
    · simp [Value.ownBlock] at hk hk'
      subst hk hk'
      rw [hg] at hg'
      simp at hg'
      exact he hg'.2
theorem own_shape {w : World} {b e s n : Nat} {v : Value} {xs : List Value} (h : w.ownsRow b e s v n xs) : (v = .slice none 0 0 ∧ n = 0) ∨ ∃ g cap, v = .slice (some ⟨g, 0, none⟩) n cap ∧ n ≤ cap ∧ cap ≤ maxLen ∧ g < w.heap.size := by
  rcases h.2 with h | ⟨g, cap, cur, rfl, _, hg, h1, h2, _⟩
  · exact .inl h
  · exact .inr ⟨g, cap, rfl, h1, h2, (Array.getElem?_eq_some_iff.1 hg).1⟩

theorem heap_set {w : World} {b o : Nat} {cs : Array Value} {T : TypeId} {fr : Nat × Nat} (hb : w.heap[b]? = some (.cells cs T fr)) (v : Value) : (w.setCell ⟨b, o, none⟩ v).heap[b]? = some (.cells (cs.setIfInBounds o v) T fr) := by
  simp [World.setCell, Array.getElem?_modify, hb]
theorem setCell_self {w : World} {b o : Nat} {v : Value} (h : w.cell? ⟨b, o, none⟩ = some v) (k : Nat) : (w.setCell ⟨b, o, none⟩ v).heap[k]? = w.heap[k]? := by
  by_cases hk : k = b
  · subst hk
    cases hb : w.heap[k]? with
    | none => simp [World.cell?, hb] at h
    | some ob =>
      cases ob with
      | cells cs T fr =>
        rw [heap_set hb]
        have hv : cs[o]? = some v := by simpa [World.cell?, hb] using h
        have : cs.setIfInBounds o v = cs := by
          apply Array.ext_getElem?
          intro i
          rw [Array.getElem?_setIfInBounds]
          split
          · subst_vars
            obtain ⟨h1, h2⟩ := Array.getElem?_eq_some_iff.1 hv
            simp [h1, h2]
          · rfl
        rw [this]
      | _ => simp [World.cell?, hb] at h
  · exact Below.heap_setCell _ _ _ _ hk
theorem Fr.of_self {F : Nat → Prop} {w w' : World} {b o : Nat} {v : Value} (h : w.cell? ⟨b, o, none⟩ = some v) (hf : Fr F w w') : Fr F (w.setCell ⟨b, o, none⟩ v) w' :=
  ⟨hf.os, hf.tape, hf.output, by simpa [World.setCell] using hf.size, fun k hk hF => by rw [setCell_self h]; exact hf.block k (by simpa [World.setCell] using hk) hF⟩

/-- A file in memory. -/
structure Ent where
  name : ByteArray
  dv : Value
  bs : List UInt8
def Ent.fl (z : Ent) : Fl := ⟨z.name, z.bs⟩
def Ent.cells (z : Ent) : List Value := [.string z.name, z.dv]
def cellsF (zs : List Ent) : List Value := zs.flatMap Ent.cells
theorem cellsF_len : ∀ zs : List Ent, (cellsF zs).length = zs.length * 2
  | [] => rfl
  | z :: r => by
    have := cellsF_len r
    simp [cellsF, Ent.cells] at this ⊢
    omega
theorem cellsF_append (a b : List Ent) : cellsF (a ++ b) = cellsF a ++ cellsF b := by simp [cellsF]
theorem cellsF_cons (z : Ent) (b : List Ent) : cellsF (z :: b) = .string z.name :: z.dv :: cellsF b := by simp [cellsF, Ent.cells]
theorem cellsF_at (l : List Ent) (z : Ent) (r : List Ent) : (cellsF (l ++ z :: r))[l.length * 2]? = some (.string z.name) ∧ (cellsF (l ++ z :: r))[l.length * 2 + 1]? = some z.dv := by
  rw [cellsF_append, cellsF_cons]
  have h := cellsF_len l
  constructor
  · rw [List.getElem?_append_right (by omega), h]; simp
  · rw [List.getElem?_append_right (by omega), h, Nat.add_sub_cancel_left]; rfl
theorem cellsF_get (zs : List Ent) (i : Nat) (h : i < zs.length) : (cellsF zs)[i * 2]? = some (.string zs[i].name) ∧ (cellsF zs)[i * 2 + 1]? = some zs[i].dv := by
  have e : zs = zs.take i ++ zs[i] :: zs.drop (i + 1) := by simp
  have hl : (zs.take i).length = i := by simp; omega
  have := cellsF_at (zs.take i) zs[i] (zs.drop (i + 1))
  rw [← e, hl] at this
  exact this

def Apart (a b : Ent) : Prop := ∀ k, a.dv.ownBlock = some k → b.dv.ownBlock ≠ some k
theorem Apart.symm {a b : Ent} (h : Apart a b) : Apart b a := fun k hb ha => h k ha hb

/-- A folder in memory: its row and its files' rows, all in F, no two in one block. -/
structure Fol (w : World) (v : Value) (zs : List Ent) (F : Nat → Prop) : Prop where
  row : w.ownsRow 0 99 2 v zs.length (cellsF zs)
  data : ∀ z ∈ zs, w.ownsRow 0 5 1 z.dv z.bs.length (cells8 z.bs)
  apart : zs.Pairwise Apart
  rowIn : ∀ k, v.ownBlock = some k → F k
  dataIn : ∀ z ∈ zs, ∀ k, z.dv.ownBlock = some k → F k
  lt : ∀ k, F k → k < w.heap.size

theorem Fol.kept {w w' : World} {v : Value} {zs : List Ent} {F G : Nat → Prop} (h : Fol w v zs F) (hf : Fr G w w') (hd : ∀ k, F k → ¬ G k) : Fol w' v zs F :=
  ⟨own_kept h.row hf fun k hk => hd k (h.rowIn k hk), fun z hz => own_kept (h.data z hz) hf fun k hk => hd k (h.dataIn z hz k hk), h.apart, h.rowIn, h.dataIn, fun k hk => Nat.lt_of_lt_of_le (h.lt k hk) hf.size⟩
theorem Fol.below {w w' : World} {v : Value} {zs : List Ent} {F : Nat → Prop} (h : Fol w v zs F) (hb : Below w.heap.size w w') : Fol w' v zs F :=
  h.kept (G := fun _ => False) (Fr.of_below hb) fun _ _ => id
theorem Fol.mono {w : World} {v : Value} {zs : List Ent} {F G : Nat → Prop} (h : Fol w v zs F) (hg : ∀ k, F k → G k) (hl : ∀ k, G k → k < w.heap.size) : Fol w v zs G :=
  ⟨h.row, h.data, h.apart, fun k hk => hg k (h.rowIn k hk), fun z hz k hk => hg k (h.dataIn z hz k hk), hl⟩
theorem Fol.nil (w : World) (F : Nat → Prop) (h : ∀ k, F k → k < w.heap.size) : Fol w (.slice none 0 0) [] F :=
  ⟨World.ownsRow_nil _ _ _ _, by simp, List.Pairwise.nil, by simp [Value.ownBlock], by simp, h⟩

/-- The cells of a file in its folder's row. -/
theorem Fol.cell {w : World} {g cap n : Nat} {zs : List Ent} {F : Nat → Prop} (h : Fol w (.slice (some ⟨g, 0, none⟩) n cap) zs F) (i : Nat) (hi : i < zs.length) : w.cell? ⟨g, i * 2, none⟩ = some (.string zs[i].name) ∧ w.cell? ⟨g, i * 2 + 1, none⟩ = some zs[i].dv := by
  obtain ⟨hn, _⟩ | ⟨g', cap', e, _⟩ := own_shape h.row
  · simp at hn
  · have hr := h.row
    rw [e] at hr
    simp only [Value.slice.injEq, Option.some.injEq, Addr.mk.injEq, and_true] at e
    obtain ⟨rfl, rfl, rfl⟩ := e
    have := cellsF_get zs i hi
    exact ⟨by rw [hr.cellAt _ (by omega)]; exact this.1, by rw [hr.cellAt _ (by omega)]; exact this.2⟩
theorem Fol.shape {w : World} {v : Value} {zs : List Ent} {F : Nat → Prop} (h : Fol w v zs F) : (v = .slice none 0 0 ∧ zs.length = 0) ∨ ∃ g cap, v = .slice (some ⟨g, 0, none⟩) zs.length cap ∧ zs.length ≤ cap ∧ cap ≤ maxLen ∧ g < w.heap.size := own_shape h.row
theorem Fol.frozen {w : World} {g cap n : Nat} {zs : List Ent} {F : Nat → Prop} (h : Fol w (.slice (some ⟨g, 0, none⟩) n cap) zs F) (j : Nat) : w.frozen? ⟨g, j, none⟩ = false := by
  obtain ⟨hn, _⟩ | ⟨g', cap', e, _⟩ := own_shape h.row
  · simp at hn
  · have hr := h.row
    rw [e] at hr
    simp only [Value.slice.injEq, Option.some.injEq, Addr.mk.injEq, and_true] at e
    obtain ⟨rfl, rfl, rfl⟩ := e
    exact hr.frozenAt j
end Go.Proofs.YtnbdkojdddplkaaDoor.Dk
namespace Go.Proofs.YtnbdkojdddplkaaDoor.Dk
open Go.RowKit

set_option maxHeartbeats 400000 in
theorem cmp_any (a b : ByteArray) (w : World) :
    Calls Tryd.prog 80 #[.string a, .string b] w fun e w' => e = .returned (.int .i64 (cmpN a b)) ∧ w' = w := by
  have hx : (callFunc 90 #[.string a, .string b]).run Tryd.prog w = .ok (.value (.int .i64 (cmpN a b))) w := by
    rw [run_callFunc_extern Tryd.func90 (by kernel_rfl) (by kernel_rfl) (by kernel_rfl) (e := Extern.BytealgCompare.compare) (by kernel_rfl), Lib.run_compareString]
    rfl
  have h53 : Calls Tryd.prog 87 #[.string a, .string b] w fun e w' => e = .returned (.int .i64 (cmpN a b)) ∧ w' = w := by
    go_enter Tryd.func87, Tryd.ntmps87
    go_wp2_with (simp only [hx])
    go_ret
    exact ⟨rfl, rfl⟩
  go_enter Tryd.func80, Tryd.ntmps80
  go_wp2_with (go_at_call 87; refine h53.mono ?_; rintro e w' ⟨rfl, hw⟩; have hw' := hw.symm; subst hw')
  go_ret
  exact ⟨rfl, rfl⟩

set_option maxHeartbeats 400000 in
theorem find1_any (a b : ByteArray) (d : Value) (w : World) :
    Calls Tryd.prog 79 #[.agg #[.string a, d], .string b] w fun e w' => e = .returned (.int .i64 (cmpN a b)) ∧ Below w.heap.size w w' := by
  go_enter Tryd.func79, Tryd.ntmps79
  go_wp2_with (go_at_call 80; refine (cmp_any a b _).mono ?_; rintro e w' ⟨rfl, hw⟩; have hw' := hw.symm; subst hw')
  go_ret
  exact ⟨rfl, (Below.refl _ _).alloc (Nat.le_refl _) _⟩

set_option maxHeartbeats 1000000 in
set_option maxRecDepth 20000 in
theorem bsf_any (v : Value) (zs : List Ent) (F : Nat → Prop) (n : ByteArray) (p : Nat) (w : World) (h : Fol w v zs F) (hp : p ≤ zs.length) (hlo : ∀ i (hi : i < zs.length), i < p → cmpN zs[i].name n < 0) (hhi : ∀ i (hi : i < zs.length), p ≤ i → ¬ cmpN zs[i].name n < 0) (hz : zs.length ≤ 1000000000) (b : Bool) (hb1 : ∀ h : p < zs.length, (cmpN zs[p].name n == 0) = b) (hb2 : ¬ p < zs.length → b = false) :
    Calls Tryd.prog 78 #[v, .string n, .func (.func 79) #[] #[]] w fun e w' => e = .returned (.tuple #[.int .i64 p, .bool b]) ∧ Below w.heap.size w w' := by
  have HB1 : Hid (∀ h : p < zs.length, (cmpN zs[p].name n == 0) = b) := hb1
  have HB2 : Hid (¬ p < zs.length → b = false) := hb2
  clear hb1 hb2
  have HL : Hid (∀ i (hi : i < zs.length), i < p → cmpN zs[i].name n < 0) := hlo
  have HH : Hid (∀ i (hi : i < zs.length), p ≤ i → ¬ cmpN zs[i].name n < 0) := hhi
  have HF : Hid (Fol w v zs F) := h
  have hsh : ∃ ao cap, v = .slice ao zs.length cap := by
    rcases h.shape with ⟨rfl, e⟩ | ⟨g, cap, rfl, _⟩
    · exact ⟨none, 0, by rw [e]⟩
    · exact ⟨_, _, rfl⟩
  obtain ⟨ao, cap, rfl⟩ := hsh
  clear hlo hhi h
  go_enter Tryd.func78, Tryd.ntmps78
  go_wp2
  go_loopw [9, 10] (fun vi vj wr => ∃ (i j : Nat), i ≤ p ∧ p ≤ j ∧ j ≤ zs.length ∧ vi = .int .i64 i ∧ vj = .int .i64 j ∧ Below w.heap.size w wr) (fun vi vj _ => (intOf vj).toNat - (intOf vi).toNat)
  case atStart => exact ⟨0, zs.length, Nat.zero_le _, hp, Nat.le_refl _, rfl, rfl, Below.refl _ _⟩
  case round =>
    obtain ⟨i, j, hi, hj, hjl, rfl, rfl, hb⟩ := hrel
    by_cases hlt : i < j
    · have hlt' : (i : Int) < (j : Int) := by omega
      obtain ⟨q, hq, hqi, hqj⟩ : ∃ q : Nat, ((i : Int) + (j : Int)) / 2 = (q : Int) ∧ i ≤ q ∧ q < j := ⟨(i + j) / 2, by omega, by omega, by omega⟩
      obtain ⟨g, rfl⟩ : ∃ g, ao = some ⟨g, 0, none⟩ := by
        rcases HF.out.shape with ⟨_, e⟩ | ⟨g, cap', e, _⟩
        · omega
        · simp at e; exact ⟨g, e.1⟩
      have hqz : q < zs.length := by omega
      obtain ⟨c0, c1⟩ := (HF.out.below hb).cell q hqz
      have hql : (q : Int) < (zs.length : Int) := by omega
      have hcmp : ∃ c : Int, Hid (c = cmpN zs[q].name n) := ⟨_, rfl⟩
      obtain ⟨c, HC⟩ := hcmp
      have hf1 : Hid (∀ w1 : World, Calls Tryd.prog 79 #[.agg #[.string zs[q].name, zs[q].dv], .string n] w1 fun e w' => e = .returned (.int .i64 c) ∧ Below w1.heap.size w1 w') := fun w1 => by
        rw [HC.out]; exact find1_any _ _ _ w1
      by_cases hqp : q < p
      · have hc : c < 0 := by rw [HC.out]; exact HL.out q hqz hqp
        go_wp2_with (go_at_call 79; refine (hf1.out _).mono ?_; rintro e w' ⟨rfl, hb'⟩)
        go_roundw
        case rel => exact ⟨q + 1, j, by omega, hj, hjl, by go_num, rfl, hb.trans (hb'.mono hb.size)⟩
        case measure => simp [intOf]; omega
      · have hc : ¬ c < 0 := by have := HH.out q hqz (by omega); rw [← HC.out] at this; omega
        go_wp2_with (go_at_call 79; refine (hf1.out _).mono ?_; rintro e w' ⟨rfl, hb'⟩)
        go_roundw
        case rel => exact ⟨i, q, hi, by omega, by omega, rfl, rfl, hb.trans (hb'.mono hb.size)⟩
        case measure => simp [intOf]; omega
    · have e : i = p := by omega
      subst e
      have hlt' : ¬ (i : Int) < (j : Int) := by omega
      by_cases hil : i < zs.length
      · obtain ⟨g, rfl⟩ : ∃ g, ao = some ⟨g, 0, none⟩ := by
          rcases HF.out.shape with ⟨_, e⟩ | ⟨g, cap', e, _⟩
          · omega
          · simp at e; exact ⟨g, e.1⟩
        obtain ⟨c0, c1⟩ := (HF.out.below hb).cell i hil
        have hil' : (i : Int) < (zs.length : Int) := by omega
        obtain ⟨c, HC⟩ : ∃ c : Int, Hid (c = cmpN zs[i].name n) := ⟨cmpN zs[i].name n, (rfl : cmpN zs[i].name n = cmpN zs[i].name n)⟩
        have HI : Hid (∀ w1 : World, Calls Tryd.prog 79 #[.agg #[.string zs[i].name, zs[i].dv], .string n] w1 fun e w' => e = .returned (.int .i64 c) ∧ Below w1.heap.size w1 w') := fun w1 => by rw [HC.out]; exact find1_any _ _ _ w1
        have hbc : (c == 0) = b := by rw [HC.out]; exact HB1.out hil
        go_wp2_with (go_at_call 79; refine (HI.out _).mono ?_; rintro e w' ⟨rfl, hb'⟩)
        go_ret2
        exact ⟨rfl, hb.trans (hb'.mono hb.size)⟩
      · have hil' : ¬ (i : Int) < (zs.length : Int) := by omega
        have hno := HB2.out hil
        subst hno
        go_wp2
        go_ret2
        exact ⟨rfl, hb⟩

/-- Where a name stands in a folder, or would. -/
def HitE (n : ByteArray) (zs zl : List Ent) (z : Ent) (zr : List Ent) : Prop := zs = zl ++ z :: zr ∧ z.name = n ∧ (∀ x ∈ zl, nlt x.name n) ∧ ∀ x ∈ zr, nlt n x.name
def MissE (n : ByteArray) (zs zl zr : List Ent) : Prop := zs = zl ++ zr ∧ (∀ x ∈ zl, nlt x.name n) ∧ ∀ x ∈ zr, nlt n x.name

theorem splitE (n : ByteArray) (zs : List Ent) (h : Srt (zs.map Ent.fl)) : (∃ zl z zr, HitE n zs zl z zr) ∨ ∃ zl zr, MissE n zs zl zr := by
  rcases split n _ h with ⟨l, f, r, e, hf, hl, hr⟩ | ⟨l, r, e, hl, hr⟩
  · obtain ⟨zl, z2, rfl, rfl, e2⟩ := List.map_eq_append_iff.1 e
    obtain ⟨z, zr, rfl, rfl, rfl⟩ := List.map_eq_cons_iff.1 e2
    exact Or.inl ⟨zl, z, zr, rfl, hf, fun x hx => hl x.fl (List.mem_map_of_mem hx), fun x hx => hr x.fl (List.mem_map_of_mem hx)⟩
  · obtain ⟨zl, zr, rfl, rfl, rfl⟩ := List.map_eq_append_iff.1 e
    exact Or.inr ⟨zl, zr, rfl, fun x hx => hl x.fl (List.mem_map_of_mem hx), fun x hx => hr x.fl (List.mem_map_of_mem hx)⟩
theorem HitE.hit {n : ByteArray} {zs zl : List Ent} {z : Ent} {zr : List Ent} (h : HitE n zs zl z zr) : Hit n (zs.map Ent.fl) (zl.map Ent.fl) z.fl (zr.map Ent.fl) := by
  obtain ⟨rfl, hf, hl, hr⟩ := h
  refine ⟨by simp, hf, fun x hx => ?_, fun x hx => ?_⟩
  · obtain ⟨y, hy, rfl⟩ := List.mem_map.1 hx
    exact hl y hy
  · obtain ⟨y, hy, rfl⟩ := List.mem_map.1 hx
    exact hr y hy
theorem MissE.miss {n : ByteArray} {zs zl zr : List Ent} (h : MissE n zs zl zr) : Miss n (zs.map Ent.fl) (zl.map Ent.fl) (zr.map Ent.fl) := by
  obtain ⟨rfl, hl, hr⟩ := h
  refine ⟨by simp, fun x hx => ?_, fun x hx => ?_⟩
  · obtain ⟨y, hy, rfl⟩ := List.mem_map.1 hx
    exact hl y hy
  · obtain ⟨y, hy, rfl⟩ := List.mem_map.1 hx
    exact hr y hy

theorem bsf_hit (v : Value) (zs : List Ent) (F : Nat → Prop) (n : ByteArray) (zl : List Ent) (z : Ent) (zr : List Ent) (w : World) (h : Fol w v zs F) (hh : HitE n zs zl z zr) (hz : zs.length ≤ 1000000000) :
    Calls Tryd.prog 78 #[v, .string n, .func (.func 79) #[] #[]] w fun e w' => e = .returned (.tuple #[.int .i64 zl.length, .bool true]) ∧ Below w.heap.size w w' := by
  obtain ⟨rfl, hn, hl, hr⟩ := hh
  refine bsf_any v _ F n zl.length w h (by simp) (fun i hi hip => ?_) (fun i hi hip => ?_) hz true (fun hi => ?_) (fun hi => ?_)
  · rw [List.getElem_append_left hip]
    exact hl _ (List.getElem_mem _)
  · rw [List.getElem_append_right hip]
    rcases Nat.eq_zero_or_pos (i - zl.length) with h0 | h0
    · simp only [h0, List.getElem_cons_zero]
      rw [hn]
      exact nlt_irrefl n
    · obtain ⟨j, hj⟩ : ∃ j, i - zl.length = j + 1 := ⟨i - zl.length - 1, by omega⟩
      simp only [hj, List.getElem_cons_succ]
      exact nlt_asymm (hr _ (List.getElem_mem _))
  · rw [List.getElem_append_right (Nat.le_refl _)]
    simp only [Nat.sub_self, List.getElem_cons_zero]
    rw [hn, cmpN_eq.2 rfl]
    rfl
  · simp at hi
theorem bsf_miss (v : Value) (zs : List Ent) (F : Nat → Prop) (n : ByteArray) (zl zr : List Ent) (w : World) (h : Fol w v zs F) (hh : MissE n zs zl zr) (hz : zs.length ≤ 1000000000) :
    Calls Tryd.prog 78 #[v, .string n, .func (.func 79) #[] #[]] w fun e w' => e = .returned (.tuple #[.int .i64 zl.length, .bool false]) ∧ Below w.heap.size w w' := by
  obtain ⟨rfl, hl, hr⟩ := hh
  refine bsf_any v _ F n zl.length w h (by simp) (fun i hi hip => ?_) (fun i hi hip => ?_) hz false (fun hi => ?_) (fun _ => rfl)
  · rw [List.getElem_append_left hip]
    exact hl _ (List.getElem_mem _)
  · rw [List.getElem_append_right hip]
    exact nlt_asymm (hr _ (List.getElem_mem _))
  · have hzr : zl.length - zl.length < zr.length := by simp at hi; omega
    rw [List.getElem_append_right (Nat.le_refl _)]
    have := hr _ (List.getElem_mem (l := zr) (n := zl.length - zl.length) hzr)
    have hne := (nlt_ne this).symm
    have : cmpN zr[zl.length - zl.length].name n ≠ 0 := fun h => hne (cmpN_eq.1 h)
    simpa using this

set_option maxHeartbeats 400000 in
theorem find_of (v : Value) (n : ByteArray) (p : Nat) (b : Bool) (w : World) (h : Calls Tryd.prog 78 #[v, .string n, .func (.func 79) #[] #[]] w fun e w' => e = .returned (.tuple #[.int .i64 p, .bool b]) ∧ Below w.heap.size w w') :
    Calls Tryd.prog 58 #[v, .string n] w fun e w' => e = .returned (.tuple #[.int .i64 p, .bool b]) ∧ Below w.heap.size w w' := by
  have HC : Hid (_) := h
  clear h
  go_enter Tryd.func58, Tryd.ntmps58
  go_wp2_with (go_at_call 78; refine Calls.mono HC.out ?_; rintro e w' ⟨rfl, hb'⟩)
  go_ret2
  exact ⟨rfl, hb'⟩
theorem find_hit (v : Value) (zs : List Ent) (F : Nat → Prop) (n : ByteArray) (zl : List Ent) (z : Ent) (zr : List Ent) (w : World) (h : Fol w v zs F) (hh : HitE n zs zl z zr) (hz : zs.length ≤ 1000000000) :
    Calls Tryd.prog 58 #[v, .string n] w fun e w' => e = .returned (.tuple #[.int .i64 zl.length, .bool true]) ∧ Below w.heap.size w w' :=
  find_of v n _ _ w (bsf_hit v zs F n zl z zr w h hh hz)
theorem find_miss (v : Value) (zs : List Ent) (F : Nat → Prop) (n : ByteArray) (zl zr : List Ent) (w : World) (h : Fol w v zs F) (hh : MissE n zs zl zr) (hz : zs.length ≤ 1000000000) :
    Calls Tryd.prog 58 #[v, .string n] w fun e w' => e = .returned (.tuple #[.int .i64 zl.length, .bool false]) ∧ Below w.heap.size w w' :=
  find_of v n _ _ w (bsf_miss v zs F n zl zr w h hh hz)
set_option maxHeartbeats 400000 in
theorem has_of (v : Value) (n : ByteArray) (p : Nat) (b : Bool) (w : World) (h : Calls Tryd.prog 58 #[v, .string n] w fun e w' => e = .returned (.tuple #[.int .i64 p, .bool b]) ∧ Below w.heap.size w w') :
    Calls Tryd.prog 46 #[v, .string n] w fun e w' => e = .returned (.bool b) ∧ Below w.heap.size w w' := by
  have HC : Hid (_) := h
  clear h
  go_enter Tryd.func46, Tryd.ntmps46
  go_wp2_with (go_at_call 58; refine Calls.mono HC.out ?_; rintro e w' ⟨rfl, hb'⟩)
  go_ret
  exact ⟨rfl, hb'⟩
theorem has_any (v : Value) (zs : List Ent) (F : Nat → Prop) (n : ByteArray) (w : World) (h : Fol w v zs F) (hs : Srt (zs.map Ent.fl)) (hz : zs.length ≤ 1000000000) :
    Calls Tryd.prog 46 #[v, .string n] w fun e w' => e = .returned (.bool (look n (zs.map Ent.fl)).isSome) ∧ Below w.heap.size w w' := by
  rcases splitE n zs hs with ⟨zl, z, zr, hh⟩ | ⟨zl, zr, hh⟩
  · rw [hh.hit.lookE]
    exact has_of v n _ _ w (find_hit v zs F n zl z zr w h hh hz)
  · rw [hh.miss.lookE]
    exact has_of v n _ _ w (find_miss v zs F n zl zr w h hh hz)

set_option maxHeartbeats 1000000 in
theorem size_any (v : Value) (zs : List Ent) (F : Nat → Prop) (w : World) (h : Fol w v zs F) (hm : mass (zs.map Ent.fl) ≤ 1000000000) :
    Calls Tryd.prog 45 #[v] w fun e w' => e = .returned (.int .i64 (used (zs.map Ent.fl))) ∧ Below w.heap.size w w' := by
  have hsh : ∃ ao cap, v = .slice ao zs.length cap := by
    rcases h.shape with ⟨rfl, e⟩ | ⟨g, cap, rfl, _⟩
    · exact ⟨none, 0, by rw [e]⟩
    · exact ⟨_, _, rfl⟩
  obtain ⟨ao, cap, rfl⟩ := hsh
  have hum := used_mass (zs.map Ent.fl)
  rw [List.length_map] at hum
  have hzl : zs.length ≤ 1000000000 := by omega
  have HM : Hid (used (zs.map Ent.fl) ≤ 1000000000) := by show _ ≤ _; omega
  have HF : Hid (Fol w (.slice ao zs.length cap) zs F) := h
  clear h hm hum
  go_enter Tryd.func45, Tryd.ntmps45
  go_wp2
  go_loopw [3, 8] (fun vt vi wr => ∃ (k t : Nat), k ≤ zs.length ∧ vi = .int .i64 k ∧ vt = .int .i64 t ∧ Hid (t = used ((zs.take k).map Ent.fl)) ∧ Below w.heap.size w wr) (fun _ vi _ => zs.length - (intOf vi).toNat)
  case atStart => exact ⟨0, 0, Nat.zero_le _, rfl, rfl, rfl, Below.refl _ _⟩
  case round =>
    obtain ⟨k, t, hk, rfl, rfl, HT, hb⟩ := hrel
    by_cases hlt : k < zs.length
    · have hlt' : (k : Int) < (zs.length : Int) := by omega
      obtain ⟨g, rfl⟩ : ∃ g, ao = some ⟨g, 0, none⟩ := by
        rcases HF.out.shape with ⟨_, e⟩ | ⟨g, cap', e, _⟩
        · omega
        · simp at e; exact ⟨g, e.1⟩
      obtain ⟨c0, c1⟩ := (HF.out.below hb).cell k hlt
      obtain ⟨aod, capd, hd, _, _⟩ := (Sl.of_own (HF.out.data zs[k] (List.getElem_mem hlt))).shape
      rw [hd] at c1
      have HT' : Hid (t + zs[k].bs.length = used ((zs.take (k + 1)).map Ent.fl)) := by
        show _ = _
        rw [HT.out, take_succ_snoc zs k zs[k] (List.getElem?_eq_getElem hlt), List.map_append, used_append]
        simp [used, Ent.fl]
      have hle : t + zs[k].bs.length ≤ 1000000000 := by
        have h1 := HT'.out
        have h2 := HM.out
        have h3 := congrArg (fun l => used (l.map Ent.fl)) (List.take_append_drop (k + 1) zs)
        simp only [List.map_append, used_append] at h3
        omega
      generalize zs[k].bs.length = m at *
      clear hd
      go_wp2
      go_roundw
      case rel => exact ⟨k + 1, t + m, by omega, by go_num, by go_num, HT', hb.alloc hb.size _⟩
      case measure => simp [intOf]; omega
    · have e : k = zs.length := by omega
      subst e
      go_wp2
      go_ret
      refine ⟨?_, hb⟩
      rw [HT.out, List.take_length]
      rfl
end Go.Proofs.YtnbdkojdddplkaaDoor.Dk
