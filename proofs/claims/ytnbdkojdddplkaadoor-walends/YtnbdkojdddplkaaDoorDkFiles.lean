/- Files by rising names, and changes of them: plain mathematics, no walk. -/
import Derived.Lib.Bytealg
namespace Go.Proofs.YtnbdkojdddplkaaDoor.Dk
open Go.Lib

theorem cmp_self : ∀ a : List UInt8, compareBytes a a = 0
  | [] => rfl
  | x :: a => by simp [compareBytes, UInt8.lt_irrefl, cmp_self a]

theorem cmp_zero : ∀ a b : List UInt8, compareBytes a b = 0 → a = b
  | [], [], _ => rfl
  | [], _ :: _, h => by simp [compareBytes] at h
  | _ :: _, [], h => by simp [compareBytes] at h
  | x :: a, y :: b, h => by
    unfold compareBytes at h
    by_cases h1 : x < y
    · simp [h1] at h
    · by_cases h2 : y < x
      · simp [h1, h2] at h
      · simp only [h1, h2, if_false] at h
        have e : x = y := UInt8.le_antisymm (UInt8.not_lt.1 h2) (UInt8.not_lt.1 h1)
        rw [e, cmp_zero a b h]

theorem cmp_swap : ∀ a b : List UInt8, compareBytes b a = - compareBytes a b
  | [], [] => rfl
  | [], _ :: _ => rfl
  | _ :: _, [] => rfl
  | x :: a, y :: b => by
    unfold compareBytes
    by_cases h1 : x < y
    · have h2 : ¬ y < x := fun h => UInt8.lt_irrefl x (UInt8.lt_trans h1 h)
      simp [h1, h2]
    · by_cases h2 : y < x
      · simp [h1, h2]
      · simp only [h1, h2, if_false]
        exact cmp_swap a b

theorem cmp_trans : ∀ a b c : List UInt8, compareBytes a b < 0 → compareBytes b c < 0 → compareBytes a c < 0
  | _, [], [], _, h => by simp [compareBytes] at h
  | [], _, _ :: _, _, _ => by simp [compareBytes]
  | _ :: _, [], _ :: _, h, _ => by simp [compareBytes] at h
  | _, _ :: _, [], _, h => by simp [compareBytes] at h
  | x :: a, y :: b, z :: c, h, k => by
    unfold compareBytes at h k ⊢
    by_cases h1 : x < y
    · by_cases k1 : y < z
      · simp [UInt8.lt_trans h1 k1]
      · by_cases k2 : z < y
        · simp [k1, k2] at k
        · have e : y = z := UInt8.le_antisymm (UInt8.not_lt.1 k2) (UInt8.not_lt.1 k1)
          subst e
          simp [h1]
    · by_cases h2 : y < x
      · simp [h1, h2] at h
      · have e : x = y := UInt8.le_antisymm (UInt8.not_lt.1 h2) (UInt8.not_lt.1 h1)
        subst e
        simp only [UInt8.lt_irrefl, if_false] at h
        by_cases k1 : x < z
        · simp [k1]
        · by_cases k2 : z < x
          · simp [k1, k2] at k
          · simp only [k1, k2, if_false] at k ⊢
            exact cmp_trans a b c h k

/-- The order of names. -/
def cmpN (a b : ByteArray) : Int := compareBytes a.data.toList b.data.toList
def nlt (a b : ByteArray) : Prop := cmpN a b < 0
theorem cmpN_eq {a b : ByteArray} : cmpN a b = 0 ↔ a = b := by
  constructor
  · intro h
    have := cmp_zero _ _ h
    obtain ⟨⟨la⟩⟩ := a
    obtain ⟨⟨lb⟩⟩ := b
    simp at this
    rw [this]
  · rintro rfl
    exact cmp_self _
theorem cmpN_swap (a b : ByteArray) : cmpN b a = - cmpN a b := cmp_swap _ _
theorem nlt_irrefl (a : ByteArray) : ¬ nlt a a := by
  unfold nlt
  rw [cmpN_eq.2 rfl]
  omega
theorem nlt_trans {a b c : ByteArray} (h : nlt a b) (k : nlt b c) : nlt a c := cmp_trans _ _ _ h k
theorem nlt_ne {a b : ByteArray} (h : nlt a b) : a ≠ b := fun e => nlt_irrefl b (e ▸ h)
theorem nlt_asymm {a b : ByteArray} (h : nlt a b) : ¬ nlt b a := fun k => nlt_irrefl a (nlt_trans h k)
theorem nlt_total (a b : ByteArray) : nlt a b ∨ a = b ∨ nlt b a := by
  unfold nlt
  rcases Int.lt_trichotomy (cmpN a b) 0 with h | h | h
  · exact Or.inl h
  · exact Or.inr (Or.inl (cmpN_eq.1 h))
  · exact Or.inr (Or.inr (by rw [cmpN_swap a b]; omega))
instance (a b : ByteArray) : Decidable (nlt a b) := inferInstanceAs (Decidable (cmpN a b < 0))

/-- A file. -/
structure Fl where
  name : ByteArray
  bs : List UInt8

def Srt (fs : List Fl) : Prop := fs.Pairwise fun a b => nlt a.name b.name

def ins (f : Fl) : List Fl → List Fl
  | [] => [f]
  | x :: r => if nlt f.name x.name then f :: x :: r else x :: ins f r
def del (n : ByteArray) (fs : List Fl) : List Fl := fs.filter fun f => !decide (f.name = n)
def look (n : ByteArray) (fs : List Fl) : Option Fl := fs.find? fun f => decide (f.name = n)
/-- The bytes of all files. -/
def used (fs : List Fl) : Nat := (fs.map fun f => f.bs.length).sum
/-- Files and bytes. -/
def mass (fs : List Fl) : Nat := (fs.map fun f => f.bs.length + 1).sum

theorem mass_append (a b : List Fl) : mass (a ++ b) = mass a + mass b := by simp [mass]
theorem mass_cons (f : Fl) (b : List Fl) : mass (f :: b) = f.bs.length + 1 + mass b := by simp [mass]
theorem mass_nil : mass [] = 0 := rfl
theorem used_append (a b : List Fl) : used (a ++ b) = used a + used b := by simp [used]
theorem used_cons (f : Fl) (b : List Fl) : used (f :: b) = f.bs.length + used b := by simp [used]
theorem used_mass : ∀ fs : List Fl, used fs + fs.length = mass fs
  | [] => rfl
  | f :: r => by
    have := used_mass r
    rw [used_cons, mass_cons, List.length_cons]
    omega

/-- Where a name stands among files, or would. -/
def Hit (n : ByteArray) (fs l : List Fl) (f : Fl) (r : List Fl) : Prop := fs = l ++ f :: r ∧ f.name = n ∧ (∀ x ∈ l, nlt x.name n) ∧ ∀ x ∈ r, nlt n x.name
def Miss (n : ByteArray) (fs l r : List Fl) : Prop := fs = l ++ r ∧ (∀ x ∈ l, nlt x.name n) ∧ ∀ x ∈ r, nlt n x.name

theorem split (n : ByteArray) : ∀ fs : List Fl, Srt fs → (∃ l f r, Hit n fs l f r) ∨ ∃ l r, Miss n fs l r
  | [], _ => Or.inr ⟨[], [], rfl, by simp, by simp⟩
  | x :: fs, h => by
    have hx := (List.pairwise_cons.1 h).1
    rcases nlt_total x.name n with h1 | h1 | h1
    · rcases split n fs (List.pairwise_cons.1 h).2 with ⟨l, f, r, rfl, hf, hl, hr⟩ | ⟨l, r, rfl, hl, hr⟩
      · exact Or.inl ⟨x :: l, f, r, rfl, hf, by simpa using ⟨h1, hl⟩, hr⟩
      · exact Or.inr ⟨x :: l, r, rfl, by simpa using ⟨h1, hl⟩, hr⟩
    · exact Or.inl ⟨[], x, fs, rfl, h1, by simp, fun y hy => h1 ▸ hx y hy⟩
    · exact Or.inr ⟨[], x :: fs, rfl, by simp, fun y hy => by
        rcases List.mem_cons.1 hy with rfl | hy
        · exact h1
        · exact nlt_trans h1 (hx y hy)⟩

theorem del_front (n : ByteArray) (l r : List Fl) (h : ∀ x ∈ l, nlt x.name n) : del n (l ++ r) = l ++ del n r := by
  unfold del
  rw [List.filter_append]
  congr 1
  exact List.filter_eq_self.2 fun x hx => by simp [nlt_ne (h x hx)]
theorem del_back (n : ByteArray) (r : List Fl) (h : ∀ x ∈ r, nlt n x.name) : del n r = r :=
  List.filter_eq_self.2 fun x hx => by simpa using (nlt_ne (h x hx)).symm
theorem look_front (n : ByteArray) (r : List Fl) : ∀ l : List Fl, (∀ x ∈ l, nlt x.name n) → look n (l ++ r) = look n r
  | [], _ => rfl
  | x :: l, h => by
    have := look_front n r l (fun y hy => h y (by simp [hy]))
    unfold look at this ⊢
    rw [List.cons_append, List.find?_cons]
    simp [nlt_ne (h x (by simp)), this]
theorem look_back (n : ByteArray) (r : List Fl) (h : ∀ x ∈ r, nlt n x.name) : look n r = none :=
  List.find?_eq_none.2 fun x hx => by simpa using (nlt_ne (h x hx)).symm
theorem ins_front (f : Fl) (r : List Fl) : ∀ l : List Fl, (∀ x ∈ l, nlt x.name f.name) → ins f (l ++ r) = l ++ ins f r
  | [], _ => rfl
  | x :: l, h => by
    have h1 : ¬ nlt f.name x.name := nlt_asymm (h x (by simp))
    rw [List.cons_append, ins, if_neg h1, ins_front f r l (fun y hy => h y (by simp [hy]))]
    rfl
theorem ins_back (f : Fl) (r : List Fl) (h : ∀ x ∈ r, nlt f.name x.name) : ins f r = f :: r := by
  cases r with
  | nil => rfl
  | cons x r => rw [ins, if_pos (h x (by simp))]
theorem ins_mid (f : Fl) (l r : List Fl) (hl : ∀ x ∈ l, nlt x.name f.name) (hr : ∀ x ∈ r, nlt f.name x.name) : ins f (l ++ r) = l ++ f :: r := by
  rw [ins_front f r l hl, ins_back f r hr]

theorem Hit.lookE {n : ByteArray} {fs l : List Fl} {f : Fl} {r : List Fl} (h : Hit n fs l f r) : look n fs = some f := by
  obtain ⟨rfl, hf, hl, hr⟩ := h
  rw [look_front n _ l hl]
  simp [look, hf]
theorem Hit.delE {n : ByteArray} {fs l : List Fl} {f : Fl} {r : List Fl} (h : Hit n fs l f r) : del n fs = l ++ r := by
  obtain ⟨rfl, hf, hl, hr⟩ := h
  rw [del_front n l _ hl]
  congr 1
  have := del_back n r hr
  unfold del at this ⊢
  rw [List.filter_cons]
  simp only [hf, decide_true, Bool.not_true, Bool.false_eq_true, if_false]
  exact this
theorem Hit.insE {n : ByteArray} {fs l : List Fl} {f : Fl} {r : List Fl} (h : Hit n fs l f r) (b : List UInt8) : ins ⟨n, b⟩ (del n fs) = l ++ ⟨n, b⟩ :: r := by
  rw [h.delE]
  exact ins_mid ⟨n, b⟩ l r h.2.2.1 h.2.2.2
theorem Miss.lookE {n : ByteArray} {fs l r : List Fl} (h : Miss n fs l r) : look n fs = none := by
  obtain ⟨rfl, hl, hr⟩ := h
  rw [look_front n _ l hl, look_back n r hr]
theorem Miss.delE {n : ByteArray} {fs l r : List Fl} (h : Miss n fs l r) : del n fs = fs := by
  obtain ⟨rfl, hl, hr⟩ := h
  rw [del_front n l _ hl, del_back n r hr]
theorem Miss.insE {n : ByteArray} {fs l r : List Fl} (h : Miss n fs l r) (b : List UInt8) : ins ⟨n, b⟩ fs = l ++ ⟨n, b⟩ :: r := by
  obtain ⟨rfl, hl, hr⟩ := h
  exact ins_mid ⟨n, b⟩ l r hl hr

/-- A change. -/
inductive Ch where
  | app (n : ByteArray) (b : List UInt8)
  | cut (n : ByteArray) (k : Nat)
  | rem (n : ByteArray)
  | mov (n t : ByteArray)

def Ch.mass : Ch → Nat
  | .app _ b => b.length + 1
  | _ => 0

def ap (fs : List Fl) : Ch → List Fl
  | .app n b => ins ⟨n, ((look n fs).map (·.bs)).getD [] ++ b⟩ (del n fs)
  | .cut n k => match look n fs with
    | some f => ins ⟨n, f.bs.take k⟩ (del n fs)
    | none => fs
  | .rem n => del n fs
  | .mov n t => match look n fs with
    | some f => if n = t then fs else ins ⟨t, f.bs⟩ (del t (del n fs))
    | none => fs

/-- May a change be made? -/
def Okc (fs : List Fl) : Ch → Prop
  | .cut n k => ∀ f, look n fs = some f → k ≤ f.bs.length
  | _ => True
def Okw (fs : List Fl) : List Ch → Prop
  | [] => True
  | c :: r => Okc fs c ∧ Okw (ap fs c) r

def run (fs : List Fl) (cs : List Ch) : List Fl := cs.foldl ap fs
def wmass (cs : List Ch) : Nat := (cs.map Ch.mass).sum

theorem srt_mid {l r : List Fl} {n : ByteArray} {b : List UInt8} (h : Srt (l ++ r)) (hl : ∀ x ∈ l, nlt x.name n) (hr : ∀ x ∈ r, nlt n x.name) : Srt (l ++ ⟨n, b⟩ :: r) := by
  unfold Srt at h ⊢
  rw [List.pairwise_append] at h ⊢
  refine ⟨h.1, List.pairwise_cons.2 ⟨hr, h.2.1⟩, fun a ha c hc => ?_⟩
  rcases List.mem_cons.1 hc with rfl | hc
  · exact hl a ha
  · exact h.2.2 a ha c hc
theorem srt_out {l r : List Fl} {f : Fl} (h : Srt (l ++ f :: r)) : Srt (l ++ r) :=
  List.Pairwise.sublist (by simp) h
theorem srt_del {fs : List Fl} (n : ByteArray) (h : Srt fs) : Srt (del n fs) := List.Pairwise.filter _ h
theorem srt_ins {fs : List Fl} (n : ByteArray) (b : List UInt8) (h : Srt fs) : Srt (ins ⟨n, b⟩ (del n fs)) := by
  rcases split n fs h with ⟨l, f, r, hh⟩ | ⟨l, r, hm⟩
  · rw [hh.insE]
    obtain ⟨rfl, hf, hl, hr⟩ := hh
    exact srt_mid (srt_out h) hl hr
  · rw [hm.delE, hm.insE]
    obtain ⟨rfl, hl, hr⟩ := hm
    exact srt_mid h hl hr
theorem del_mass (n : ByteArray) (fs : List Fl) : mass (del n fs) ≤ mass fs := by
  induction fs with
  | nil => exact Nat.le_refl _
  | cons x r ih =>
    unfold del at ih ⊢
    rw [List.filter_cons]
    split
    · rw [mass_cons, mass_cons]; omega
    · rw [mass_cons]; omega
theorem ins_mass (n : ByteArray) (b : List UInt8) (fs : List Fl) (h : Srt fs) : mass (ins ⟨n, b⟩ (del n fs)) ≤ mass fs + b.length + 1 := by
  rcases split n fs h with ⟨l, f, r, hh⟩ | ⟨l, r, hm⟩
  · rw [hh.insE]
    obtain ⟨rfl, hf, hl, hr⟩ := hh
    rw [mass_append, mass_cons, mass_append, mass_cons]
    simp only
    omega
  · rw [hm.delE, hm.insE]
    obtain ⟨rfl, hl, hr⟩ := hm
    rw [mass_append, mass_cons, mass_append]
    simp only
    omega

theorem ap_srt {fs : List Fl} (c : Ch) (h : Srt fs) : Srt (ap fs c) := by
  cases c with
  | app n b => exact srt_ins n _ h
  | cut n k =>
    simp only [ap]
    split
    · exact srt_ins n _ h
    · exact h
  | rem n => exact srt_del n h
  | mov n t =>
    simp only [ap]
    split
    · split
      · exact h
      · exact srt_ins t _ (srt_del n h)
    · exact h
theorem ap_mass {fs : List Fl} (c : Ch) (h : Srt fs) : mass (ap fs c) ≤ mass fs + c.mass := by
  cases c with
  | app n b =>
    simp only [ap, Ch.mass]
    rcases split n fs h with ⟨l, f, r, hh⟩ | ⟨l, r, hm⟩
    · rw [hh.insE, hh.lookE]
      obtain ⟨rfl, hf, hl, hr⟩ := hh
      simp only [mass_append, mass_cons, Option.map_some, Option.getD_some, List.length_append]
      omega
    · rw [hm.lookE, hm.delE, hm.insE]
      obtain ⟨rfl, hl, hr⟩ := hm
      simp only [mass_append, mass_cons, Option.map_none, Option.getD_none, List.nil_append]
      omega
  | cut n k =>
    simp only [ap, Ch.mass]
    rcases split n fs h with ⟨l, f, r, hh⟩ | ⟨l, r, hm⟩
    · rw [hh.lookE]
      simp only [hh.insE]
      obtain ⟨rfl, hf, hl, hr⟩ := hh
      simp only [mass_append, mass_cons, List.length_take]
      omega
    · rw [hm.lookE]
      simp
  | rem n => exact del_mass n fs
  | mov n t =>
    simp only [ap, Ch.mass]
    rcases split n fs h with ⟨l, f, r, hh⟩ | ⟨l, r, hm⟩
    · rw [hh.lookE]
      simp only
      split
      · simp
      · have h1 := ins_mass t f.bs (del n fs) (srt_del n h)
        rw [hh.delE] at h1 ⊢
        obtain ⟨rfl, hf, hl, hr⟩ := hh
        rw [mass_append] at h1
        rw [mass_append, mass_cons]
        omega
    · rw [hm.lookE]
      simp
theorem run_cons (fs : List Fl) (c : Ch) (cs : List Ch) : run fs (c :: cs) = run (ap fs c) cs := rfl
theorem run_snoc (fs : List Fl) (cs : List Ch) (c : Ch) : run fs (cs ++ [c]) = ap (run fs cs) c := by simp [run]
theorem run_srt (cs : List Ch) : ∀ fs : List Fl, Srt fs → Srt (run fs cs) := by
  induction cs with
  | nil => exact fun _ h => h
  | cons c r ih => exact fun fs h => ih _ (ap_srt c h)
theorem run_mass (cs : List Ch) : ∀ fs : List Fl, Srt fs → mass (run fs cs) ≤ mass fs + wmass cs := by
  induction cs with
  | nil => exact fun _ _ => by simp [run, wmass]
  | cons c r ih =>
    intro fs h
    have h1 := ih _ (ap_srt c h)
    have h2 := ap_mass c h
    have h3 : wmass (c :: r) = c.mass + wmass r := by simp [wmass]
    rw [run_cons]
    omega
theorem okw_snoc (c : Ch) : ∀ (cs : List Ch) (fs : List Fl), Okw fs cs → Okc (run fs cs) c → Okw fs (cs ++ [c])
  | [], _, _, h => ⟨h, trivial⟩
  | x :: r, fs, h, k => ⟨h.1, okw_snoc c r (ap fs x) h.2 k⟩
theorem okw_take : ∀ (k : Nat) (cs : List Ch) (fs : List Fl), Okw fs cs → ∀ c, cs[k]? = some c → Okc (run fs (cs.take k)) c
  | 0, x :: r, fs, h, c, hc => by
    simp at hc
    subst hc
    exact h.1
  | k + 1, x :: r, fs, h, c, hc => okw_take k r (ap fs x) h.2 c (by simpa using hc)
theorem wmass_take (cs : List Ch) (k : Nat) : wmass (cs.take k) ≤ wmass cs := by
  have := congrArg wmass (List.take_append_drop k cs)
  have h2 : wmass (cs.take k ++ cs.drop k) = wmass (cs.take k) + wmass (cs.drop k) := by unfold wmass; rw [List.map_append, List.sum_append]
  omega
theorem take_succ_snoc {α : Type} (cs : List α) (k : Nat) (c : α) (h : cs[k]? = some c) : cs.take (k + 1) = cs.take k ++ [c] := by
  rw [List.take_add_one, h]
  rfl
end Go.Proofs.YtnbdkojdddplkaaDoor.Dk
