/- Plain mathematics of the law KeepVotes: what the log holds, call by call. No walk. Entries whose rows lie in known blocks: append, Clone, ahead, after of a call without a snapshot, all with where the rows lie. do, whatever is kept (no snapshot). Save, where nothing was written yet. Save, whatever is kept (no snapshot). -/
import Derived.Test.YtjndgekpdmlbiaaGreatDoorPart22
import Derived.Test.YtjndgekpdmlbiaaGreatDoorPart23
import Derived.Test.YtjndgekpdmlbiaaGreatDoorPart14
import Derived.Test.YtjndgekpdmlbiaaGreatDoorPart13
import Derived.Test.YtjndgekpdmlbiaaGreatDoorPart21
import Derived.Test.YtjndgekpdmlbiaaGreatDoorPart20
namespace Go.Proofs.YtjndgekpdmlbiaaGreatDoor.Kp
open Bn

theorem left_done (s : Dk.St) (h : s.wait = []) (n t : Int) : Dk.leftOf s n t = s.now := by
  obtain ⟨room, last, wait⟩ := s
  dsimp only at h
  subst h
  unfold Dk.leftOf
  split <;> simp [Dk.run, Dk.St.now]
theorem load_now {fs : List Dk.Fl} {first : Int} {ds : List (List UInt8)} (h : Wl.nowF fs first ds) (room : Int) (hs : ∀ d ∈ ds, d.length ≤ 32768) (h1 : ds ≠ [] → 1 ≤ first) (h0 : ds = [] → first = 0) (hfit : first + ds.length ≤ 9223372036854775808) :
    Wl.loadR (Fr.scanL (Wl.fileOf ⟨room, fs, []⟩ Wl.nmW)).1 0 [] = (first, ds) := by
  have hf : Wl.fileOf (⟨room, fs, []⟩ : Dk.St) Wl.nmW = Wl.fileB first ds := h.file
  rw [hf]
  by_cases hd : ds = []
  · rw [hd, h0 hd]
    show Wl.loadR (Fr.scanL []).1 0 [] = _
    rw [Fr.scan_nil]
    rfl
  · rw [Wl.load_file ds first hs (h1 hd) hfit, if_neg (fun e => hd (List.eq_nil_of_length_eq_zero e))]

theorem rises_snoc (e : Ent) : ∀ (es : List Ent) (k : Int), risesB 1 k es = true → 0 ≤ k → e.idx = k + es.length + 1 → risesB 1 k (es ++ [e]) = true
  | [], k, _, hk, he => by
    simp only [List.length_nil] at he
    simp only [List.nil_append, risesB, Bool.and_true, Bool.and_eq_true, decide_eq_true_eq]
    omega
  | x :: es, k, h, hk, he => by
    simp only [risesB, Bool.and_eq_true, decide_eq_true_eq, List.cons_append] at h ⊢
    refine ⟨h.1, rises_snoc e es (k + 1) h.2 (by omega) ?_⟩
    simp only [List.length_cons] at he
    push_cast at he
    omega

/-- What stands while votes are saved. -/
structure VI (σ : St) (first : Int) (cs : List Cal) (j : Nat) : Prop where
  cls : Cls first cs σ
  flat : Flat σ
  nil : ∀ e ∈ σ.ents, e.data = []
  few : σ.ents.length ≤ j
  calls : cs.length ≤ j
  last : first + cs.length ≤ j + 1
  size : (cs.map fun c => (txt c).length + 28).sum ≤ 1500 + 150 * j
  esum : entSum cs ≤ 31 + j
theorem VI.init : VI st0 0 [] 0 where
  cls := ⟨fun h => absurd rfl h, fun _ => rfl, by decide, by decide, fun c hc => by simp at hc, fun k hk => by simp at hk, by decide, rfl⟩
  flat := Flat.zero
  nil := fun e he => by simp [st0] at he
  few := by simp [st0]
  calls := by simp
  last := by simp
  size := by simp
  esum := by simp [entSum]

def vR (t v rf : Int) (re : List Ent) : Rdy := ⟨t, v, true, rf, re, none⟩
/-- The entries that a vote brings. -/
def Brings (σ : St) (t rf : Int) (re : List Ent) : Prop := (rf = 0 ∧ re = []) ∨ (rf = σ.ents.length + 1 ∧ re = [⟨rf, t, 1, []⟩])
def nextS (σ : St) (t v : Int) (re : List Ent) : St := ⟨t, v, ⟨0, 0, [], []⟩, σ.ents ++ re⟩
theorem VI.after {σ : St} {first : Int} {cs : List Cal} {j : Nat} (h : VI σ first cs j) (t v rf : Int) (re : List Ent) (hre : Brings σ t rf re) : σ.after (vR t v rf re) = some (nextS σ t v re) := by
  have hsn := h.flat.snap
  obtain ⟨a, b, c, es⟩ := σ
  dsimp only at hsn
  subst hsn
  rcases hre with ⟨rfl, rfl⟩ | ⟨hrf, rfl⟩
  · show some _ = some _
    unfold nextS
    simp only [List.append_nil]
    rfl
  · dsimp only at hrf
    have hpos : 0 < rf := by omega
    unfold St.after St.shot
    show (St.put _ _) = _
    unfold St.put
    have h1 : 0 < (vR t v rf [⟨rf, t, 1, []⟩]).first := hpos
    rw [if_pos h1]
    have hm : St.mayGoOn (St.hard ⟨a, b, ⟨0, 0, [], []⟩, es⟩ (vR t v rf [⟨rf, t, 1, []⟩])) (vR t v rf [⟨rf, t, 1, []⟩]).first (vR t v rf [⟨rf, t, 1, []⟩]).ents = true := by
      show (decide ((0 : Int) < rf) && decide (rf - 1 - 0 ≤ (es.length : Int)) && (decide (rf ≤ rf) && decide (rf - rf = 0) && true)) = true
      simp only [Bool.and_true, Bool.and_eq_true, decide_eq_true_eq]
      omega
    rw [if_pos hm]
    unfold St.ahead
    show some (St.mk t v ⟨0, 0, [], []⟩ (es.take (rf - 1 - 0).toNat ++ [⟨rf, t, 1, []⟩])) = _
    rw [List.take_of_length_le (by omega)]
    rfl
theorem VI.flat' {σ : St} {first : Int} {cs : List Cal} {j : Nat} (h : VI σ first cs j) (hj : j ≤ 40) (t v rf : Int) (re : List Ent) (hre : Brings σ t rf re) (ht : I64 t) (hv : I64 v) : Flat (nextS σ t v re) := by
  rcases hre with ⟨rfl, rfl⟩ | ⟨hrf, rfl⟩
  · refine ⟨rfl, ?_, ht, hv, ?_⟩
    · show risesB 1 0 (σ.ents ++ []) = true
      rw [List.append_nil]; exact h.flat.rises
    · show ∀ e ∈ σ.ents ++ [], e.ok
      rw [List.append_nil]; exact h.flat.ok.2.2
  · have := h.few
    refine ⟨rfl, rises_snoc _ _ 0 h.flat.rises (by omega) (by show rf = _; omega), ht, hv, ?_⟩
    intro e he
    have he' : e ∈ σ.ents ++ [⟨rf, t, 1, []⟩] := he
    rcases List.mem_append.1 he' with h1 | h1
    · exact h.flat.ok.2.2 e h1
    · simp at h1
      subst h1
      exact ⟨⟨by show _ ≤ rf; omega, by show rf ≤ _; omega⟩, ht, (show I64 1 from ⟨by decide, by decide⟩), by simp⟩
theorem VI.nil' {σ : St} {first : Int} {cs : List Cal} {j : Nat} (h : VI σ first cs j) (t v rf : Int) (re : List Ent) (hre : Brings σ t rf re) : (∀ e ∈ (nextS σ t v re).ents, e.data = []) ∧ (∀ e ∈ re, e.data = []) ∧ re.length ≤ 1 ∧ (nextS σ t v re).ents.length = σ.ents.length + re.length := by
  rcases hre with ⟨rfl, rfl⟩ | ⟨hrf, rfl⟩
  · refine ⟨?_, by simp, by simp, by simp [nextS]⟩
    show ∀ e ∈ σ.ents ++ [], e.data = []
    rw [List.append_nil]; exact h.nil
  · refine ⟨?_, by simp, by simp, by simp [nextS]⟩
    intro e he
    have he' : e ∈ σ.ents ++ [⟨rf, t, 1, []⟩] := he
    rcases List.mem_append.1 he' with h1 | h1
    · exact h.nil e h1
    · simp at h1; subst h1; rfl
theorem VI.rok {σ : St} {first : Int} {cs : List Cal} {j : Nat} (h : VI σ first cs j) (hj : j ≤ 40) (t v rf : Int) (re : List Ent) (hre : Brings σ t rf re) (ht : I64 t) (hv : I64 v) : (vR t v rf re).ok := by
  have := h.few
  rcases hre with ⟨rfl, rfl⟩ | ⟨hrf, rfl⟩
  · exact ⟨ht, hv, (show I64 0 from ⟨by decide, by decide⟩), fun e he => by simp [vR] at he, fun p hp => by cases hp⟩
  · refine ⟨ht, hv, ⟨by show _ ≤ rf; omega, by show rf ≤ _; omega⟩, fun e he => ?_, fun p hp => by cases hp⟩
    simp [vR] at he
    subst he
    exact ⟨⟨by show _ ≤ rf; omega, by show rf ≤ _; omega⟩, ht, (show I64 1 from ⟨by decide, by decide⟩), by simp⟩

/-- The log's calls behind write. -/
def nextC (an : Bool) (cs : List Cal) (σ' : St) (r : Rdy) : List Cal := if an then [(true, σ'.whole)] else cs ++ [(false, r)]
theorem nextC_txt (an : Bool) (cs : List Cal) (σ' : St) (r : Rdy) : wDs an (cs.map txt) (encR an (if an then σ'.whole else r)) = (nextC an cs σ' r).map txt := by
  cases an <;> simp [wDs, nextC, txt]
theorem VI.step {σ : St} {first : Int} {cs : List Cal} {j : Nat} (h : VI σ first cs j) (hj : j ≤ 30) (t v rf : Int) (re : List Ent) (hre : Brings σ t rf re) (ht : I64 t) (hv : I64 v) (an : Bool) (han : an = true → cs.map txt ≠ []) :
    VI (nextS σ t v re) (wFirst an first (cs.map txt)) (nextC an cs (nextS σ t v re) (vR t v rf re)) (j + 1) := by
  have hfl := h.flat' (by omega) t v rf re hre ht hv
  obtain ⟨n1, n2, n3, n4⟩ := h.nil' t v rf re hre
  have hrok := h.rok (by omega) t v rf re hre ht hv
  have haf := h.after t v rf re hre
  have h1 := h.few
  have h2 := h.calls
  have h3 := h.last
  have h4 := h.size
  have h5 := h.esum
  have hF : ∃ F, wFirst an first (cs.map txt) = F ∧ 1 ≤ F ∧ F + (nextC an cs (nextS σ t v re) (vR t v rf re)).length ≤ (j : Int) + 1 + 1 := by
    unfold wFirst nextC
    by_cases h0 : cs = []
    · have hf0 := h.cls.zero h0
      subst h0
      subst hf0
      cases an
      · exact ⟨1, by simp [Wl.lastL], by omega, by simp; omega⟩
      · exact absurd rfl (han rfl)
    · have hf1 := h.cls.one h0
      have hl0 : cs.length ≠ 0 := fun e => h0 (List.eq_nil_of_length_eq_zero e)
      cases an
      · refine ⟨first, ?_, hf1, ?_⟩
        · simp only [List.length_map, hl0, if_false, Bool.false_eq_true]
        · simp; omega
      · refine ⟨first + cs.length, ?_, by omega, by simp; omega⟩
        simp only [if_true, Wl.lastL, List.length_map, hl0, if_false]
        omega
  obtain ⟨F, hF1, hF2, hF3⟩ := hF
  rw [hF1]
  have hwl : (encR true (nextS σ t v re).whole).length ≤ 1300 := by
    have := encR_le true (nextS σ t v re).whole rfl n1
    have e1 : (nextS σ t v re).whole.ents.length = σ.ents.length + re.length := n4
    omega
  have hrl : (encR false (vR t v rf re)).length ≤ 80 := by
    have := encR_le false (vR t v rf re) rfl n2
    have e1 : (vR t v rf re).ents.length = re.length := rfl
    omega
  have hlen : (nextC an cs (nextS σ t v re) (vR t v rf re)).length ≤ j + 1 ∧ nextC an cs (nextS σ t v re) (vR t v rf re) ≠ [] := by
    unfold nextC
    cases an <;> simp <;> omega
  refine ⟨⟨fun _ => hF2, fun e => absurd e hlen.2, by omega, by omega, fun c hc => ?_, fun k hk hk0 => ?_, ?_, ?_⟩, hfl, n1, by omega, hlen.1, by push_cast; omega, ?_, ?_⟩
  · unfold nextC at hc
    split at hc
    · simp at hc
      subst hc
      exact ⟨rfl, rfl, hfl.whole_ok, fun e he => by rw [n1 e he]; simp, by show (encR true (nextS σ t v re).whole).length ≤ _; omega⟩
    · rcases List.mem_append.1 hc with hc | hc
      · exact h.cls.ok c hc
      · simp at hc
        subst hc
        exact ⟨rfl, rfl, hrok, fun e he => by rw [n2 e he]; simp, by show (encR false (vR t v rf re)).length ≤ _; omega⟩
  · unfold nextC at hk ⊢
    cases an with
    | true => simp at hk; omega
    | false =>
      simp only [Bool.false_eq_true, if_false] at hk ⊢
      by_cases hlt : k < cs.length
      · rw [List.getElem_append_left hlt]; exact h.cls.head k hlt hk0
      · rw [List.getElem_append_right (by omega)]; simp
  · unfold nextC
    cases an with
    | true =>
      have e1 : (nextS σ t v re).whole.ents.length = σ.ents.length + re.length := n4
      simp [entSum]; omega
    | false =>
      have e1 : (vR t v rf re).ents.length = re.length := rfl
      unfold entSum at h5 ⊢
      simp; omega
  · unfold nextC
    cases an with
    | true => 
      simp only [if_true]
      rw [doAll_one]
      exact hfl.whole_after
    | false =>
      simp only [Bool.false_eq_true, if_false]
      rw [doAll_app, h.cls.run]
      show doAll σ [(false, vR t v rf re)] = _
      rw [doAll_one]
      exact haf
  · unfold nextC
    cases an with
    | true =>
      have e1 : (txt (true, (nextS σ t v re).whole)).length = (encR true (nextS σ t v re).whole).length + 1 := by simp [txt, fl]
      simp; omega
    | false =>
      have e1 : (txt (false, vR t v rf re)).length = (encR false (vR t v rf re)).length + 1 := by simp [txt, fl]
      simp; omega
  · unfold nextC
    cases an with
    | true =>
      have e1 : (nextS σ t v re).whole.ents.length = σ.ents.length + re.length := n4
      simp [entSum]; omega
    | false =>
      have e1 : (vR t v rf re).ents.length = re.length := rfl
      unfold entSum at h5 ⊢
      simp; omega
end Go.Proofs.YtjndgekpdmlbiaaGreatDoor.Kp
namespace Go.Proofs.YtjndgekpdmlbiaaGreatDoor.Kp
open Go.RowKit Bn

/-- All blocks from n on are of these. -/
def Up (K : Nat → Prop) (n : Nat) : Prop := ∀ k, n ≤ k → K k
theorem Up.le {K : Nat → Prop} {n m : Nat} (h : Up K n) (hle : n ≤ m) : Up K m := fun k hk => h k (Nat.le_trans hle hk)
/-- A row of one's own whose block is one of these. -/
def OwK (K : Nat → Prop) (W : World) (e : TypeId) (s : Nat) (v : Value) (n : Nat) (xs : List Value) : Prop := W.ownsRow 0 e s v n xs ∧ ∀ k, v.ownBlock = some k → K k
theorem OwK.of {K : Nat → Prop} {b : Nat} {W : World} {e : TypeId} {s n : Nat} {v : Value} {xs : List Value} (h : W.ownsRow b e s v n xs) (hK : Up K b) : OwK K W e s v n xs :=
  ⟨Dk.own_base h (fun _ _ => Nat.zero_le _), fun k hk => hK k (h.lt k hk).1⟩
theorem OwK.bel {K : Nat → Prop} {W W' : World} {e : TypeId} {s n : Nat} {v : Value} {xs : List Value} (h : OwK K W e s v n xs) (hb : Below W.heap.size W W') : OwK K W' e s v n xs := ⟨own_bel h.1 hb, h.2⟩
theorem OwK.to {K K' : Nat → Prop} {W : World} {e : TypeId} {s n : Nat} {v : Value} {xs : List Value} (h : OwK K W e s v n xs) (hK : ∀ k, k < W.heap.size → K k → K' k) : OwK K' W e s v n xs :=
  ⟨h.1, fun k hk => hK k (h.1.lt k hk).2 (h.2 k hk)⟩
theorem OwK.fr {K F : Nat → Prop} {W W' : World} {e : TypeId} {s n : Nat} {v : Value} {xs : List Value} (h : OwK K W e s v n xs) (hf : Dk.Fr F W W') (hd : ∀ k, K k → ¬ F k) : OwK K W' e s v n xs := by
  refine ⟨⟨h.1.1, ?_⟩, h.2⟩
  rcases h.1.2 with h2 | ⟨g, cap, cur, rfl, e2, e3, e4⟩
  · exact Or.inl h2
  · exact Or.inr ⟨g, cap, cur, rfl, e2, (hf.block g (lt_of_block e3) (hd g (h.2 g rfl))).trans e3, e4⟩
theorem own_typeK {K : Nat → Prop} {W W' : World} {n m : Nat} {u v : Value} {xs ys : List Value} (h : OwK K W 5 1 u n xs) (hv : W.ownsRow 0 65 4 v m ys) (hg : W.grownBy W' v.ownBlock) : OwK K W' 5 1 u n xs := ⟨own_type h.1 hv hg, h.2⟩
/-- A row of entries, it and their data in these blocks. -/
def Ek (K : Nat → Prop) (W : World) (v : Value) (es : List Ent) : Prop :=
  ∃ us : List Value, us.length = es.length ∧ OwK K W 65 4 v es.length (cellsE es us) ∧ ∀ (j : Nat) (e : Ent), es[j]? = some e → ∃ u, us[j]? = some u ∧ OwK K W 5 1 u e.data.length (cells8 e.data)
def Ef (K : Nat → Prop) (W : World) (ao : Option Addr) (es : List Ent) : Prop :=
  ∃ us : List Value, us.length = es.length ∧ (ao = none → es = []) ∧ (∀ a, ao = some a → ∀ j u, (cellsE es us)[j]? = some u → W.cell? (a.add j) = some u) ∧
    ∀ (j : Nat) (e : Ent), es[j]? = some e → ∃ u, us[j]? = some u ∧ OwK K W 5 1 u e.data.length (cells8 e.data)
theorem Ek.of {K : Nat → Prop} {b : Nat} {W : World} {v : Value} {es : List Ent} (h : Er b W v es) (hK : Up K b) : Ek K W v es := by
  obtain ⟨us, h1, h2, h3⟩ := h
  refine ⟨us, h1, .of h2 hK, fun j e hj => ?_⟩
  obtain ⟨u, h4, h5⟩ := h3 j e hj
  exact ⟨u, h4, .of h5 hK⟩
theorem Ek.er {K : Nat → Prop} {W : World} {v : Value} {es : List Ent} (h : Ek K W v es) : Er 0 W v es := by
  obtain ⟨us, h1, h2, h3⟩ := h
  refine ⟨us, h1, h2.1, fun j e hj => ?_⟩
  obtain ⟨u, h4, h5⟩ := h3 j e hj
  exact ⟨u, h4, h5.1⟩
theorem Ek.to {K K' : Nat → Prop} {W : World} {v : Value} {es : List Ent} (h : Ek K W v es) (hK : ∀ k, k < W.heap.size → K k → K' k) : Ek K' W v es := by
  obtain ⟨us, h1, h2, h3⟩ := h
  refine ⟨us, h1, h2.to hK, fun j e hj => ?_⟩
  obtain ⟨u, h4, h5⟩ := h3 j e hj
  exact ⟨u, h4, h5.to hK⟩
theorem Ek.fr {K F : Nat → Prop} {W W' : World} {v : Value} {es : List Ent} (h : Ek K W v es) (hf : Dk.Fr F W W') (hd : ∀ k, K k → ¬ F k) : Ek K W' v es := by
  obtain ⟨us, h1, h2, h3⟩ := h
  refine ⟨us, h1, h2.fr hf hd, fun j e hj => ?_⟩
  obtain ⟨u, h4, h5⟩ := h3 j e hj
  exact ⟨u, h4, h5.fr hf hd⟩
theorem Ek.nil (K : Nat → Prop) (W : World) : Ek K W (.slice none 0 0) [] := ⟨[], rfl, ⟨World.ownsRow_nil _ _ _ _, fun k hk => by simp [Value.ownBlock] at hk⟩, fun j e h => by simp at h⟩
theorem Ek.es {K : Nat → Prop} {W : World} {v : Value} {es : List Ent} (h : Ek K W v es) : Es W v es := h.er.es
theorem Ek.len {K : Nat → Prop} {W : World} {ao : Option Addr} {n c : Nat} {es : List Ent} (h : Ek K W (.slice ao n c) es) : n = es.length := h.er.len
theorem Ek.front {K : Nat → Prop} {W : World} {ao : Option Addr} {n cap : Nat} {es : List Ent} (h : Ek K W (.slice ao n cap) es) (k : Nat) : Ef K W ao (es.take k) := by
  obtain ⟨us, h1, ⟨h2, h2K⟩, h3⟩ := h
  refine ⟨us.take k, by simp [h1], fun e => ?_, fun a ha j u hj => ?_, fun j e hj => ?_⟩
  · rcases h2.2 with ⟨_, h0⟩ | ⟨g, c, cur, e1, _⟩
    · rw [List.eq_nil_of_length_eq_zero h0]; simp
    · rw [e] at e1; cases e1
  · rw [cellsE_take es us h1] at hj
    have hj2 : (cellsE es us)[j]? = some u := by
      by_cases hlt : j < k * 4
      · rw [List.getElem?_take, if_pos hlt] at hj; exact hj
      · rw [List.getElem?_take, if_neg hlt] at hj; cases hj
    rcases h2.2 with ⟨e0, _⟩ | ⟨g, c, cur, e1, _⟩
    · rw [ha] at e0; cases e0
    · rw [ha] at e1
      simp only [Value.slice.injEq, Option.some.injEq] at e1
      obtain ⟨rfl, _, _⟩ := e1
      exact h2.cells (by rw [ha]; rfl) j u hj2
  · have hj2 : es[j]? = some e := by
      by_cases hlt : j < k
      · rw [List.getElem?_take, if_pos hlt] at hj; exact hj
      · rw [List.getElem?_take, if_neg hlt] at hj; cases hj
    have hlt : j < k := by
      by_cases hlt : j < k
      · exact hlt
      · rw [List.getElem?_take, if_neg hlt] at hj; cases hj
    obtain ⟨u, h4, h5⟩ := h3 j e hj2
    exact ⟨u, by rw [List.getElem?_take, if_pos hlt]; exact h4, h5⟩

/-- Entries at the end of a row of entries. -/
theorem kappend_ents {K : Nat → Prop} {W : World} {v : Value} {es : List Ent} (h : Ek K W v es) {a : Addr} {ns : List Ent} {cap : Nat} (hn : Ef K W (some a) ns) (hl : es.length + ns.length ≤ 1000000000000) (hb : Up K W.heap.size) :
    ∃ v' w', (∀ ty, (Builtin.append_ #[36, 36] ty #[v, .slice (some a) ns.length cap]).run Tryz.prog W = .ok v' w') ∧ Ek K w' v' (es ++ ns) ∧ W.grownBy w' v.ownBlock ∧ (v'.ownBlock = v.ownBlock ∨ v'.ownBlock = some W.heap.size) := by
  obtain ⟨i, hi, hz, hsize, hby⟩ := info_parts Tryz.info65
  obtain ⟨us, h1, ⟨h2, h2K⟩, h3⟩ := h
  obtain ⟨xs, n1, _, n3, n4⟩ := hn
  have H := fun ty => run_append_own_at (P := Tryz.prog) W 0 36 ty 65 i _ 4 48 Tryz.underlying36 hi hz hsize hby rfl (by decide) v es.length (cellsE es us) h2 a ns.length cap (cellsE ns xs) (cellsE_len ns xs n1) (n3 a rfl) (own_oneE fun j e he => by
    obtain ⟨u, hu, ho⟩ := n4 j e he
    obtain ⟨ad, ld, cd, rfl⟩ := Dk.own_slice ho.1
    exact ⟨_, hu, rfl⟩) (by simp only [maxLen]; omega) (by omega) (Nat.zero_le _)
  obtain ⟨v', w', hr, g1, g2, _, g4⟩ := H 0
  refine ⟨v', w', fun ty => hr, ⟨us ++ xs, by simp [h1, n1], ?_, fun j e hj => ?_⟩, g2, g4⟩
  · have e1 : cellsE (es ++ ns) (us ++ xs) = cellsE es us ++ cellsE ns xs := by
      rw [cellsE, List.zip_append h1.symm, List.flatMap_append]; rfl
    rw [e1, List.length_append]
    exact ⟨g1, fun k hk => by
      rcases g4 with g4 | g4
      · exact h2K k (by rw [← g4]; exact hk)
      · rw [g4] at hk; cases hk; exact hb _ (Nat.le_refl _)⟩
  · by_cases hlt : j < es.length
    · rw [List.getElem?_append_left hlt] at hj
      obtain ⟨u, h4, h5⟩ := h3 j e hj
      exact ⟨u, by rw [List.getElem?_append_left (by omega)]; exact h4, own_typeK h5 h2 g2⟩
    · rw [List.getElem?_append_right (by omega)] at hj
      obtain ⟨u, h4, h5⟩ := n4 _ e hj
      exact ⟨u, by rw [List.getElem?_append_right (by omega), h1]; exact h4, own_typeK h5 h2 g2⟩
theorem Ef.below {K : Nat → Prop} {W W' : World} {ao : Option Addr} {es : List Ent} (h : Ef K W ao es) (hb : Below W.heap.size W W') : Ef K W' ao es := by
  obtain ⟨us, h1, h2, h3, h4⟩ := h
  refine ⟨us, h1, h2, fun a ha j u hj => ?_, fun j e hj => ?_⟩
  · have := h3 a ha j u hj
    exact (hb.cell (p := a.add j) (World.block_lt_of_cell? W _ this)).trans this
  · obtain ⟨u, h5, h6⟩ := h4 j e hj
    exact ⟨u, h5, h6.bel hb⟩
theorem Ek.below {K : Nat → Prop} {W W' : World} {v : Value} {es : List Ent} (h : Ek K W v es) (hb : Below W.heap.size W W') : Ek K W' v es := by
  obtain ⟨us, h1, ⟨h2, h2K⟩, h3⟩ := h
  refine ⟨us, h1, OwK.bel ⟨h2, h2K⟩ hb, fun j e hj => ?_⟩
  obtain ⟨u, h5, h6⟩ := h3 j e hj
  exact ⟨u, h5, h6.bel hb⟩
theorem Ek.new (K : Nat → Prop) (W : World) (hb : Up K W.heap.size) : Ek K (W.alloc (.cells #[] 65)) (.slice (some ⟨W.heap.size, 0, none⟩) 0 0) [] :=
  ⟨[], rfl, ⟨⟨rfl, Or.inr ⟨W.heap.size, 0, #[], rfl, Nat.zero_le _, heap_alloc_new _ _, Nat.le_refl _, by simp [maxLen], rfl, rfl⟩⟩, fun k hk => by simp [Value.ownBlock] at hk; exact hb k (by omega)⟩, fun j e h => by simp at h⟩


set_option maxRecDepth 4000 in
theorem kcloneE_any {K : Nat → Prop} {W : World} {ao : Option Addr} {es : List Ent} (cap : Nat) (h : Ef K W ao es) (hc : ao = none → cap = 0) (hl : es.length ≤ 1000000000000) (hb : Up K W.heap.size) :
    Calls Tryz.prog 113 #[.slice ao es.length cap] W fun x w' => ∃ v', x = .returned v' ∧ Hid (Ek K w' v' es ∧ Below W.heap.size W w' ∧ ∀ k, v'.ownBlock = some k → W.heap.size ≤ k) := by
  cases ao with
  | none =>
    have h0 : es = [] := by obtain ⟨us, _, h2, _⟩ := h; exact h2 rfl
    subst h0
    have hc0 := hc rfl
    subst hc0
    clear h hc hl hb
    have hq0 := eqlN
    go_enter Tryz.func113, Tryz.ntmps113
    go_wp2_with fail
    go_ret
    exact ⟨_, rfl, Ek.nil _ _, Below.refl _ _, fun k hk => by simp [Value.ownBlock] at hk⟩
  | some a =>
    have ha : Below W.heap.size W (W.alloc (.cells #[] 65)) := (Below.refl _ _).alloc (Nat.le_refl _) _
    obtain ⟨v', w', hap, hE, hg, hq⟩ := kappend_ents (Ek.new K W hb) (cap := cap) (h.below ha) (by simpa using hl) (hb.le ha.size)
    have hsh : ∃ ao' cap', v' = .slice ao' es.length cap' := by
      obtain ⟨us, _, ⟨h2, _⟩, _⟩ := hE
      rcases Dk.own_shape h2 with ⟨e, h0⟩ | ⟨g, c, e, _⟩
      · simp at h0; rw [e, h0]; exact ⟨_, _, rfl⟩
      · exact ⟨some ⟨g, 0, none⟩, c, by rw [e]; simp⟩
    obtain ⟨ao', cap', rfl⟩ := hsh
    have hB : Below W.heap.size W w' := ha.trans ⟨hg.os, hg.tape, hg.output, hg.size, fun k hk => hg.block k (by simp; omega) (by simp [Value.ownBlock]; omega)⟩
    have hnew : ∀ k, (Value.slice ao' es.length cap').ownBlock = some k → W.heap.size ≤ k := by
      intro k hk
      rcases hq with e | e
      · rw [e] at hk
        simp [Value.ownBlock] at hk
        omega
      · rw [e] at hk
        simp at hk
        omega
    have HF : Hid (Ek K w' (.slice ao' es.length cap') es ∧ Below W.heap.size W w' ∧ ∀ k, (Value.slice ao' es.length cap').ownBlock = some k → W.heap.size ≤ k) := ⟨by simpa using hE, hB, hnew⟩
    clear h hc hE hg hB hnew ha hq hl hb
    have hq0 := eqlS
    go_enter Tryz.func113, Tryz.ntmps113
    go_wp2_with (at_builtin; refine wpList_append_go _ rfl _ _ 36 36 rfl _ _ rfl rfl (hap _) ?_)
    go_ret
    exact ⟨_, rfl, HF.out⟩

set_option maxRecDepth 4000 in
set_option maxHeartbeats 1000000 in
theorem kahead_any {K : Nat → Prop} {W : World} (x0 x1 x3 x4 x5 : Value) (idx first : Int) (v : Value) (es : List Ent) (h : Ek K W v es) (k : Nat) (hk : first - 1 - idx = (k : Int)) (hkl : k ≤ es.length) (hi : 0 ≤ idx) (hf : first ≤ 9223372036854775807) (hl : es.length ≤ 1000000000000) (hb : Up K W.heap.size) :
    Calls Tryz.prog 90 #[.agg #[x0, x1, .int .i64 idx, x3, x4, x5, v], .int .i64 first] W fun x w' => ∃ v', x = .returned v' ∧ Hid (Ek K w' v' (es.take k) ∧ Below W.heap.size W w' ∧ (v' = v ∧ k = es.length ∨ ∀ j, v'.ownBlock = some j → W.heap.size ≤ j)) := by
  have hx : Hid (∀ o, Below W.heap.size W (W.alloc o)) := fun o => (Below.refl _ W).alloc (Nat.le_refl _) o
  have HE := hide h
  have hown : ∃ us, W.ownsRow 0 65 4 v es.length (cellsE es us) := by obtain ⟨us, _, ⟨h2, _⟩, _⟩ := h; exact ⟨us, h2⟩
  obtain ⟨us, hown⟩ := hown
  have hk1 : -9223372036854775808 ≤ first - 1 := by omega
  rcases Dk.own_shape hown with ⟨rfl, h0⟩ | ⟨g, cap, rfl, h1, h2, _⟩
  · have hk0 : k = 0 := by omega
    subst hk0
    have hes : es = [] := List.eq_nil_of_length_eq_zero h0
    subst hes
    clear h hown hl hb HE h0
    go_enter Tryz.func90, Tryz.ntmps90
    go_wp2_with fail
    go_ret
    exact ⟨_, rfl, Ek.nil _ _, hx.out _, Or.inl ⟨rfl, by first | rfl | trivial⟩⟩
  · have hcm : cap ≤ 9223372036854775807 := h2
    have hkc : k ≤ cap := by omega
    by_cases hlt : k < es.length
    · have HCl : Hid (∀ o, Calls Tryz.prog 113 #[.slice (some ⟨g, 0, none⟩) k cap] (W.alloc o) fun x w' => ∃ v', x = .returned v' ∧ Hid (Ek K w' v' (es.take k) ∧ Below (W.alloc o).heap.size (W.alloc o) w' ∧ ∀ j, v'.ownBlock = some j → (W.alloc o).heap.size ≤ j)) := fun o => by
        have hlen : (es.take k).length = k := by rw [List.length_take]; omega
        have := kcloneE_any cap ((HE.out.front k).below (hx.out o)) (fun e => by cases e) (by omega) (hb.le (hx.out o).size)
        rw [hlen] at this
        exact this
      have hltI : (k : Int) < (es.length : Int) := by omega
      clear h hown hl hb h2
      go_enter Tryz.func90, Tryz.ntmps90
      go_wp2_with fail
      refine Calls.mono (HCl.out _) ?_
      rintro x w4 ⟨v', rfl, hz⟩
      have HF : Hid (Ek K w4 v' (es.take k) ∧ Below W.heap.size W w4 ∧ ∀ j, v'.ownBlock = some j → W.heap.size ≤ j) := ⟨hz.out.1, (hx.out _).trans (hz.out.2.1.mono (hx.out _).size), fun j hj => Nat.le_trans (hx.out _).size (hz.out.2.2 j hj)⟩
      have hsh : ∃ ao' L' cap', v' = .slice ao' L' cap' := by
        obtain ⟨us', _, ⟨h2', _⟩, _⟩ := hz.out.1
        exact Dk.own_slice h2'
      obtain ⟨ao', L', cap', rfl⟩ := hsh
      clear hz HCl
      go_wp2_with fail
      go_ret
      exact ⟨_, rfl, HF.out.1, HF.out.2.1, Or.inr HF.out.2.2⟩
    · have hke : k = es.length := by omega
      subst hke
      clear h hown hl hb h2
      go_enter Tryz.func90, Tryz.ntmps90
      go_wp2_with fail
      go_ret
      refine ⟨_, rfl, ?_, hx.out _, Or.inl ⟨rfl, by first | rfl | trivial⟩⟩
      rw [List.take_length]
      exact HE.out.below (hx.out _)

/-- .. with the elder row. -/
theorem kappend_both {K : Nat → Prop} {W : World} {v : Value} {es : List Ent} (h : Ek K W v es) {a : Addr} {ns : List Ent} {cap : Nat} (hn : Ef K W (some a) ns) (hl : es.length + ns.length ≤ 1000000000000) (hb : Up K W.heap.size) :
    ∃ v' w', (∀ ty, (Builtin.append_ #[36, 36] ty #[v, .slice (some a) ns.length cap]).run Tryz.prog W = .ok v' w') ∧ Ek K w' v' (es ++ ns) ∧ Ek K w' v es ∧ W.grownBy w' v.ownBlock := by
  obtain ⟨v', w', hap, hE, hg, _⟩ := kappend_ents h (cap := cap) hn hl hb
  refine ⟨v', w', hap, hE, ?_, hg⟩
  obtain ⟨us, h1, ⟨h2, h2K⟩, h3⟩ := h
  obtain ⟨xs, n1, _, n3, n4⟩ := hn
  refine ⟨us, h1, ⟨append_keeps h2 (cellsE_len ns xs n1) (n3 a rfl) (own_oneE fun j e he => by
    obtain ⟨u, hu, ho⟩ := n4 j e he
    obtain ⟨ad, ld, cd, rfl⟩ := Dk.own_slice ho.1
    exact ⟨_, hu, rfl⟩) hl (hap 0), h2K⟩, fun j e hj => ?_⟩
  obtain ⟨u, h4, h5⟩ := h3 j e hj
  exact ⟨u, h4, own_typeK h5 h2 hg⟩

/-- The append of after, whatever came between. -/
theorem ktail_append {K : Nat → Prop} {Y : World} {v1 v2 ve : Value} {es1 es2 es0 : List Ent} (h1 : Ek K Y v1 es1) (h2 : Ek K Y v2 es2) (h0 : Ek K Y ve es0) (hl : es1.length + es2.length ≤ 1000000000000) (hb : Up K Y.heap.size) (hq : v1 = ve ∧ es1 = es0 ∨ ∀ j, v1.ownBlock = some j → ve.ownBlock ≠ some j) :
    ∃ av nv cv w', (∀ ty, (Builtin.append_ #[36, 36] ty #[v1, v2]).run Tryz.prog Y = .ok (.slice av nv cv) w') ∧ Ek K w' (.slice av nv cv) (es1 ++ es2) ∧ Ek K w' ve es0 ∧ Y.grownBy w' v1.ownBlock := by
  obtain ⟨us2, _, ⟨o2, _⟩, _⟩ := id h2
  obtain ⟨us1, _, ⟨o1, _⟩, _⟩ := id h1
  rcases Dk.own_shape o2 with ⟨rfl, hz⟩ | ⟨g2, c2, rfl, _⟩
  · have he : es2 = [] := List.eq_nil_of_length_eq_zero hz
    subst he
    obtain ⟨i, hi, hzz, hsize, hby⟩ := info_parts Tryz.info65
    obtain ⟨av, nv, cv, rfl⟩ := Dk.own_slice o1
    exact ⟨av, nv, cv, Y, fun ty => run_append_owned_none Y 0 36 ty 65 i 4 Tryz.underlying36 hi _ _ _ o1, by rw [List.append_nil]; exact h1, h0, World.grownBy.refl _ _⟩
  · have hg := h2.front es2.length
    rw [List.take_length] at hg
    obtain ⟨v', w', hap, hE, hO, hgr⟩ := kappend_both h1 (cap := c2) hg hl hb
    have hsl : ∃ av nv cv, v' = .slice av nv cv := by obtain ⟨us, _, ⟨o, _⟩, _⟩ := hE; exact Dk.own_slice o
    obtain ⟨av, nv, cv, rfl⟩ := hsl
    refine ⟨av, nv, cv, w', hap, hE, ?_, hgr⟩
    rcases hq with ⟨rfl, rfl⟩ | hq
    · exact hO
    · obtain ⟨us, a1, ⟨a2, a2K⟩, a3⟩ := h0
      refine ⟨us, a1, ?_, fun j e hj => ?_⟩
      · refine ⟨⟨a2.1, ?_⟩, a2K⟩
        rcases a2.2 with a | ⟨g, c, cur, e1, e2, e3, e4⟩
        · exact Or.inl a
        · refine Or.inr ⟨g, c, cur, e1, e2, ?_, e4⟩
          rw [hgr.block g (lt_of_block e3) (fun e => hq g e.symm (by rw [e1]; rfl))]
          exact e3
      · obtain ⟨u, a4, a5⟩ := a3 j e hj
        exact ⟨u, a4, own_typeK a5 o1 hgr⟩


theorem kafter_tail {K : Nat → Prop} {k : Nat} {W w4 Y : World} {s7 r9 z7 : Array Value} {v1 v2 ve : Value} {es0 ns : List Ent} (hW4 : Below W.heap.size W w4) (hB4 : Ab W.heap.size w4 s7 r9 z7) (hY : Below w4.heap.size w4 Y) (h0 : Ek K W ve es0) (h1 : Ek K Y v1 (es0.take k)) (h2 : Ek K Y v2 ns)
    (hc : v1 = ve ∧ k = es0.length ∨ ∀ j, v1.ownBlock = some j → w4.heap.size ≤ j) (hl : es0.length + ns.length ≤ 1000000000000) (hb : Up K W.heap.size) :
    ∃ aw nw cw w7, (∀ ty, (Builtin.append_ #[36, 36] ty #[v1, v2]).run Tryz.prog Y = .ok (.slice aw nw cw) w7) ∧ w7.cell? ⟨W.heap.size, 6, none⟩ = s7[6]? ∧ w7.frozen? ⟨W.heap.size, 6, none⟩ = false ∧
      Hid (Ab W.heap.size w7 s7 r9 z7 ∧ Ek K w7 (.slice aw nw cw) (es0.take k ++ ns) ∧ Ek K w7 ve es0 ∧ W.grownBy w7 ve.ownBlock) := by
  have hbY := hW4.trans (hY.mono hW4.size)
  have h0Y := h0.below hbY
  have hve : ∀ j, ve.ownBlock = some j → j < W.heap.size := by
    obtain ⟨us, _, ⟨o, _⟩, _⟩ := h0
    intro j hj
    rcases o.2 with ⟨rfl, _⟩ | ⟨g, c, cur, rfl, _, hg, _⟩
    · simp [Value.ownBlock] at hj
    · simp [Value.ownBlock] at hj
      subst hj
      exact lt_of_block hg
  obtain ⟨aw, nw, cw, w7, hap, hE, hO, hg⟩ := ktail_append h1 h2 h0Y (by rw [List.length_take]; omega) (hb.le hbY.size) (by
    rcases hc with ⟨e1, e2⟩ | hc
    · exact Or.inl ⟨e1, by rw [e2, List.take_length]⟩
    · exact Or.inr fun j hj hj' => by
        have h3 := hc j hj
        have h4 := hve j hj'
        have h5 := hW4.size
        omega)
  obtain ⟨us1, _, ⟨o1, _⟩, _⟩ := id h1
  have hBY := hB4.below hY
  have hB7 : Ab W.heap.size w7 s7 r9 z7 := ⟨(hg.block _ (lt_of_block hBY.s) (own_type_ne o1 hBY.s (by decide))).trans hBY.s, (hg.block _ (lt_of_block hBY.r) (own_type_ne o1 hBY.r (by decide))).trans hBY.r, (hg.block _ (lt_of_block hBY.z) (own_type_ne o1 hBY.z (by decide))).trans hBY.z⟩
  refine ⟨aw, nw, cw, w7, hap, hB7.cs 6, hB7.fs 6, hB7, hE, hO, ⟨hg.os.trans hbY.os, hg.tape.trans hbY.tape, hg.output.trans hbY.output, Nat.le_trans hbY.size hg.size, fun j hj hne => ?_⟩⟩
  rw [hg.block j (Nat.lt_of_lt_of_le hj hbY.size) (fun e => ?_)]
  · exact hbY.block j hj
  · rcases hc with ⟨e1, _⟩ | hc
    · rw [e1] at e
      exact hne e
    · have h3 := hc j e.symm
      have h5 := hW4.size
      omega


theorem Ek.keepT {K : Nat → Prop} {S T : Nat} {W W' : World} {v : Value} {es : List Ent} {cs : Array Value} (h : Ek K W v es) (hS : W.heap[S]? = some (Obj.cells cs T (0, 0))) (h1 : T ≠ 65) (h2 : T ≠ 5) (hg : W.grownBy W' (some S)) : Ek K W' v es := by
  obtain ⟨us, a1, a2, a3⟩ := h
  refine ⟨us, a1, ⟨own_keepT a2.1 hS h1 hg, a2.2⟩, fun j e hj => ?_⟩
  obtain ⟨u, a4, a5⟩ := a3 j e hj
  exact ⟨u, a4, own_keepT a5.1 hS h2 hg, a5.2⟩


set_option maxRecDepth 8000 in
set_option maxHeartbeats 8000000 in
theorem kafter_plain {K : Nat → Prop} {W : World} (s : St) (r : Rdy) (a4 a5 : Option Addr) (n4 c4 n5 c5 : Nat) (y6 y7 y8 : Value) (ae : Option Addr) (ne ce : Nat) (ar : Option Addr) (nr cr : Nat)
    (hE : Ek K W (.slice ae ne ce) s.ents) (hR : Es W (.slice ar nr cr) r.ents) (hsn : r.snap = none) (ho : r.ok) (hs : 0 ≤ s.snap.idx) (hl : s.ents.length + r.ents.length ≤ 1000000000000) (hd : ∀ e ∈ r.ents, e.data.length ≤ 140737488355328) (hb : Up K W.heap.size) :
    Calls Tryz.prog 54 #[.agg #[.int .i64 s.term, .int .i64 s.vote, .int .i64 s.snap.idx, .int .i64 s.snap.term, .slice a4 n4 c4, .slice a5 n5 c5, .slice ae ne ce], .agg #[.int .i64 r.term, .int .i64 r.vote, .bool r.saved, .int .i64 r.first, .slice ar nr cr, .pointer none, y6, y7, y8]] W fun x w' =>
      (s.after r = none ∧ x = .returned (.tuple #[.agg zero7, .bool false]) ∧ Hid (Ek K w' (.slice ae ne ce) s.ents ∧ Below W.heap.size W w')) ∨
      ∃ s' av nv cv, s.after r = some s' ∧ x = .returned (.tuple #[.agg #[.int .i64 s'.term, .int .i64 s'.vote, .int .i64 s.snap.idx, .int .i64 s.snap.term, .slice a4 n4 c4, .slice a5 n5 c5, .slice av nv cv], .bool true]) ∧ s'.snap = s.snap ∧ Hid (Ek K w' (.slice av nv cv) s'.ents ∧ Ek K w' (.slice ae ne ce) s.ents ∧ W.grownBy w' (Value.slice ae ne ce).ownBlock) := by
  obtain ⟨sv, hsv⟩ : ∃ sv, r.saved = sv := ⟨_, rfl⟩
  obtain ⟨t1, ht1⟩ : ∃ t1, (s.hard r).term = t1 := ⟨_, rfl⟩
  obtain ⟨v1, hv1⟩ : ∃ v1, (s.hard r).vote = v1 := ⟨_, rfl⟩
  rw [hsv]
  have HSV := hide hsv
  have HT1 := hide ht1
  have HV1 := hide hv1
  clear hsv ht1 hv1
  have HB0 : Hid (Ab W.heap.size (((W.alloc (.cells #[.int .i64 s.term, .int .i64 s.vote, .int .i64 s.snap.idx, .int .i64 s.snap.term, .slice a4 n4 c4, .slice a5 n5 c5, .slice ae ne ce] 78)).alloc (.cells #[.int .i64 r.term, .int .i64 r.vote, .bool sv, .int .i64 r.first, .slice ar nr cr, .pointer none, y6, y7, y8] 43)).alloc (.cells #[.int .i64 0, .int .i64 0, .int .i64 0, .int .i64 0, .slice none 0 0, .slice none 0 0, .slice none 0 0] 78)) #[.int .i64 s.term, .int .i64 s.vote, .int .i64 s.snap.idx, .int .i64 s.snap.term, .slice a4 n4 c4, .slice a5 n5 c5, .slice ae ne ce] #[.int .i64 r.term, .int .i64 r.vote, .bool sv, .int .i64 r.first, .slice ar nr cr, .pointer none, y6, y7, y8] #[.int .i64 0, .int .i64 0, .int .i64 0, .int .i64 0, .slice none 0 0, .slice none 0 0, .slice none 0 0]) := Ab.new W _ _
  have HW0 : Hid (Below W.heap.size W (((W.alloc (.cells #[.int .i64 s.term, .int .i64 s.vote, .int .i64 s.snap.idx, .int .i64 s.snap.term, .slice a4 n4 c4, .slice a5 n5 c5, .slice ae ne ce] 78)).alloc (.cells #[.int .i64 r.term, .int .i64 r.vote, .bool sv, .int .i64 r.first, .slice ar nr cr, .pointer none, y6, y7, y8] 43)).alloc (.cells #[.int .i64 0, .int .i64 0, .int .i64 0, .int .i64 0, .slice none 0 0, .slice none 0 0, .slice none 0 0] 78))) := (((Below.refl _ W).alloc (Nat.le_refl _) _).alloc (by simp) _).alloc (by simp; omega) _
  have HE := hide hE
  have HR := hide hR
  have HO := hide ho
  have HD := hide hd
  have HL := hide hl
  clear hE hR ho hd hl
  go_enter Tryz.func54, Tryz.ntmps54
  go_upto_if 7 with fail
  generalize (((W.alloc (.cells #[.int .i64 s.term, .int .i64 s.vote, .int .i64 s.snap.idx, .int .i64 s.snap.term, .slice a4 n4 c4, .slice a5 n5 c5, .slice ae ne ce] 78)).alloc (.cells #[.int .i64 r.term, .int .i64 r.vote, .bool sv, .int .i64 r.first, .slice ar nr cr, .pointer none, y6, y7, y8] 43)).alloc (.cells #[.int .i64 0, .int .i64 0, .int .i64 0, .int .i64 0, .slice none 0 0, .slice none 0 0, .slice none 0 0] 78)) = W0 at *
  have r0 : W0.cell? ⟨W.heap.size + 1, 0, none⟩ = some (.int .i64 r.term) := HB0.out.cr 0
  have r1 : W0.cell? ⟨W.heap.size + 1, 1, none⟩ = some (.int .i64 r.vote) := HB0.out.cr 1
  have s0 : W0.cell? ⟨W.heap.size, 0, none⟩ = some (.int .i64 s.term) := HB0.out.cs 0
  have s1 : W0.cell? ⟨W.heap.size, 1, none⟩ = some (.int .i64 s.vote) := HB0.out.cs 1
  have f0 := HB0.out.fs 0
  have f1 := HB0.out.fs 1
  go_cut [] from 8 to 10 (fun wc => Hid (Ab W.heap.size wc #[.int .i64 t1, .int .i64 v1, .int .i64 s.snap.idx, .int .i64 s.snap.term, .slice a4 n4 c4, .slice a5 n5 c5, .slice ae ne ce] #[.int .i64 r.term, .int .i64 r.vote, .bool sv, .int .i64 r.first, .slice ar nr cr, .pointer none, y6, y7, y8] #[.int .i64 0, .int .i64 0, .int .i64 0, .int .i64 0, .slice none 0 0, .slice none 0 0, .slice none 0 0] ∧ Below W.heap.size W wc))
  case first =>
    cases sv with
    | false =>
      have hh : s.hard r = s := by unfold St.hard; rw [HSV.out]; rfl
      have e1 : s.term = t1 := by rw [← HT1.out, hh]
      have e2 : s.vote = v1 := by rw [← HV1.out, hh]
      subst e1 e2
      go_wp2_with fail
      go_meet
      exact ⟨HB0.out, HW0.out⟩
    | true =>
      have hh : s.hard r = { s with term := r.term, vote := r.vote } := by unfold St.hard; rw [HSV.out]; rfl
      have e1 : r.term = t1 := by rw [← HT1.out, hh]
      have e2 : r.vote = v1 := by rw [← HV1.out, hh]
      have HB1 := hide ((HB0.out.setS 0 (.int .i64 r.term)).setS 1 (.int .i64 r.vote))
      have HW1 := hide ((HW0.out.setCell (p := ⟨W.heap.size, 0, none⟩) (Nat.le_refl _) (.int .i64 r.term)).setCell (p := ⟨W.heap.size, 1, none⟩) (Nat.le_refl _) (.int .i64 r.vote))
      subst e1 e2
      clear hh
      go_wp2_with fail
      go_meet
      exact ⟨HB1.out, HW1.out⟩
  case rest =>
    have HB2 := hide hcut.out.1
    have HW2 := hide hcut.out.2
    clear hcut HB0 HW0 r0 r1 s0 s1 f0 f1 HSV
    have r3 : wc.cell? ⟨W.heap.size + 1, 3, none⟩ = some (.int .i64 r.first) := HB2.out.cr 3
    have r4 : wc.cell? ⟨W.heap.size + 1, 4, none⟩ = some (.slice ar nr cr) := HB2.out.cr 4
    have r5 : wc.cell? ⟨W.heap.size + 1, 5, none⟩ = some (.pointer none) := HB2.out.cr 5
    have s0 : wc.cell? ⟨W.heap.size, 0, none⟩ = some (.int .i64 t1) := HB2.out.cs 0
    have s1 : wc.cell? ⟨W.heap.size, 1, none⟩ = some (.int .i64 v1) := HB2.out.cs 1
    have s2 : wc.cell? ⟨W.heap.size, 2, none⟩ = some (.int .i64 s.snap.idx) := HB2.out.cs 2
    have s3 : wc.cell? ⟨W.heap.size, 3, none⟩ = some (.int .i64 s.snap.term) := HB2.out.cs 3
    have s4 : wc.cell? ⟨W.heap.size, 4, none⟩ = some (.slice a4 n4 c4) := HB2.out.cs 4
    have s5 : wc.cell? ⟨W.heap.size, 5, none⟩ = some (.slice a5 n5 c5) := HB2.out.cs 5
    have s6 : wc.cell? ⟨W.heap.size, 6, none⟩ = some (.slice ae ne ce) := HB2.out.cs 6
    have z0 : wc.cell? ⟨W.heap.size + 1 + 1, 0, none⟩ = some ((.int .i64 0)) := HB2.out.cz 0
    have g0 : wc.frozen? ⟨W.heap.size + 1 + 1, 0, none⟩ = false := HB2.out.fz 0
    have z1 : wc.cell? ⟨W.heap.size + 1 + 1, 1, none⟩ = some ((.int .i64 0)) := HB2.out.cz 1
    have g1 : wc.frozen? ⟨W.heap.size + 1 + 1, 1, none⟩ = false := HB2.out.fz 1
    have z2 : wc.cell? ⟨W.heap.size + 1 + 1, 2, none⟩ = some ((.int .i64 0)) := HB2.out.cz 2
    have g2 : wc.frozen? ⟨W.heap.size + 1 + 1, 2, none⟩ = false := HB2.out.fz 2
    have z3 : wc.cell? ⟨W.heap.size + 1 + 1, 3, none⟩ = some ((.int .i64 0)) := HB2.out.cz 3
    have g3 : wc.frozen? ⟨W.heap.size + 1 + 1, 3, none⟩ = false := HB2.out.fz 3
    have z4 : wc.cell? ⟨W.heap.size + 1 + 1, 4, none⟩ = some ((.slice none 0 0)) := HB2.out.cz 4
    have g4 : wc.frozen? ⟨W.heap.size + 1 + 1, 4, none⟩ = false := HB2.out.fz 4
    have z5 : wc.cell? ⟨W.heap.size + 1 + 1, 5, none⟩ = some ((.slice none 0 0)) := HB2.out.cz 5
    have g5 : wc.frozen? ⟨W.heap.size + 1 + 1, 5, none⟩ = false := HB2.out.fz 5
    have z6 : wc.cell? ⟨W.heap.size + 1 + 1, 6, none⟩ = some ((.slice none 0 0)) := HB2.out.cz 6
    have g6 : wc.frozen? ⟨W.heap.size + 1 + 1, 6, none⟩ = false := HB2.out.fz 6
    by_cases hf : 0 < r.first
    · have hne := HE.out.len
      have hf2 := HO.out.2.2.1.2
      have HM := hide (mayGoOn_any s (.int .i64 t1) (.int .i64 v1) (.int .i64 s.snap.term) (.slice a4 n4 c4) (.slice a5 n5 c5) ae ce r.first r.ents (.slice ar nr cr) wc (HR.out.below HW2.out) (fun e he => (HO.out.2.2.2.1 e he).1) hs hf hf2 (by have := HL.out; omega))
      rw [← hne] at HM
      have HMay : Hid (∀ m, s.mayGoOn r.first r.ents = m → s.after r = if m = true then some { s.hard r with ents := s.ahead r.first ++ r.ents } else none) := fun m hm => by
        unfold St.after St.shot
        rw [hsn]
        show (s.hard r).put r = _
        unfold St.put
        rw [if_pos hf, hard_may, hm]
        unfold St.ahead
        rw [hard_ents]
        simp only [hard_snap]
      have HK : Hid (s.mayGoOn r.first r.ents = true → ∃ k : Nat, r.first - 1 - s.snap.idx = (k : Int) ∧ k ≤ s.ents.length ∧ s.ahead r.first = s.ents.take k) := fun hm => by
        unfold St.mayGoOn at hm
        simp only [Bool.and_eq_true, decide_eq_true_eq] at hm
        exact ⟨(r.first - 1 - s.snap.idx).toNat, by omega, by omega, rfl⟩
      obtain ⟨may, hmay⟩ : ∃ may, s.mayGoOn r.first r.ents = may := ⟨_, rfl⟩
      have HMa := hide (HMay.out may hmay)
      have HKa : Hid (may = true → ∃ k : Nat, r.first - 1 - s.snap.idx = (k : Int) ∧ k ≤ s.ents.length ∧ s.ahead r.first = s.ents.take k) := fun e => HK.out (hmay.trans e)
      rw [hmay] at HM
      clear HMay HK hmay hne
      go_wp2_with fail
      refine Calls.mono HM.out ?_
      rintro x w4 ⟨rfl, hb4⟩
      have HB4 := hide (HB2.out.below hb4)
      have HW4 := hide (HW2.out.trans (hb4.mono HW2.out.size))
      clear r3 r4 r5 s0 s1 s2 s3 s4 s5 s6 z0 z1 z2 z3 z4 z5 z6 g0 g1 g2 g3 g4 g5 g6 hb4 HM HB2 HW2
      have r3 : w4.cell? ⟨W.heap.size + 1, 3, none⟩ = some (.int .i64 r.first) := HB4.out.cr 3
      have r4 : w4.cell? ⟨W.heap.size + 1, 4, none⟩ = some (.slice ar nr cr) := HB4.out.cr 4
      have s0 : w4.cell? ⟨W.heap.size, 0, none⟩ = some (.int .i64 t1) := HB4.out.cs 0
      have s1 : w4.cell? ⟨W.heap.size, 1, none⟩ = some (.int .i64 v1) := HB4.out.cs 1
      have s2 : w4.cell? ⟨W.heap.size, 2, none⟩ = some (.int .i64 s.snap.idx) := HB4.out.cs 2
      have s3 : w4.cell? ⟨W.heap.size, 3, none⟩ = some (.int .i64 s.snap.term) := HB4.out.cs 3
      have s4 : w4.cell? ⟨W.heap.size, 4, none⟩ = some (.slice a4 n4 c4) := HB4.out.cs 4
      have s5 : w4.cell? ⟨W.heap.size, 5, none⟩ = some (.slice a5 n5 c5) := HB4.out.cs 5
      have s6 : w4.cell? ⟨W.heap.size, 6, none⟩ = some (.slice ae ne ce) := HB4.out.cs 6
      have z0 : w4.cell? ⟨W.heap.size + 1 + 1, 0, none⟩ = some ((.int .i64 0)) := HB4.out.cz 0
      have g0 : w4.frozen? ⟨W.heap.size + 1 + 1, 0, none⟩ = false := HB4.out.fz 0
      have z1 : w4.cell? ⟨W.heap.size + 1 + 1, 1, none⟩ = some ((.int .i64 0)) := HB4.out.cz 1
      have g1 : w4.frozen? ⟨W.heap.size + 1 + 1, 1, none⟩ = false := HB4.out.fz 1
      have z2 : w4.cell? ⟨W.heap.size + 1 + 1, 2, none⟩ = some ((.int .i64 0)) := HB4.out.cz 2
      have g2 : w4.frozen? ⟨W.heap.size + 1 + 1, 2, none⟩ = false := HB4.out.fz 2
      have z3 : w4.cell? ⟨W.heap.size + 1 + 1, 3, none⟩ = some ((.int .i64 0)) := HB4.out.cz 3
      have g3 : w4.frozen? ⟨W.heap.size + 1 + 1, 3, none⟩ = false := HB4.out.fz 3
      have z4 : w4.cell? ⟨W.heap.size + 1 + 1, 4, none⟩ = some ((.slice none 0 0)) := HB4.out.cz 4
      have g4 : w4.frozen? ⟨W.heap.size + 1 + 1, 4, none⟩ = false := HB4.out.fz 4
      have z5 : w4.cell? ⟨W.heap.size + 1 + 1, 5, none⟩ = some ((.slice none 0 0)) := HB4.out.cz 5
      have g5 : w4.frozen? ⟨W.heap.size + 1 + 1, 5, none⟩ = false := HB4.out.fz 5
      have z6 : w4.cell? ⟨W.heap.size + 1 + 1, 6, none⟩ = some ((.slice none 0 0)) := HB4.out.cz 6
      have g6 : w4.frozen? ⟨W.heap.size + 1 + 1, 6, none⟩ = false := HB4.out.fz 6
      cases may with
      | false =>
        have HN := hide (fill7 HB4.out.z (.int .i64 0) (.int .i64 0) (.int .i64 0) (.int .i64 0) (.slice none 0 0) (.slice none 0 0) (.slice none 0 0))
        go_wp2_with fail
        refine bodyPost_ret (ret_ct rfl _ _ (W.heap.size + 2) 78 zero7 rfl HN.out.1 Tryz.underlying78 sz78) rfl ?_
        have hbf := HW4.out.trans (HN.out.2 W.heap.size (by omega))
        exact Or.inl ⟨HMa.out, rfl, HE.out.below hbf, hbf⟩
      | true =>
        obtain ⟨k, hk1, hk2, hk3⟩ := HKa.out rfl
        have C90 : Hid (∀ X, Below w4.heap.size w4 X → Calls Tryz.prog 90 #[.agg #[.int .i64 t1, .int .i64 v1, .int .i64 s.snap.idx, .int .i64 s.snap.term, .slice a4 n4 c4, .slice a5 n5 c5, .slice ae ne ce], .int .i64 r.first] X fun x w' => ∃ av nv cv, x = .returned (.slice av nv cv) ∧ Hid (Below X.heap.size X w' ∧ Below w4.heap.size w4 w' ∧ Ek K w' (.slice av nv cv) (s.ents.take k) ∧ (Value.slice av nv cv = Value.slice ae ne ce ∧ k = s.ents.length ∨ ∀ j, (Value.slice av nv cv).ownBlock = some j → w4.heap.size ≤ j))) := fun X hX => by
          have hbX := HW4.out.trans (hX.mono HW4.out.size)
          refine (kahead_any (.int .i64 t1) (.int .i64 v1) (.int .i64 s.snap.term) (.slice a4 n4 c4) (.slice a5 n5 c5) s.snap.idx r.first (.slice ae ne ce) s.ents (HE.out.below hbX) k hk1 hk2 hs hf2 (by have := HL.out; omega) (hb.le hbX.size)).mono ?_
          rintro x w' ⟨v', rfl, hz⟩
          obtain ⟨us', _, ⟨o', _⟩, _⟩ := id hz.out.1
          obtain ⟨av, nv, cv, rfl⟩ := Dk.own_slice o'
          exact ⟨av, nv, cv, rfl, hz.out.2.1, hX.trans (hz.out.2.1.mono hX.size), hz.out.1, hz.out.2.2.imp id (fun h j hj => Nat.le_trans hX.size (h j hj))⟩
        have C44 : Hid (∀ X, Below w4.heap.size w4 X → Calls Tryz.prog 44 #[.slice ar nr cr] X fun x w' => ∃ an nn cn, x = .returned (.slice an nn cn) ∧ Hid (Below X.heap.size X w' ∧ Below w4.heap.size w4 w' ∧ Ek K w' (.slice an nn cn) r.ents)) := fun X hX => by
          have hbX := HW4.out.trans (hX.mono HW4.out.size)
          refine (copyEntries_any (.slice ar nr cr) r.ents X (HR.out.below hbX) (by have := HL.out; omega) HD.out).mono ?_
          rintro x w' ⟨v', rfl, hz⟩
          obtain ⟨us', _, o', _⟩ := id hz.out.1
          obtain ⟨an, nn, cn, rfl⟩ := Dk.own_slice o'
          exact ⟨an, nn, cn, rfl, hz.out.2, hX.trans (hz.out.2.mono hX.size), Ek.of hz.out.1 (hb.le hbX.size)⟩
        have hdr : Below w4.heap.size w4 w4.drew := (Below.refl _ w4).drew
        have HT : Hid (∀ Y av nv cv an nn cn, Below w4.heap.size w4 Y → Ek K Y (.slice av nv cv) (s.ents.take k) → Ek K Y (.slice an nn cn) r.ents → (Value.slice av nv cv = Value.slice ae ne ce ∧ k = s.ents.length ∨ ∀ j, (Value.slice av nv cv).ownBlock = some j → w4.heap.size ≤ j) → ∃ aw nw cw w7, (∀ ty, (Builtin.append_ #[36, 36] ty #[.slice av nv cv, .slice an nn cn]).run Tryz.prog Y = .ok (.slice aw nw cw) w7) ∧ w7.cell? ⟨W.heap.size, 6, none⟩ = some (.slice ae ne ce) ∧ w7.frozen? ⟨W.heap.size, 6, none⟩ = false ∧ Hid (Ab W.heap.size w7 #[.int .i64 t1, .int .i64 v1, .int .i64 s.snap.idx, .int .i64 s.snap.term, .slice a4 n4 c4, .slice a5 n5 c5, .slice ae ne ce] #[.int .i64 r.term, .int .i64 r.vote, .bool sv, .int .i64 r.first, .slice ar nr cr, .pointer none, y6, y7, y8] #[.int .i64 0, .int .i64 0, .int .i64 0, .int .i64 0, .slice none 0 0, .slice none 0 0, .slice none 0 0] ∧ Ek K w7 (.slice aw nw cw) (s.ents.take k ++ r.ents) ∧ Ek K w7 (.slice ae ne ce) s.ents ∧ W.grownBy w7 (Value.slice ae ne ce).ownBlock)) :=
          fun Y av nv cv an nn cn hY h1 h2 hc => kafter_tail HW4.out HB4.out hY HE.out h1 h2 hc HL.out hb
        clear z0 z1 z2 z3 z4 z5 z6 g0 g1 g2 g3 g4 g5 g6 hk1 hk2
        go_wp2_with fail
        refine wp_region_noPanic ?_
        go_region_law (first
            | (have m5 := HA5; go_simp; go_at_call 44; (with_reducible refine Calls.mono (C44.out _ m5.out.2.1) ?_); rintro e w6 ⟨an, nn, cn, rfl, H6⟩; have hpp := HT.out w6 _ _ _ _ _ _ H6.out.2.1 (m5.out.2.2.1.below H6.out.1) H6.out.2.2 m5.out.2.2.2; obtain ⟨aw, nw, cw, w7, hap, c7, f7, HF⟩ := hpp)
            | (have m5 := HC5; go_simp; go_at_call 90; (with_reducible refine Calls.mono (C90.out _ m5.out.2.1) ?_); rintro e w6 ⟨av, nv, cv, rfl, H6⟩; have hpp := HT.out w6 _ _ _ _ _ _ H6.out.2.1 H6.out.2.2.1 (m5.out.2.2.below H6.out.1) H6.out.2.2.2; obtain ⟨aw, nw, cw, w7, hap, c7, f7, HF⟩ := hpp)
            | (go_simp; go_at_call 90; (with_reducible refine Calls.mono (C90.out w4.drew hdr) ?_); rintro e w5 ⟨av, nv, cv, rfl, HA5⟩; have HB5 := hide (HB4.out.below HA5.out.2.1); have b4 : w5.cell? ⟨W.heap.size + 1, 4, none⟩ = some (.slice ar nr cr) := HB5.out.cr 4)
            | (go_simp; go_at_call 44; (with_reducible refine Calls.mono (C44.out w4.drew hdr) ?_); rintro e w5 ⟨an, nn, cn, rfl, HC5⟩; have HB5 := hide (HB4.out.below HC5.out.2.1); have b7 : w5.cell? ⟨W.heap.size + 1, 3, none⟩ = some (.int .i64 r.first) := HB5.out.cr 3; have b0 : w5.cell? ⟨W.heap.size, 0, none⟩ = some (.int .i64 t1) := HB5.out.cs 0; have b1 : w5.cell? ⟨W.heap.size, 1, none⟩ = some (.int .i64 v1) := HB5.out.cs 1; have b2 : w5.cell? ⟨W.heap.size, 2, none⟩ = some (.int .i64 s.snap.idx) := HB5.out.cs 2; have b3 : w5.cell? ⟨W.heap.size, 3, none⟩ = some (.int .i64 s.snap.term) := HB5.out.cs 3; have b4 : w5.cell? ⟨W.heap.size, 4, none⟩ = some (.slice a4 n4 c4) := HB5.out.cs 4; have b5 : w5.cell? ⟨W.heap.size, 5, none⟩ = some (.slice a5 n5 c5) := HB5.out.cs 5; have b6 : w5.cell? ⟨W.heap.size, 6, none⟩ = some (.slice ae ne ce) := HB5.out.cs 6)
            | (refine step_append_run (by rfl) (.tmp 57) (.tmp 60) 36 36 (by rfl) _ _ (by rfl) (by rfl) (hap _) ?_))
        all_goals refine NoPanic.normal ?_
        all_goals have HB8 := hide (HF.out.1.setS 6 (.slice aw nw cw))
        all_goals have HX8 : Hid (Ek K (w7.setCell ⟨W.heap.size, 6, none⟩ (.slice aw nw cw)) (.slice aw nw cw) (s.ents.take k ++ r.ents) ∧ Ek K (w7.setCell ⟨W.heap.size, 6, none⟩ (.slice aw nw cw)) (.slice ae ne ce) s.ents ∧ W.grownBy (w7.setCell ⟨W.heap.size, 6, none⟩ (.slice aw nw cw)) (Value.slice ae ne ce).ownBlock) := ⟨HF.out.2.1.keepT HF.out.1.s (by decide) (by decide) (grown_set (grown_refl _ _)), HF.out.2.2.1.keepT HF.out.1.s (by decide) (by decide) (grown_set (grown_refl _ _)), grown_off HF.out.2.2.2 (Nat.le_refl _) 6 _⟩
        all_goals clear hap c7 f7 HF
        all_goals generalize w7.setCell ⟨W.heap.size, 6, none⟩ (.slice aw nw cw) = W8 at *
        all_goals clear s0 s1 s2 s3 s4 s5 s6 r3 r4
        all_goals have s0 : W8.cell? ⟨W.heap.size, 0, none⟩ = some (.int .i64 t1) := HB8.out.cs 0
        all_goals have s1 : W8.cell? ⟨W.heap.size, 1, none⟩ = some (.int .i64 v1) := HB8.out.cs 1
        all_goals have s2 : W8.cell? ⟨W.heap.size, 2, none⟩ = some (.int .i64 s.snap.idx) := HB8.out.cs 2
        all_goals have s3 : W8.cell? ⟨W.heap.size, 3, none⟩ = some (.int .i64 s.snap.term) := HB8.out.cs 3
        all_goals have s4 : W8.cell? ⟨W.heap.size, 4, none⟩ = some (.slice a4 n4 c4) := HB8.out.cs 4
        all_goals have s5 : W8.cell? ⟨W.heap.size, 5, none⟩ = some (.slice a5 n5 c5) := HB8.out.cs 5
        all_goals have s6 : W8.cell? ⟨W.heap.size, 6, none⟩ = some (.slice aw nw cw) := HB8.out.cs 6
        all_goals have z0 : W8.cell? ⟨W.heap.size + 1 + 1, 0, none⟩ = some ((.int .i64 0)) := HB8.out.cz 0
        all_goals have g0 : W8.frozen? ⟨W.heap.size + 1 + 1, 0, none⟩ = false := HB8.out.fz 0
        all_goals have z1 : W8.cell? ⟨W.heap.size + 1 + 1, 1, none⟩ = some ((.int .i64 0)) := HB8.out.cz 1
        all_goals have g1 : W8.frozen? ⟨W.heap.size + 1 + 1, 1, none⟩ = false := HB8.out.fz 1
        all_goals have z2 : W8.cell? ⟨W.heap.size + 1 + 1, 2, none⟩ = some ((.int .i64 0)) := HB8.out.cz 2
        all_goals have g2 : W8.frozen? ⟨W.heap.size + 1 + 1, 2, none⟩ = false := HB8.out.fz 2
        all_goals have z3 : W8.cell? ⟨W.heap.size + 1 + 1, 3, none⟩ = some ((.int .i64 0)) := HB8.out.cz 3
        all_goals have g3 : W8.frozen? ⟨W.heap.size + 1 + 1, 3, none⟩ = false := HB8.out.fz 3
        all_goals have z4 : W8.cell? ⟨W.heap.size + 1 + 1, 4, none⟩ = some ((.slice none 0 0)) := HB8.out.cz 4
        all_goals have g4 : W8.frozen? ⟨W.heap.size + 1 + 1, 4, none⟩ = false := HB8.out.fz 4
        all_goals have z5 : W8.cell? ⟨W.heap.size + 1 + 1, 5, none⟩ = some ((.slice none 0 0)) := HB8.out.cz 5
        all_goals have g5 : W8.frozen? ⟨W.heap.size + 1 + 1, 5, none⟩ = false := HB8.out.fz 5
        all_goals have z6 : W8.cell? ⟨W.heap.size + 1 + 1, 6, none⟩ = some ((.slice none 0 0)) := HB8.out.cz 6
        all_goals have g6 : W8.frozen? ⟨W.heap.size + 1 + 1, 6, none⟩ = false := HB8.out.fz 6
        all_goals have HN := hide (fill7 HB8.out.z (.int .i64 t1) (.int .i64 v1) (.int .i64 s.snap.idx) (.int .i64 s.snap.term) (.slice a4 n4 c4) (.slice a5 n5 c5) (.slice aw nw cw))
        all_goals have HG := hide (fill7g HB8.out.z (.int .i64 t1) (.int .i64 v1) (.int .i64 s.snap.idx) (.int .i64 s.snap.term) (.slice a4 n4 c4) (.slice a5 n5 c5) (.slice aw nw cw))
        all_goals go_wp2_with fail
        all_goals refine bodyPost_ret (ret_ct rfl _ _ (W.heap.size + 2) 78 #[.int .i64 t1, .int .i64 v1, .int .i64 s.snap.idx, .int .i64 s.snap.term, .slice a4 n4 c4, .slice a5 n5 c5, .slice aw nw cw] rfl HN.out.1 Tryz.underlying78 sz78) rfl ?_
        all_goals refine Or.inr ⟨{ s.hard r with ents := s.ahead r.first ++ r.ents }, aw, nw, cw, HMa.out.trans (by first | exact if_pos trivial | exact if_pos rfl | simp), ?_, hard_snap s r, ?_⟩
        all_goals first
          | (show _ = Ending.returned (.tuple #[.agg #[.int .i64 (s.hard r).term, .int .i64 (s.hard r).vote, .int .i64 s.snap.idx, .int .i64 s.snap.term, .slice a4 n4 c4, .slice a5 n5 c5, .slice aw nw cw], .bool true]); rw [HT1.out, HV1.out]; rfl)
          | (rw [hk3]; exact ⟨HX8.out.1.keepT HB8.out.z (by decide) (by decide) HG.out, HX8.out.2.1.keepT HB8.out.z (by decide) (by decide) HG.out, grown_more HX8.out.2.2 HG.out (by omega)⟩)
    · have HA : Hid (s.after r = some (s.hard r)) := by
        show _ = _
        unfold St.after St.shot
        rw [hsn]
        simp [St.put, hf]
      have HN := hide (fill7 HB2.out.z (.int .i64 t1) (.int .i64 v1) (.int .i64 s.snap.idx) (.int .i64 s.snap.term) (.slice a4 n4 c4) (.slice a5 n5 c5) (.slice ae ne ce))
      go_wp2_with fail
      refine bodyPost_ret (ret_ct rfl _ _ (W.heap.size + 2) 78 #[.int .i64 t1, .int .i64 v1, .int .i64 s.snap.idx, .int .i64 s.snap.term, .slice a4 n4 c4, .slice a5 n5 c5, .slice ae ne ce] rfl HN.out.1 Tryz.underlying78 sz78) rfl ?_
      have hbf := HW2.out.trans (HN.out.2 W.heap.size (by omega))
      refine Or.inr ⟨s.hard r, HA.out, ae, ne, ce, ?_, hard_snap s r, ?_⟩
      · rw [HT1.out, HV1.out]
        rfl
      · rw [hard_ents s r]
        exact ⟨HE.out.below hbf, HE.out.below hbf, ⟨hbf.os, hbf.tape, hbf.output, hbf.size, fun k hk _ => hbf.block k hk⟩⟩

end Go.Proofs.YtjndgekpdmlbiaaGreatDoor.Kp
namespace Go.Proofs.YtjndgekpdmlbiaaGreatDoor.Kp
open Go.RowKit Bn

/-- A keep without a snapshot, its log and its disk, all of them in the blocks Q. -/
def KS (Q : Nat → Prop) (w : World) (kb p pd : Nat) (s : Dk.St) (H : Nat → Prop) (first : Int) (ds : List (List UInt8)) (N B M : Nat) (zm : Int) (σ : St) : Prop :=
  Wl.LX w p pd s H first ds ∧ Wl.Gk s first ds N B M ∧ (¬ H kb ∧ Q kb ∧ (∀ k, H k → Q k) ∧ ∀ k, Q k → k < w.heap.size) ∧ σ.snap = ⟨0, 0, [], []⟩ ∧ ∃ av nv cv z, KwB w kb p (.int .i64 σ.term) (.int .i64 σ.vote) (.int .i64 0) (.int .i64 0) (.slice none 0 0) (.slice none 0 0) (.slice av nv cv) z ∧ Ek (fun k => ¬ H k ∧ k ≠ kb ∧ Q k) w (.slice av nv cv) σ.ents ∧ (ds = [] → z ≤ 0) ∧ 0 ≤ z ∧ z ≤ zm
theorem KS.below {Q : Nat → Prop} {w w' : World} {kb p pd : Nat} {s : Dk.St} {H : Nat → Prop} {first : Int} {ds : List (List UInt8)} {N B M : Nat} {zm : Int} {σ : St} (h : KS Q w kb p pd s H first ds N B M zm σ) (hb : Below w.heap.size w w') : KS Q w' kb p pd s H first ds N B M zm σ := by
  obtain ⟨h1, h2, ⟨h3, h3a, h3b, h3c⟩, h4, av, nv, cv, z, h5, h6, h7⟩ := h
  exact ⟨h1.below hb, h2, ⟨h3, h3a, h3b, fun k hk => Nat.lt_of_lt_of_le (h3c k hk) hb.size⟩, h4, av, nv, cv, z, h5.below hb, h6.below hb, h7⟩
theorem KS.wideQ {Q Q' : Nat → Prop} {w : World} {kb p pd : Nat} {s : Dk.St} {H : Nat → Prop} {first : Int} {ds : List (List UInt8)} {N B M : Nat} {zm : Int} {σ : St} (h : KS Q w kb p pd s H first ds N B M zm σ) (hq : ∀ k, Q k → Q' k) (hl : ∀ k, Q' k → k < w.heap.size) : KS Q' w kb p pd s H first ds N B M zm σ := by
  obtain ⟨h1, h2, ⟨h3, h3a, h3b, h3c⟩, h4, av, nv, cv, z, h5, h6, h7⟩ := h
  exact ⟨h1, h2, ⟨h3, hq _ h3a, fun k hk => hq k (h3b k hk), hl⟩, h4, av, nv, cv, z, h5, h6.to (fun k _ hk => ⟨hk.1, hk.2.1, hq k hk.2.2⟩), h7⟩
/-- What do leaves. -/
def DnR (Q : Nat → Prop) (w : World) (kb p pd : Nat) (room : Int) (first : Int) (ds : List (List UInt8)) (r : Rdy) (N B : Nat) (zm : Int) (σ' : St) (w' : World) : Prop :=
  ∃ an s2 H2, (an = true → ds ≠ []) ∧ KS (fun k => Q k ∨ (w.heap.size ≤ k ∧ k < w'.heap.size)) w' kb p pd s2 H2 (wFirst an first ds) (wDs an ds (encR an (if an then σ'.whole else r))) (N + 1) (B + 32796) (B + 32797) zm σ' ∧ s2.room = room ∧ s2.wait = [] ∧ Dk.Fr Q w w'

theorem fr7 {W : World} {D : Nat} {cs : Array Value} (h : W.heap[D]? = some (Obj.cells cs 78 (0, 0))) (a b c d e f g : Value) : Dk.Fr (fun k => k = D) W (((((((W.setCell ⟨D, 0, none⟩ a).setCell ⟨D, 1, none⟩ b).setCell ⟨D, 2, none⟩ c).setCell ⟨D, 3, none⟩ d).setCell ⟨D, 4, none⟩ e).setCell ⟨D, 5, none⟩ f).setCell ⟨D, 6, none⟩ g) := by
  have hg := fill7g h a b c d e f g
  exact ⟨hg.os, hg.tape, hg.output, hg.size, fun k hk hne => hg.block k hk (fun e => hne (Option.some.inj e))⟩
theorem fr7k {W : World} {D : Nat} (a b c d e f g : Value) : Dk.Fr (fun k => k = D) W (((((((W.setCell ⟨D, 0, none⟩ a).setCell ⟨D, 1, none⟩ b).setCell ⟨D, 2, none⟩ c).setCell ⟨D, 3, none⟩ d).setCell ⟨D, 4, none⟩ e).setCell ⟨D, 5, none⟩ f).setCell ⟨D, 6, none⟩ g) :=
  fr_set (fr_set (fr_set (fr_set (fr_set (fr_set (fr_set (Dk.Fr.refl (fun k => k = D) W) (D := D) rfl) (D := D) rfl) (D := D) rfl) (D := D) rfl) (D := D) rfl) (D := D) rfl) (D := D) rfl

set_option maxHeartbeats 4000000 in
theorem do_any {Q : Nat → Prop} {w0 w : World} {kb p pd : Nat} {s : Dk.St} {H : Nat → Prop} {first : Int} {ds : List (List UInt8)} {N B M : Nat} {zm : Int} {σ σ' : St} (hK : KS Q w0 kb p pd s H first ds N B M zm σ) (hw : Below w0.heap.size w0 w) (hb0 : ¬ Q 0) (ht : Fr.Tab w)
    (h1f : ds ≠ [] → 1 ≤ first) (hlast : Wl.lastL first ds ≤ 4611686018427386000) (hN : N ≤ 800) (hB : B ≤ 400000) (hM : M ≤ 400000) (hroom : 2 * ((B : Int) + 33000) ≤ s.room) (hzm : zm ≤ 900000000000000)
    (rt rv rf : Int) (re : List Ent) (y6 y7 y8 : Value) (ae : Option Addr) (le ce : Nat) (hEs : ∀ W, Dk.Fr Q w W → Es W (.slice ae le ce) re) (ho : (⟨rt, rv, true, rf, re, none⟩ : Rdy).ok) (hrz : rsz ⟨rt, rv, true, rf, re, none⟩ ≤ 140737488355328) (hl : (encR false ⟨rt, rv, true, rf, re, none⟩).length ≤ 32767) (hd : ∀ e ∈ re, e.data.length ≤ 8192)
    (hs : σ.after ⟨rt, rv, true, rf, re, none⟩ = some σ') (hln : σ.ents.length + re.length ≤ 1000000000) (hflat : Flat σ') (hrz1 : rsz σ'.whole ≤ 140737488355328) (hl1 : (encR true σ'.whole).length ≤ 32767) (hwt : wtE σ'.ents ≤ 1000000000000000) :
    Calls Tryz.prog 35 #[.pointer (some ⟨kb, 0, none⟩), .agg #[.int .i64 rt, .int .i64 rv, .bool true, .int .i64 rf, .slice ae le ce, .pointer none, y6, y7, y8]] w fun e w' =>
      e = .returned (.int .i64 0) ∧ Hid (DnR Q w kb p pd s.room first ds ⟨rt, rv, true, rf, re, none⟩ N B (zm + 33000) σ' w') := by
  obtain ⟨hX0, hG, ⟨hk, hbk, hHb, hQl⟩, hsnap, av, nv, cv, z, hb, hE0, hz, hz0, hzm0⟩ := hK
  obtain ⟨σt, σv, σs, σe⟩ := σ
  obtain ⟨t1, v1, σs', es1⟩ := σ'
  have hsnap' : σs' = ⟨0, 0, [], []⟩ := hflat.snap
  dsimp only at hsnap hb hE0 hln hwt
  subst hsnap hsnap'
  have hlt0 := hX0.lt
  have hkl0 := hb.lt
  have hs0 := hw.size
  -- K: where the entries lie; G: what after may change
  obtain ⟨G, hGd⟩ : ∃ G : Nat → Prop, G = fun k => Q k ∧ ¬ H k ∧ k ≠ kb := ⟨_, rfl⟩
  obtain ⟨K, hKd⟩ : ∃ K : Nat → Prop, K = fun k => ¬ H k ∧ k ≠ kb ∧ (Q k ∨ w.heap.size ≤ k) := ⟨_, rfl⟩
  have hKu : ∀ W : World, w.heap.size ≤ W.heap.size → Up K W.heap.size := fun W hW k hk2 => by
    rw [hKd]
    exact ⟨fun hh => by have := hlt0 k hh; omega, by omega, Or.inr (by omega)⟩
  have hEw : Ek K w (.slice av nv cv) σe := (hE0.to (K' := K) (fun k hk1 hk2 => by rw [hKd]; exact ⟨hk2.1, hk2.2.1, Or.inl hk2.2.2⟩)).below hw
  have hGn : ∀ k, w0.heap.size ≤ k → ¬ G k := fun k hk2 hg => by rw [hGd] at hg; have := hQl k hg.1; omega
  have HAF : Hid (∀ W, Below w.heap.size w W → Calls Tryz.prog 54 #[.agg #[.int .i64 σt, .int .i64 σv, .int .i64 0, .int .i64 0, .slice none 0 0, .slice none 0 0, .slice av nv cv], .agg #[.int .i64 rt, .int .i64 rv, .bool true, .int .i64 rf, .slice ae le ce, .pointer none, y6, y7, y8]] W fun x w' =>
      ∃ a2 n2 c2, x = .returned (.tuple #[.agg #[.int .i64 t1, .int .i64 v1, .int .i64 0, .int .i64 0, .slice none 0 0, .slice none 0 0, .slice a2 n2 c2], .bool true]) ∧ Hid (Ek K w' (.slice a2 n2 c2) es1 ∧ Dk.Fr G W w')) := fun W hW => by
    refine (kafter_plain (K := K) ⟨σt, σv, ⟨0, 0, [], []⟩, σe⟩ ⟨rt, rv, true, rf, re, none⟩ none none 0 0 0 0 y6 y7 y8 av nv cv ae le ce (hEw.below hW) (hEs W (Dk.Fr.of_below hW)) rfl ho (Int.le_refl _) (by show σe.length + re.length ≤ _; omega) (fun e he => by have := hd e he; omega) (hKu W hW.size)).mono ?_
    rintro x w' (⟨h1, _⟩ | ⟨s2, a2, n2, c2, h1, rfl, h2, HP⟩)
    · rw [hs] at h1; cases h1
    · rw [hs] at h1
      cases h1
      obtain ⟨e1, _, e3⟩ := HP.out
      refine ⟨a2, n2, c2, rfl, e1, ⟨e3.os, e3.tape, e3.output, e3.size, fun k hk hF => e3.block k hk (fun e => hF ?_)⟩⟩
      obtain ⟨us, _, o, _⟩ := hEw
      have h3 := o.2 k e.symm
      have h4 := (o.1.lt k e.symm).2
      rw [hKd] at h3
      rw [hGd]
      exact ⟨by rcases h3.2.2 with h5 | h5
                exact h5
                omega, h3.1, h3.2.1⟩
  have hlong : (⟨rt, rv, true, rf, re, none⟩ : Rdy).long = false := by
    rw [long_is]
    simp only [longS, Bool.or_false, List.any_eq_false, longE, decide_eq_true_eq]
    intro e he
    have := hd e he
    omega
  have HTL : Hid (∀ W, Dk.Fr G w W → Calls Tryz.prog 55 #[.agg #[.int .i64 rt, .int .i64 rv, .bool true, .int .i64 rf, .slice ae le ce, .pointer none, y6, y7, y8]] W fun x w' => x = .returned (.bool false) ∧ Below W.heap.size W w') := fun W hW => by
    have h1 := tooLong_any ⟨rt, rv, true, rf, re, none⟩ y6 y7 y8 none (.slice ae le ce) W (hEs W (hW.mono (fun k _ hg => by rw [hGd] at hg; exact hg.1))) rfl
    rw [hlong] at h1
    exact h1
  have HKB : Hid (KwB w kb p (.int .i64 σt) (.int .i64 σv) (.int .i64 0) (.int .i64 0) (.slice none 0 0) (.slice none 0 0) (.slice av nv cv) z) := hb.below hw
  have HWR : Hid (∀ W a2 n2 c2, Dk.Fr G w W → Ek K W (.slice a2 n2 c2) es1 → Calls Tryz.prog 56 #[.pointer (some ⟨kb, 0, none⟩), .agg #[.int .i64 rt, .int .i64 rv, .bool true, .int .i64 rf, .slice ae le ce, .pointer none, y6, y7, y8], .agg #[.int .i64 t1, .int .i64 v1, .int .i64 0, .int .i64 0, .slice none 0 0, .slice none 0 0, .slice a2 n2 c2]] W fun e w' => e = .returned (.int .i64 0) ∧ Hid (∃ an, (an = true → ds ≠ []) ∧ WnR (zm + 33000) W kb p pd H first ds s.room an (encR an (if an then St.whole ⟨t1, v1, ⟨0, 0, [], []⟩, es1⟩ else ⟨rt, rv, true, rf, re, none⟩)) N B M (.int .i64 σt) (.int .i64 σv) (.int .i64 0) (.int .i64 0) (.slice none 0 0) (.slice none 0 0) (.slice av nv cv) w')) := fun W a2 n2 c2 hW hEk => by
    refine write_any ((hX0.below hw).kept hW (fun k hk2 hg => by rw [hGd] at hg; exact hg.2.1 hk2)) hG h1f hlast hN hB hM hroom (Tab_fr ht hW (fun hg => by rw [hGd] at hg; exact hb0 hg.1)) (fun hh => hb0 (hHb 0 hh)) (HKB.out.fr hW (fun hg => by rw [hGd] at hg; exact hg.2.2 rfl)) hk hz rt rv rf re y6 y7 y8 ae le ce (hEs W (hW.mono (fun k _ hg => by rw [hGd] at hg; exact hg.1))) ho hrz hl t1 v1 es1 a2 n2 c2 hEk.es hflat.whole_ok hrz1 hl1 hwt (zm + 33000) (by omega)
  have HFIN : Hid (∀ w4 w5 w6 a2 n2 c2 an s5 H5 z5, Dk.Fr G w w4 → Ek K w4 (.slice a2 n2 c2) es1 → (an = true → ds ≠ []) → Wl.LX w6 p pd ⟨s5.room, s5.now, []⟩ (Dk.ext H5 w5 w6) (wFirst an first ds) (wDs an ds (encR an (if an then St.whole ⟨t1, v1, ⟨0, 0, [], []⟩, es1⟩ else ⟨rt, rv, true, rf, re, none⟩))) → Wl.Gk s5 (wFirst an first ds) (wDs an ds (encR an (if an then St.whole ⟨t1, v1, ⟨0, 0, [], []⟩, es1⟩ else ⟨rt, rv, true, rf, re, none⟩))) (N + 1) (B + 32796) (M + B + 100000) → s5.room = s.room → (∀ k, H5 k → H k ∨ w4.heap.size ≤ k) → Dk.Fr (fun k => H k ∨ k = kb) w4 w5 → Dk.Fr H5 w5 w6 → KwB w6 kb p (.int .i64 σt) (.int .i64 σv) (.int .i64 0) (.int .i64 0) (.slice none 0 0) (.slice none 0 0) (.slice av nv cv) z5 → (0 ≤ z5 ∧ z5 ≤ zm + 33000) →
      DnR Q w kb p pd s.room first ds ⟨rt, rv, true, rf, re, none⟩ N B (zm + 33000) ⟨t1, v1, ⟨0, 0, [], []⟩, es1⟩ (((((((w6.setCell ⟨kb, 0, none⟩ (.int .i64 t1)).setCell ⟨kb, 1, none⟩ (.int .i64 v1)).setCell ⟨kb, 2, none⟩ (.int .i64 0)).setCell ⟨kb, 3, none⟩ (.int .i64 0)).setCell ⟨kb, 4, none⟩ (.slice none 0 0)).setCell ⟨kb, 5, none⟩ (.slice none 0 0)).setCell ⟨kb, 6, none⟩ (.slice a2 n2 c2))) := by
    intro w4 w5 w6 a2 n2 c2 an s5 H5 z5 f4 hE4 han hX6 hG5 hr5 hH5 f5 f6 hK6 hz5
    have q4 := f4.size
    have q5 := f5.size
    have q6 := f6.size
    have f7 := fr7k (W := w6) (D := kb) (.int .i64 t1) (.int .i64 v1) (.int .i64 0) (.int .i64 0) (.slice none 0 0) (.slice none 0 0) (.slice a2 n2 c2)
    have hK7 := hK6.now (.int .i64 t1) (.int .i64 v1) (.int .i64 0) (.int .i64 0) (.slice none 0 0) (.slice none 0 0) (.slice a2 n2 c2)
    generalize (((((((w6.setCell ⟨kb, 0, none⟩ (.int .i64 t1)).setCell ⟨kb, 1, none⟩ (.int .i64 v1)).setCell ⟨kb, 2, none⟩ (.int .i64 0)).setCell ⟨kb, 3, none⟩ (.int .i64 0)).setCell ⟨kb, 4, none⟩ (.slice none 0 0)).setCell ⟨kb, 5, none⟩ (.slice none 0 0)).setCell ⟨kb, 6, none⟩ (.slice a2 n2 c2)) = W7 at *
    have q7 := f7.size
    have hx : ¬ Dk.ext H5 w5 w6 kb := fun hh => by
      rcases hh with hh | hh
      · rcases hH5 kb hh with h1 | h1
        · exact hk h1
        · omega
      · omega
    have hE4' := hE4.to (K' := fun k => K k ∧ k < w4.heap.size) (fun k h1 h2 => ⟨h2, h1⟩)
    have hE5 := hE4'.fr f5 (fun k h1 h2 => by
      rw [hKd] at h1
      rcases h2 with h2 | h2
      · exact h1.1.1 h2
      · exact h1.1.2.1 h2)
    have hE5' := hE5.to (K' := fun k => ¬ H5 k ∧ k < w5.heap.size ∧ k ≠ kb ∧ (Q k ∨ (w.heap.size ≤ k ∧ k < w5.heap.size))) (fun k h1 h2 => by
      rw [hKd] at h2
      refine ⟨fun hh => ?_, h1, h2.1.2.1, h2.1.2.2.imp id (fun h => ⟨h, h1⟩)⟩
      rcases hH5 k hh with h3 | h3
      · exact h2.1.1 h3
      · have := h2.2; omega)
    have hE6 := hE5'.fr f6 (fun k h1 h2 => h1.1 h2)
    have hE6' := hE6.to (K' := fun k => ¬ Dk.ext H5 w5 w6 k ∧ k ≠ kb ∧ (Q k ∨ (w.heap.size ≤ k ∧ k < w6.heap.size))) (fun k h1 h2 => ⟨fun hh => by
      rcases hh with hh | hh
      · exact h2.1 hh
      · have := h2.2.1; omega, h2.2.2.1, h2.2.2.2.imp id (fun h => ⟨h.1, by omega⟩)⟩)
    have hE7 := (hE6'.fr f7 (fun k h1 h2 => h1.2.1 h2)).to (K' := fun k => ¬ Dk.ext H5 w5 w6 k ∧ k ≠ kb ∧ (Q k ∨ (w.heap.size ≤ k ∧ k < W7.heap.size))) (fun k h1 h2 => ⟨h2.1, h2.2.1, h2.2.2.imp id (fun h => ⟨h.1, h1⟩)⟩)
    refine ⟨an, _, _, han, ⟨hX6.kept f7 (fun k h1 h2 => hx (by rw [← h2]; exact h1)), hG5.sync, ⟨hx, Or.inl hbk, fun k hh => ?_, fun k hh => ?_⟩, rfl, a2, n2, c2, z5, hK7, hE7, fun e => ?_, hz5⟩, hr5, rfl, ?_⟩
    · have hl6 := hX6.lt k hh
      rcases hh with hh | hh
      · rcases hH5 k hh with h1 | h1
        · exact Or.inl (hHb k h1)
        · exact Or.inr ⟨by omega, Nat.lt_of_lt_of_le hl6 f7.size⟩
      · exact Or.inr ⟨by omega, Nat.lt_of_lt_of_le hl6 f7.size⟩
    · rcases hh with hh | hh
      · have := hQl k hh; omega
      · exact hh.2
    · exfalso
      unfold wDs at e
      split at e <;> simp at e
    · refine (((f4.mono (fun k _ hg => ?_)).trans f5 (fun k _ hh => ?_)).trans f6 (fun k _ hh => ?_)).trans f7 (fun k _ hh => ?_)
      · rw [hGd] at hg; exact hg.1
      · rcases hh with hh | hh
        · exact hHb k hh
        · rw [hh]; exact hbk
      · rcases hH5 k hh with h1 | h1
        · exact hHb k h1
        · omega
      · rw [hh]; exact hbk
  have HMS : Hid (∀ s5 f5 d5, Wl.Gk s5 f5 d5 (N + 1) (B + 32796) (M + B + 100000) → s5.mass ≤ 1000000) := fun s5 f5 d5 h5 => by have := h5.mass; omega
  have hk9 := HKB.out.lt
  have HB1 : Hid (Below w.heap.size w (w.alloc (.cells #[.int .i64 rt, .int .i64 rv, .bool true, .int .i64 rf, .slice ae le ce, .pointer none, y6, y7, y8] 43))) := (Below.refl _ w).alloc (Nat.le_refl _) _
  have HB9 : Hid ((w.alloc (.cells #[.int .i64 rt, .int .i64 rv, .bool true, .int .i64 rf, .slice ae le ce, .pointer none, y6, y7, y8] 43)).heap[w.heap.size]? = some (.cells #[.int .i64 rt, .int .i64 rv, .bool true, .int .i64 rf, .slice ae le ce, .pointer none, y6, y7, y8] 43 (0, 0))) := heap_alloc_new _ _
  have HS1 : Hid ((w.alloc (.cells #[.int .i64 rt, .int .i64 rv, .bool true, .int .i64 rf, .slice ae le ce, .pointer none, y6, y7, y8] 43)).heap.size = w.heap.size + 1) := by show _ = _; simp
  have HGK : Hid (¬ G kb) := fun hg => by rw [hGd] at hg; exact hg.2.2 rfl
  have HHL : Hid (∀ k, H k → k < w.heap.size) := fun k h1 => by have := hlt0 k h1; omega
  have HNK : Hid (¬ H kb) := hk
  have HGN : Hid (∀ k, w.heap.size ≤ k → ¬ G k) := fun k h1 => hGn k (by omega)
  clear hX0 hG hHb hb hE0 hz hz0 hzm0 ht h1f hlast hN hB hM hroom hzm hEs ho hrz hl hd hs hln hflat hrz1 hl1 hwt hlt0 hkl0 hs0 hKu hEw hGn hlong hw hb0 hk hbk hGd hKd hQl
  go_enter Tryz.func35, Tryz.ntmps35
  go_upto_region 1 with fail
  generalize w.alloc (.cells #[.int .i64 rt, .int .i64 rv, .bool true, .int .i64 rf, .slice ae le ce, .pointer none, y6, y7, y8] 43) = w1 at *
  obtain ⟨k0, k1, k2, k3, k4, k5, k6, k7, k8⟩ := nine (HKB.out.below HB1.out)
  obtain ⟨rr0, rr1, rr2, rr3, rr4, rr5, rr6, rr7, rr8⟩ := nine HB9.out
  have ka0 := cell_alloc k0
  have ka1 := cell_alloc k1
  have ka2 := cell_alloc k2
  have ka3 := cell_alloc k3
  have ka4 := cell_alloc k4
  have ka5 := cell_alloc k5
  have ka6 := cell_alloc k6
  have ka7 := cell_alloc k7
  have ka8 := cell_alloc k8
  have ra0 := cell_alloc rr0
  have ra1 := cell_alloc rr1
  have ra2 := cell_alloc rr2
  have ra3 := cell_alloc rr3
  have ra4 := cell_alloc rr4
  have ra5 := cell_alloc rr5
  have ra6 := cell_alloc rr6
  have ra7 := cell_alloc rr7
  have ra8 := cell_alloc rr8
  have X1 : Below w.heap.size w w1.drew := HB1.out.drew
  have X2 : Below w.heap.size w (w1.alloc (.cells #[.int .i64 0, .int .i64 0, .int .i64 0, .int .i64 0, .slice none 0 0, .slice none 0 0, .slice none 0 0] 78)).drew := (HB1.out.alloc HB1.out.size _).drew
  have Y9 : (w1.alloc (.cells #[.int .i64 0, .int .i64 0, .int .i64 0, .int .i64 0, .slice none 0 0, .slice none 0 0, .slice none 0 0] 78)).drew.heap[w.heap.size]? = some (.cells #[.int .i64 rt, .int .i64 rv, .bool true, .int .i64 rf, .slice ae le ce, .pointer none, y6, y7, y8] 43 (0, 0)) := (((Below.refl w1.heap.size w1).alloc (Nat.le_refl _) (.cells #[.int .i64 0, .int .i64 0, .int .i64 0, .int .i64 0, .slice none 0 0, .slice none 0 0, .slice none 0 0] 78)).block w.heap.size (by have h2 := HS1.out; omega)).trans HB9.out
  have Y7 : (w1.alloc (.cells #[.int .i64 0, .int .i64 0, .int .i64 0, .int .i64 0, .slice none 0 0, .slice none 0 0, .slice none 0 0] 78)).drew.heap[w1.heap.size]? = some (.cells #[.int .i64 0, .int .i64 0, .int .i64 0, .int .i64 0, .slice none 0 0, .slice none 0 0, .slice none 0 0] 78 (0, 0)) := heap_alloc_new w1 (.cells #[.int .i64 0, .int .i64 0, .int .i64 0, .int .i64 0, .slice none 0 0, .slice none 0 0, .slice none 0 0] 78)
  have HY9 := hide Y9
  have HY7 := hide Y7
  clear Y9 Y7
  go_cut [5, 6] from 8 to 16 (fun v5 v6 wc => ∃ q a2 n2 c2, v5 = .pointer (some ⟨q, 0, none⟩) ∧ v6 = .bool true ∧ Hid (Dk.Fr G w wc ∧ wc.heap[w.heap.size]? = some (.cells #[.int .i64 rt, .int .i64 rv, .bool true, .int .i64 rf, .slice ae le ce, .pointer none, y6, y7, y8] 43 (0, 0)) ∧ wc.heap[q]? = some (.cells #[.int .i64 t1, .int .i64 v1, .int .i64 0, .int .i64 0, .slice none 0 0, .slice none 0 0, .slice a2 n2 c2] 78 (0, 0)) ∧ w.heap.size ≤ q ∧ Ek K wc (.slice a2 n2 c2) es1))
  case first =>
    refine wp_region_noPanic ?_
    go_region_with (first
      | (go_at_call 54; (with_reducible refine Calls.mono (HAF.out w1.drew X1) ?_); rintro x w2 ⟨a2, n2, c2, rfl, HP2⟩)
      | (go_at_call 54; (with_reducible refine Calls.mono (HAF.out (w1.alloc (.cells #[.int .i64 0, .int .i64 0, .int .i64 0, .int .i64 0, .slice none 0 0, .slice none 0 0, .slice none 0 0] 78)).drew X2) ?_); rintro x w2 ⟨a2, n2, c2, rfl, HP2⟩; have hz : w2.heap[w1.heap.size]? = some (.cells #[.int .i64 0, .int .i64 0, .int .i64 0, .int .i64 0, .slice none 0 0, .slice none 0 0, .slice none 0 0] 78 (0, 0)) := (HP2.out.2.block w1.heap.size (lt_of_block HY7.out) (HGN.out _ HB1.out.size)).trans HY7.out; have z0 := (seven hz).1; have z1 := (seven hz).2.1; have z2 := (seven hz).2.2.1; have z3 := (seven hz).2.2.2.1; have z4 := (seven hz).2.2.2.2.1; have z5 := (seven hz).2.2.2.2.2.1; have z6 := (seven hz).2.2.2.2.2.2; have zz := fun i => frozen_of_row w2 w1.heap.size i _ _ hz))
    all_goals
      refine NoPanic.normal ?_
      go_wp2_with fail
      go_meet
      first
        | (have hz' := hz
           have hN := fill7 hz' (.int .i64 t1) (.int .i64 v1) (.int .i64 0) (.int .i64 0) (.slice none 0 0) (.slice none 0 0) (.slice a2 n2 c2)
           have hg := fr7 hz' (.int .i64 t1) (.int .i64 v1) (.int .i64 0) (.int .i64 0) (.slice none 0 0) (.slice none 0 0) (.slice a2 n2 c2)
           have hq := HB1.out.size
           have hf2 : Dk.Fr G w w2 := (Dk.Fr.of_below (F := G) X2).trans HP2.out.2 (fun _ _ h => h)
           refine ⟨w1.heap.size, a2, n2, c2, rfl, rfl, ?_⟩
           exact ⟨hf2.trans hg (fun k h1 h2 => by omega), (hg.block _ (lt_of_block ((HP2.out.2.block w.heap.size (lt_of_block HY9.out) (HGN.out _ (Nat.le_refl _))).trans HY9.out)) (fun e => by have := HS1.out; omega)).trans ((HP2.out.2.block w.heap.size (lt_of_block HY9.out) (HGN.out _ (Nat.le_refl _))).trans HY9.out), hN.1, hq, HP2.out.1.keepT hz' (by decide) (by decide) (fill7g hz' _ _ _ _ _ _ _)⟩)
        | (have hf2 : Dk.Fr G w w2 := (Dk.Fr.of_below (F := G) X1).trans HP2.out.2 (fun _ _ h => h)
           have ha : Below w2.heap.size w2 (w2.alloc (.cells #[.int .i64 t1, .int .i64 v1, .int .i64 0, .int .i64 0, .slice none 0 0, .slice none 0 0, .slice a2 n2 c2] 78)) := (Below.refl _ w2).alloc (Nat.le_refl _) _
           have h9 : w2.heap[w.heap.size]? = some (.cells #[.int .i64 rt, .int .i64 rv, .bool true, .int .i64 rf, .slice ae le ce, .pointer none, y6, y7, y8] 43 (0, 0)) := (HP2.out.2.block w.heap.size (lt_of_block HB9.out) (HGN.out _ (Nat.le_refl _))).trans HB9.out
           exact ⟨w2.heap.size, a2, n2, c2, rfl, rfl, hf2.trans (Dk.Fr.of_below (F := G) ha) (fun _ _ h => h), (ha.block _ (lt_of_block h9)).trans h9, heap_alloc_new _ _, hf2.size, HP2.out.1.below ha⟩)
  case rest =>
    obtain ⟨q, a2, n2, c2, rfl, rfl, HQ⟩ := hcut
    clear k0 k1 k2 k3 k4 k5 k6 k7 k8 rr0 rr1 rr2 rr3 rr4 rr5 rr6 rr7 rr8 ka0 ka1 ka2 ka3 ka4 ka5 ka6 ka7 ka8 ra0 ra1 ra2 ra3 ra4 ra5 ra6 ra7 ra8 X1 X2 HY9 HY7 HAF
    obtain ⟨m0, m1, m2, m3, m4, m5, m6, m7, m8⟩ := nine HQ.out.2.1
    have HTL2 := hide (HTL.out wc HQ.out.1)
    clear HTL
    go_wp2_with fail
    refine Calls.mono HTL2.out ?_
    rintro x w4 ⟨rfl, hb4⟩
    have HF4 : Hid (Dk.Fr G w w4) := HQ.out.1.trans (Dk.Fr.of_below (F := G) hb4) (fun _ _ h => h)
    have H94 := hide ((hb4.block w.heap.size (lt_of_block HQ.out.2.1)).trans HQ.out.2.1)
    have H74 := hide ((hb4.block q (lt_of_block HQ.out.2.2.1)).trans HQ.out.2.2.1)
    have HE4 := hide (HQ.out.2.2.2.2.below hb4)
    have HQG := hide HQ.out.2.2.2.1
    obtain ⟨p0, p1, p2, p3, p4, p5, p6, p7, p8⟩ := nine H94.out
    obtain ⟨o0, o1, o2, o3, o4, o5, o6⟩ := seven H74.out
    have HW4 := hide (HWR.out w4 a2 n2 c2 HF4.out HE4.out)
    have HK4 := hide (HKB.out.fr HF4.out HGK.out)
    clear hb4 HTL2 m0 m1 m2 m3 m4 m5 m6 m7 m8 HWR HQ
    go_wp2_with fail
    refine Calls.mono HW4.out ?_
    rintro x w5 ⟨rfl, HR5⟩
    obtain ⟨an, han, s5, H5, z5, hX5, hG5, hr5, hH5, hF5, hK5, hz5⟩ := HR5.out
    have hkb4 := HK4.out.lt
    have H75 := hide ((hF5.block q (lt_of_block H74.out) (fun hh => by
      rcases hh with h1 | h1
      · have := HHL.out q h1; have := HQG.out; omega
      · have := HQG.out; omega)).trans H74.out)
    have c57 := hK5.c 7
    simp at c57
    have HSY : Hid (Calls Tryz.prog 57 #[.pointer (some ⟨p, 0, none⟩)] w5 fun e w6 => e = .returned (.tuple #[]) ∧ w6.heap[q]? = some (.cells #[.int .i64 t1, .int .i64 v1, .int .i64 0, .int .i64 0, .slice none 0 0, .slice none 0 0, .slice a2 n2 c2] 78 (0, 0)) ∧ KwB w6 kb p (.int .i64 σt) (.int .i64 σv) (.int .i64 0) (.int .i64 0) (.slice none 0 0) (.slice none 0 0) (.slice av nv cv) z5 ∧ Hid (DnR Q w kb p pd s.room first ds ⟨rt, rv, true, rf, re, none⟩ N B (zm + 33000) ⟨t1, v1, ⟨0, 0, [], []⟩, es1⟩ (((((((w6.setCell ⟨kb, 0, none⟩ (.int .i64 t1)).setCell ⟨kb, 1, none⟩ (.int .i64 v1)).setCell ⟨kb, 2, none⟩ (.int .i64 0)).setCell ⟨kb, 3, none⟩ (.int .i64 0)).setCell ⟨kb, 4, none⟩ (.slice none 0 0)).setCell ⟨kb, 5, none⟩ (.slice none 0 0)).setCell ⟨kb, 6, none⟩ (.slice a2 n2 c2)))) := by
      refine (hX5.sync (HMS.out _ _ _ hG5)).mono ?_
      rintro e w6 ⟨rfl, HP⟩
      obtain ⟨hX6, hF6⟩ := HP.out
      have hnq : ¬ H5 q := fun hh => by
        rcases hH5 q hh with h1 | h1
        · have := HHL.out q h1; have := HQG.out; omega
        · have := lt_of_block H74.out; omega
      have hnk : ¬ H5 kb := fun hh => by
        rcases hH5 kb hh with h1 | h1
        · exact HNK.out h1
        · omega
      exact ⟨rfl, (hF6.block q (lt_of_block H75.out) hnq).trans H75.out, hK5.fr hF6 hnk, HFIN.out w4 w5 w6 a2 n2 c2 an s5 H5 z5 HF4.out HE4.out han hX6 hG5 hr5 hH5 hF5 hF6 (hK5.fr hF6 hnk) hz5⟩
    clear HR5 hX5 hG5 hr5 hH5 hF5 hK5 hz5 han H75 HW4 H74 H94 HF4 HE4 HK4 p0 p1 p2 p3 p4 p5 p6 p7 p8 o0 o1 o2 o3 o4 o5 o6 HQG HFIN HMS
    go_wp2_with fail
    refine Calls.mono HSY.out ?_
    rintro x w6 ⟨rfl, h76, hK6, HD6⟩
    obtain ⟨o0, o1, o2, o3, o4, o5, o6⟩ := seven h76
    obtain ⟨k0, k1, k2, k3, k4, k5, k6, -, -⟩ := nine hK6
    have ff := hK6.f
    clear HSY h76 hK6
    go_wp2_with fail
    go_ret
    exact ⟨rfl, HD6⟩
end Go.Proofs.YtjndgekpdmlbiaaGreatDoor.Kp
namespace Go.Proofs.YtjndgekpdmlbiaaGreatDoor.Kp
open Go.RowKit Bn

set_option maxHeartbeats 2000000 in
theorem save_first {w : World} {kb p pd : Nat} {s : Dk.St} {H : Nat → Prop} (h : Wl.LX w p pd s H 0 []) (ht : Fr.Tab w) (hb : KwB w kb p (.int .i64 0) (.int .i64 0) (.int .i64 0) (.int .i64 0) (.slice none 0 0) (.slice none 0 0) (.slice none 0 0) 0) (hk : ¬ H kb)
    (r : Rdy) (s' : St) (hs : st0.after r = some s') (y6 y7 y8 : Value) (ae : Option Addr) (le ce : Nat) (hE : Es w (.slice ae le ce) r.ents) (hsn : r.snap = none) (hsv : r.saved = true) (ho : r.ok) (hrz : rsz r ≤ 140737488355328) (hl : (encR false r).length ≤ 32767)
    (hln : r.ents.length ≤ 1000000000) (hd : ∀ e ∈ r.ents, e.data.length ≤ 140737488355328) (hlong : r.long = false) (hgood : st0.isGood r = true)
    (hr : (Dk.used s.now : Int) + (Wl.recB 1 (fl true ++ encR false r)).length ≤ s.room) (hf : (Dk.look Wl.nmW s.now).isSome = true ∨ s.now.length < 64) (hms : s.mass + 40000 ≤ 1000000000) (hms2 : (s.push (.app Wl.nmW (Wl.recB 1 (fl true ++ encR false r)))).mass ≤ 1000000) :
    Calls Tryz.prog 13 #[.pointer (some ⟨kb, 0, none⟩), .agg #[.int .i64 r.term, .int .i64 r.vote, .bool r.saved, .int .i64 r.first, .slice ae le ce, .pointer none, y6, y7, y8]] w fun e w' =>
      e = .returned (.int .i64 0) ∧ Hid (DoR w kb p pd s H (encR false r) w') := by
  have HKB := hide hb
  have HGD : Hid (∀ W, Below w.heap.size w W → Calls Tryz.prog 34 #[.agg #[.int .i64 0, .int .i64 0, .int .i64 0, .int .i64 0, .slice none 0 0, .slice none 0 0, .slice none 0 0], .agg #[.int .i64 r.term, .int .i64 r.vote, .bool r.saved, .int .i64 r.first, .slice ae le ce, .pointer none, y6, y7, y8]] W fun x w' => x = .returned (.bool true) ∧ Below W.heap.size W w') := fun W hW => by
    have h1 := isGood_any st0 r (.int .i64 0) (.int .i64 0) (.int .i64 0) (.slice none 0 0) (.slice none 0 0) (.slice none 0 0) (.int .i64 r.first) y6 y7 y8 none (.slice ae le ce) W (hE.below hW) (by rw [hsn]; rfl)
    rw [hgood] at h1
    exact h1
  have HDO : Hid (∀ W, Below w.heap.size w W → Calls Tryz.prog 35 #[.pointer (some ⟨kb, 0, none⟩), .agg #[.int .i64 r.term, .int .i64 r.vote, .bool r.saved, .int .i64 r.first, .slice ae le ce, .pointer none, y6, y7, y8]] W fun e w' => e = .returned (.int .i64 0) ∧ Hid (DoR W kb p pd s H (encR false r) w')) := fun W hW => do_first (h.below hW) (ht.below hW) (hb.below hW) hk r s' hs y6 y7 y8 ae le ce (hE.below hW) hsn hsv ho hrz hl hln hd hlong hr hf hms hms2
  have HEND : Hid (∀ W w', Below w.heap.size w W → DoR W kb p pd s H (encR false r) w' → DoR w kb p pd s H (encR false r) w') := fun W w' hW hD => by
    obtain ⟨H', h1, h2, h3⟩ := hD
    exact ⟨H', h1, fun k hk => by
      rcases h2 k hk with h4 | h4
      · exact Or.inl h4
      · exact Or.inr (Nat.le_trans hW.size h4), (Dk.Fr.of_below (F := fun k => H k ∨ k = kb) hW).trans h3 (fun k _ h => h)⟩
  have HB1 : Hid (Below w.heap.size w (w.alloc (.cells #[.int .i64 r.term, .int .i64 r.vote, .bool r.saved, .int .i64 r.first, .slice ae le ce, .pointer none, y6, y7, y8] 43))) := (Below.refl _ w).alloc (Nat.le_refl _) _
  have HB9 : Hid ((w.alloc (.cells #[.int .i64 r.term, .int .i64 r.vote, .bool r.saved, .int .i64 r.first, .slice ae le ce, .pointer none, y6, y7, y8] 43)).heap[w.heap.size]? = some (.cells #[.int .i64 r.term, .int .i64 r.vote, .bool r.saved, .int .i64 r.first, .slice ae le ce, .pointer none, y6, y7, y8] 43 (0, 0))) := heap_alloc_new _ _
  generalize encR false r = t at *
  obtain ⟨rt, rv, rs, rf, re, rn⟩ := r
  dsimp only at *
  subst hsv hsn
  clear h ht hb hs hE ho hrz hl hln hd hlong hgood hr hf hms hms2
  go_enter Tryz.func13, Tryz.ntmps13
  go_upto_region 3 with fail
  generalize w.alloc (.cells #[.int .i64 rt, .int .i64 rv, .bool true, .int .i64 rf, .slice ae le ce, .pointer none, y6, y7, y8] 43) = w1 at *
  obtain ⟨k0, k1, k2, k3, k4, k5, k6, k7, k8⟩ := nine (HKB.out.below HB1.out)
  obtain ⟨n0, n1, n2, n3, n4, n5, n6, n7, n8⟩ := nine HB9.out
  have HG1 := hide (HGD.out w1.drew HB1.out.drew)
  refine wp_region_noPanic ?_
  go_region_with (go_at_call 34; refine Calls.mono HG1.out ?_; rintro x w2 ⟨rfl, hb2⟩)
  all_goals
    refine NoPanic.normal ?_
    have hb21 : Below w1.heap.size w1 w2 := ((Below.refl _ w1).drew).trans hb2
    have HB2 := hide (HB1.out.trans (hb21.mono HB1.out.size))
    have h92 := (hb21.block w.heap.size (lt_of_block HB9.out)).trans HB9.out
    obtain ⟨q0, q1, q2, q3, q4, q5, q6, q7, q8⟩ := nine h92
    have HDO2 := hide (HDO.out w2 HB2.out)
    clear hb2 hb21 h92 HDO HGD HG1 k0 k1 k2 k3 k4 k5 k6 k7 k8 n0 n1 n2 n3 n4 n5 n6 n7 n8
    go_wp2_with fail
    refine Calls.mono HDO2.out ?_
    rintro x w3 ⟨rfl, HD3⟩
    have HE := hide (HEND.out w2 w3 HB2.out HD3.out)
    clear HD3 HDO2
    go_wp2_with fail
    go_ret
    exact ⟨rfl, HE⟩
end Go.Proofs.YtjndgekpdmlbiaaGreatDoor.Kp
namespace Go.Proofs.YtjndgekpdmlbiaaGreatDoor.Kp
open Go.RowKit Bn

set_option maxHeartbeats 2000000 in
theorem save_bad {Q : Nat → Prop} {w0 w : World} {kb p pd : Nat} {s : Dk.St} {H : Nat → Prop} {first : Int} {ds : List (List UInt8)} {N B M : Nat} {zm : Int} {σ : St} (hK : KS Q w0 kb p pd s H first ds N B M zm σ) (hw : Below w0.heap.size w0 w)
    (rt rv rf : Int) (re : List Ent) (y6 y7 y8 : Value) (ae : Option Addr) (le ce : Nat) (hEs : Es w (.slice ae le ce) re) (hbad : σ.isGood ⟨rt, rv, true, rf, re, none⟩ = false) :
    Calls Tryz.prog 13 #[.pointer (some ⟨kb, 0, none⟩), .agg #[.int .i64 rt, .int .i64 rv, .bool true, .int .i64 rf, .slice ae le ce, .pointer none, y6, y7, y8]] w fun e w' =>
      e = .returned (.int .i64 3) ∧ Below w.heap.size w w' := by
  obtain ⟨hX0, hG, _, hsnap, av, nv, cv, z, hb, _⟩ := hK
  have HKB : Hid (KwB w kb p (.int .i64 σ.term) (.int .i64 σ.vote) (.int .i64 0) (.int .i64 0) (.slice none 0 0) (.slice none 0 0) (.slice av nv cv) z) := hb.below hw
  have HGD : Hid (∀ W, Below w.heap.size w W → Calls Tryz.prog 34 #[.agg #[.int .i64 σ.term, .int .i64 σ.vote, .int .i64 0, .int .i64 0, .slice none 0 0, .slice none 0 0, .slice av nv cv], .agg #[.int .i64 rt, .int .i64 rv, .bool true, .int .i64 rf, .slice ae le ce, .pointer none, y6, y7, y8]] W fun x w' => x = .returned (.bool false) ∧ Below W.heap.size W w') := fun W hW => by
    have h1 := isGood_any σ ⟨rt, rv, true, rf, re, none⟩ (.int .i64 σ.vote) (.int .i64 0) (.int .i64 0) (.slice none 0 0) (.slice none 0 0) (.slice av nv cv) (.int .i64 rf) y6 y7 y8 none (.slice ae le ce) W (hEs.below hW) rfl
    rw [hbad] at h1
    exact h1
  have HB1 : Hid (Below w.heap.size w (w.alloc (.cells #[.int .i64 rt, .int .i64 rv, .bool true, .int .i64 rf, .slice ae le ce, .pointer none, y6, y7, y8] 43))) := (Below.refl _ w).alloc (Nat.le_refl _) _
  have HB9 : Hid ((w.alloc (.cells #[.int .i64 rt, .int .i64 rv, .bool true, .int .i64 rf, .slice ae le ce, .pointer none, y6, y7, y8] 43)).heap[w.heap.size]? = some (.cells #[.int .i64 rt, .int .i64 rv, .bool true, .int .i64 rf, .slice ae le ce, .pointer none, y6, y7, y8] 43 (0, 0))) := heap_alloc_new _ _
  generalize σ.term = σt at *
  generalize σ.vote = σv at *
  clear hX0 hG hsnap hb hw hEs hbad
  go_enter Tryz.func13, Tryz.ntmps13
  go_upto_region 3 with fail
  generalize w.alloc (.cells #[.int .i64 rt, .int .i64 rv, .bool true, .int .i64 rf, .slice ae le ce, .pointer none, y6, y7, y8] 43) = w1 at *
  obtain ⟨k0, k1, k2, k3, k4, k5, k6, k7, k8⟩ := nine (HKB.out.below HB1.out)
  obtain ⟨n0, n1, n2, n3, n4, n5, n6, n7, n8⟩ := nine HB9.out
  have HG1 := hide (HGD.out w1.drew HB1.out.drew)
  refine wp_region_noPanic ?_
  go_region_with (go_at_call 34; refine Calls.mono HG1.out ?_; rintro x w2 ⟨rfl, hb2⟩)
  all_goals
    refine NoPanic.normal ?_
    have hb21 : Below w1.heap.size w1 w2 := ((Below.refl _ w1).drew).trans hb2
    have HB2 := hide (HB1.out.trans (hb21.mono HB1.out.size))
    clear hb2 hb21 HGD HG1 k0 k1 k2 k3 k4 k5 k6 k7 k8 n0 n1 n2 n3 n4 n5 n6 n7 n8
    go_wp2_with fail
    go_ret
    exact ⟨rfl, HB2.out⟩

set_option maxHeartbeats 2000000 in
theorem save_good {Q : Nat → Prop} {w0 w : World} {kb p pd : Nat} {s : Dk.St} {H : Nat → Prop} {first : Int} {ds : List (List UInt8)} {N B M : Nat} {zm : Int} {σ σ' : St} (hK : KS Q w0 kb p pd s H first ds N B M zm σ) (hw : Below w0.heap.size w0 w) (hb0 : ¬ Q 0) (ht : Fr.Tab w)
    (h1f : ds ≠ [] → 1 ≤ first) (hlast : Wl.lastL first ds ≤ 4611686018427386000) (hN : N ≤ 800) (hB : B ≤ 400000) (hM : M ≤ 400000) (hroom : 2 * ((B : Int) + 33000) ≤ s.room) (hzm : zm ≤ 900000000000000)
    (rt rv rf : Int) (re : List Ent) (y6 y7 y8 : Value) (ae : Option Addr) (le ce : Nat) (hEs : ∀ W, Dk.Fr Q w W → Es W (.slice ae le ce) re) (ho : (⟨rt, rv, true, rf, re, none⟩ : Rdy).ok) (hrz : rsz ⟨rt, rv, true, rf, re, none⟩ ≤ 140737488355328) (hl : (encR false ⟨rt, rv, true, rf, re, none⟩).length ≤ 32767) (hd : ∀ e ∈ re, e.data.length ≤ 8192)
    (hs : σ.after ⟨rt, rv, true, rf, re, none⟩ = some σ') (hln : σ.ents.length + re.length ≤ 1000000000) (hflat : Flat σ') (hrz1 : rsz σ'.whole ≤ 140737488355328) (hl1 : (encR true σ'.whole).length ≤ 32767) (hwt : wtE σ'.ents ≤ 1000000000000000) (hgood : σ.isGood ⟨rt, rv, true, rf, re, none⟩ = true) :
    Calls Tryz.prog 13 #[.pointer (some ⟨kb, 0, none⟩), .agg #[.int .i64 rt, .int .i64 rv, .bool true, .int .i64 rf, .slice ae le ce, .pointer none, y6, y7, y8]] w fun e w' =>
      e = .returned (.int .i64 0) ∧ Hid (DnR Q w kb p pd s.room first ds ⟨rt, rv, true, rf, re, none⟩ N B (zm + 33000) σ' w') := by
  have hQl : ∀ k, Q k → k < w0.heap.size := hK.2.2.1.2.2.2
  have HDO : Hid (∀ W, Below w.heap.size w W → Calls Tryz.prog 35 #[.pointer (some ⟨kb, 0, none⟩), .agg #[.int .i64 rt, .int .i64 rv, .bool true, .int .i64 rf, .slice ae le ce, .pointer none, y6, y7, y8]] W fun e w' => e = .returned (.int .i64 0) ∧ Hid (DnR Q w kb p pd s.room first ds ⟨rt, rv, true, rf, re, none⟩ N B (zm + 33000) σ' w')) := fun W hW => by
    refine (do_any hK (hw.trans (hW.mono hw.size)) hb0 (ht.below hW) h1f hlast hN hB hM hroom hzm rt rv rf re y6 y7 y8 ae le ce (fun V hV => hEs V ((Dk.Fr.of_below hW).trans hV (fun _ _ h => h))) ho hrz hl hd hs hln hflat hrz1 hl1 hwt).mono ?_
    rintro e w' ⟨rfl, HP⟩
    obtain ⟨an, s2, H2, h1, h2, h3, h4, h5⟩ := HP.out
    refine ⟨rfl, an, s2, H2, h1, ?_, h3, h4, (Dk.Fr.of_below (F := Q) hW).trans h5 (fun _ _ h => h)⟩
    exact h2.wideQ (fun k hk => hk.imp id (fun h => ⟨Nat.le_trans hW.size h.1, h.2⟩)) (fun k hk => hk.elim (fun h => by have := hQl k h; have := hW.size; have := h5.size; have := hw.size; omega) (fun h => h.2))
  obtain ⟨hX0, hG, _, hsnap, av, nv, cv, z, hb, _⟩ := hK
  have HKB : Hid (KwB w kb p (.int .i64 σ.term) (.int .i64 σ.vote) (.int .i64 0) (.int .i64 0) (.slice none 0 0) (.slice none 0 0) (.slice av nv cv) z) := hb.below hw
  have HGD : Hid (∀ W, Below w.heap.size w W → Calls Tryz.prog 34 #[.agg #[.int .i64 σ.term, .int .i64 σ.vote, .int .i64 0, .int .i64 0, .slice none 0 0, .slice none 0 0, .slice av nv cv], .agg #[.int .i64 rt, .int .i64 rv, .bool true, .int .i64 rf, .slice ae le ce, .pointer none, y6, y7, y8]] W fun x w' => x = .returned (.bool true) ∧ Below W.heap.size W w') := fun W hW => by
    have h1 := isGood_any σ ⟨rt, rv, true, rf, re, none⟩ (.int .i64 σ.vote) (.int .i64 0) (.int .i64 0) (.slice none 0 0) (.slice none 0 0) (.slice av nv cv) (.int .i64 rf) y6 y7 y8 none (.slice ae le ce) W ((hEs w (Dk.Fr.refl _ w)).below hW) rfl
    rw [hgood] at h1
    exact h1
  have HB1 : Hid (Below w.heap.size w (w.alloc (.cells #[.int .i64 rt, .int .i64 rv, .bool true, .int .i64 rf, .slice ae le ce, .pointer none, y6, y7, y8] 43))) := (Below.refl _ w).alloc (Nat.le_refl _) _
  have HB9 : Hid ((w.alloc (.cells #[.int .i64 rt, .int .i64 rv, .bool true, .int .i64 rf, .slice ae le ce, .pointer none, y6, y7, y8] 43)).heap[w.heap.size]? = some (.cells #[.int .i64 rt, .int .i64 rv, .bool true, .int .i64 rf, .slice ae le ce, .pointer none, y6, y7, y8] 43 (0, 0))) := heap_alloc_new _ _
  obtain ⟨PP, HPP⟩ : ∃ PP : World → Prop, Hid (PP = DnR Q w kb p pd s.room first ds ⟨rt, rv, true, rf, re, none⟩ N B (zm + 33000) σ') := ⟨_, (rfl : _ = _)⟩
  rw [← HPP.out] at HDO ⊢
  generalize σ.term = σt at *
  generalize σ.vote = σv at *
  clear hX0 hG hsnap hb hw hEs hb0 hQl ht h1f hlast hN hB hM hroom hzm ho hrz hl hd hs hln hflat hrz1 hl1 hwt hgood HPP
  go_enter Tryz.func13, Tryz.ntmps13
  go_upto_region 3 with fail
  generalize w.alloc (.cells #[.int .i64 rt, .int .i64 rv, .bool true, .int .i64 rf, .slice ae le ce, .pointer none, y6, y7, y8] 43) = w1 at *
  obtain ⟨k0, k1, k2, k3, k4, k5, k6, k7, k8⟩ := nine (HKB.out.below HB1.out)
  obtain ⟨n0, n1, n2, n3, n4, n5, n6, n7, n8⟩ := nine HB9.out
  have HG1 := hide (HGD.out w1.drew HB1.out.drew)
  refine wp_region_noPanic ?_
  go_region_with (go_at_call 34; refine Calls.mono HG1.out ?_; rintro x w2 ⟨rfl, hb2⟩)
  all_goals
    refine NoPanic.normal ?_
    have hb21 : Below w1.heap.size w1 w2 := ((Below.refl _ w1).drew).trans hb2
    have HB2 := hide (HB1.out.trans (hb21.mono HB1.out.size))
    have h92 := (hb21.block w.heap.size (lt_of_block HB9.out)).trans HB9.out
    obtain ⟨q0, q1, q2, q3, q4, q5, q6, q7, q8⟩ := nine h92
    have HDO2 := hide (HDO.out w2 HB2.out)
    clear hb2 hb21 h92 HDO HGD HG1 k0 k1 k2 k3 k4 k5 k6 k7 k8 n0 n1 n2 n3 n4 n5 n6 n7 n8
    go_wp2_with fail
    refine Calls.mono HDO2.out ?_
    rintro x w3 ⟨rfl, HD3⟩
    go_wp2_with fail
    go_ret
    exact ⟨rfl, HD3⟩
end Go.Proofs.YtjndgekpdmlbiaaGreatDoor.Kp
