/- The walks of HasPrefix and removeStrays. -/
import Derived.Test.YtnbdkojdddplkaaDoorWlLoad
namespace Go.Proofs.YtnbdkojdddplkaaDoor.Wl
open Go.RowKit Dk

/-- Does a name begin with w? -/
def preW (n : ByteArray) : Bool := decide (1 ≤ n.size) && ((n.extract 0 1).toList == nmW.toList)

set_option maxHeartbeats 1000000 in
theorem pre_any (n : ByteArray) (w : World) (hn : n.size ≤ maxLen) : Calls Tryd.prog 49 #[.string n, .string nmW] w fun e w' => e = .returned (.bool (preW n)) ∧ w' = w := by
  unfold maxLen at hn
  have H : Hid (Calls Tryd.prog 67 #[.string n, .string ⟨#[119]⟩] w fun e w' => e = .returned (.bool (preW n)) ∧ w' = w) := by
    by_cases h : 1 ≤ n.size
    · have h' : (1 : Int) ≤ (n.size : Int) := by omega
      have hp : preW n = ((n.extract 0 1).toList == nmW.toList) := by unfold preW; simp [h]
      have hp2 : preW n = ((n.extract 0 1).toList == [119]) := by
        rw [hp]; unfold nmW; rw [toList_data ⟨#[119]⟩]
      clear hp
      go_enter Tryd.func67, Tryd.ntmps67
      go_wp2
      go_ret
      refine ⟨congrArg (fun b => Ending.returned (Value.bool b)) ?_, rfl⟩
      rw [hp2]
    · have h' : ¬ (1 : Int) ≤ (n.size : Int) := by omega
      have hp : preW n = false := by unfold preW; simp; omega
      rw [hp]
      clear hp
      go_enter Tryd.func67, Tryd.ntmps67
      go_wp2
      go_ret
      exact ⟨rfl, rfl⟩
  show Calls Tryd.prog 49 #[.string n, .string ⟨#[119]⟩] w _
  go_enter Tryd.func49, Tryd.ntmps49
  go_wp2_with (go_at_call 67; refine Calls.mono H.out ?_; rintro e w' ⟨rfl, hw⟩; have hw' := hw.symm; subst hw')
  go_ret
  exact ⟨rfl, rfl⟩

def rmStep (s : St) (n : ByteArray) : St := if (Dk.look n s.now).isSome = true then s.push (.rem n) else s
def strayStep (s : St) (n : ByteArray) : St := if preW n = true ∧ n ≠ nmW then rmStep s n else s
def strays (s : St) (ns : List ByteArray) : St := ns.foldl strayStep s
theorem stray_mass (s : St) (n : ByteArray) : (strayStep s n).mass ≤ s.mass + 1 := by
  unfold strayStep rmStep
  split
  · split
    · rw [St.push_mass]; simp [Ch.mass]
    · omega
  · omega
theorem strays_mass : ∀ (ns : List ByteArray) (s : St), (strays s ns).mass ≤ s.mass + ns.length
  | [], s => by simp [strays]
  | n :: ns, s => by
    have h1 := strays_mass ns (strayStep s n)
    have h2 := stray_mass s n
    unfold strays at h1 ⊢
    rw [List.foldl_cons, List.length_cons]
    omega
theorem look_del_ne {n m : ByteArray} (h : n ≠ m) (fs : List Fl) : Dk.look m (Dk.del n fs) = Dk.look m fs := by
  unfold Dk.look Dk.del
  induction fs with
  | nil => rfl
  | cons x r ih =>
    rw [List.filter_cons]
    by_cases hx : x.name = n
    · have hm : x.name ≠ m := fun e => h (hx.symm.trans e)
      simp [hx, h, ih]
    · simp only [hx, decide_false, Bool.not_false, if_true, List.find?_cons]
      rw [ih]
theorem stray_look (s : St) (n : ByteArray) : Dk.look nmW (strayStep s n).now = Dk.look nmW s.now := by
  unfold strayStep
  split
  · rename_i h
    unfold rmStep
    split
    · rw [St.push_now]
      exact look_del_ne h.2 _
    · rfl
  · rfl
theorem strays_look : ∀ (ns : List ByteArray) (s : St), Dk.look nmW (strays s ns).now = Dk.look nmW s.now
  | [], s => rfl
  | n :: ns, s => by
    have h1 := strays_look ns (strayStep s n)
    unfold strays at h1 ⊢
    rw [List.foldl_cons, h1, stray_look]

theorem rm_any (pd : Nat) (s : St) (F : Nat → Prop) (n : ByteArray) (w : World) (h : Dk w pd s F) (hm : s.mass + 1 ≤ 1000000000) :
    Calls Tryd.prog 50 #[.pointer (some ⟨pd, 0, none⟩), .string n] w fun e w' => (∃ c, e = .returned (.int .i64 c)) ∧ Dk w' pd (rmStep s n) (ext F w w') ∧ Fr F w w' := by
  unfold rmStep
  cases hl : (Dk.look n s.now).isSome with
  | true =>
    rw [if_pos rfl]
    exact (remove_some pd s F n w h hl hm).mono fun _ _ ⟨he, h1, h2⟩ => ⟨⟨_, he⟩, h1, h2⟩
  | false =>
    rw [if_neg (by simp)]
    have hl' : Dk.look n s.now = none := by simpa using hl
    refine (remove_none pd s F n w h hl' (by omega)).mono ?_
    rintro e w' ⟨rfl, hb⟩
    exact ⟨⟨_, rfl⟩, (h.below hb).mono (fun _ hk => Or.inl hk) (ext_lt h.lt hb.size), Fr.of_below hb⟩

set_option maxHeartbeats 2000000 in
set_option maxRecDepth 20000 in
theorem strays_any (pd : Nat) (s : St) (F : Nat → Prop) (w : World) (h : Dk w pd s F) (hm : s.mass + s.now.length + 1 ≤ 100000000) (hsz : ∀ f ∈ s.now, f.name.size ≤ maxLen) :
    Calls Tryd.prog 28 #[.pointer (some ⟨pd, 0, none⟩)] w fun e w' => e = .returned (.tuple #[]) ∧ (∃ F', Dk w' pd (strays s (s.now.map Fl.name)) F' ∧ ∀ k, F' k → F k ∨ w.heap.size ≤ k) ∧ Fr F w w' := by
  have HN : Hid (_) := names_any pd s F w h (by omega)
  have hFlt := h.lt
  obtain ⟨ns, Hns⟩ : ∃ ns, Hid (ns = s.now.map Fl.name) := ⟨_, (rfl : _ = _)⟩
  have hnl : ns.length = s.now.length := by rw [Hns.out]; simp
  have HSz : Hid (∀ i (hi : i < ns.length), ns[i].size ≤ maxLen) := by
    intro i hi
    have : ns[i] ∈ s.now.map Fl.name := by rw [← Hns.out]; exact List.getElem_mem hi
    obtain ⟨f, hf, e⟩ := List.mem_map.1 this
    rw [← e]
    exact hsz f hf
  rw [← Hns.out]
  have hmap : s.now.map (fun f => Value.string f.name) = ns.map Value.string := by rw [Hns.out, List.map_map]; rfl
  have HN2 : Hid (Calls Tryd.prog 48 #[.pointer (some ⟨pd, 0, none⟩)] w fun e w1 => ∃ ao cap, e = .returned (.slice ao ns.length cap) ∧ Hid (Below w.heap.size w w1 ∧ Dk w1 pd s F ∧ ∀ wr, Fr F w1 wr → ∀ i (hi : i < ns.length), ∃ g, ao = some ⟨g, 0, none⟩ ∧ wr.cell? ⟨g, i, none⟩ = some (.string ns[i]))) := by
    refine Calls.mono HN.out ?_
    rintro e w1 ⟨v, rfl, hO, hb⟩
    rw [hmap, ← hnl] at hO
    obtain ⟨ao, cap, rfl, hao⟩ : ∃ ao cap, v = .slice ao ns.length cap ∧ (0 < ns.length → ∃ g, ao = some ⟨g, 0, none⟩ ∧ w.heap.size ≤ g) := by
      rcases hO.2 with ⟨rfl, e⟩ | ⟨g, cap, cur, rfl, hg, _⟩
      · exact ⟨none, 0, by rw [e], fun h => by omega⟩
      · exact ⟨_, _, rfl, fun _ => ⟨g, rfl, hg⟩⟩
    refine ⟨ao, cap, rfl, hb, h.below hb, fun wr hf i hi => ?_⟩
    obtain ⟨g, rfl, hg⟩ := hao (by omega)
    refine ⟨g, rfl, hf.cell ?_ (fun hF => by have := hFlt g hF; omega)⟩
    rw [hO.cellAt i (by omega), List.getElem?_map, List.getElem?_eq_getElem hi]
    rfl
  have hnb : ns.length ≤ 100000000 := by omega
  have HM : Hid (∀ k, k ≤ ns.length → (strays s (ns.take k)).mass + 1 ≤ 1000000000) := by
    intro k hk
    have h1 := strays_mass (ns.take k) s
    rw [List.length_take] at h1
    omega
  clear hsz hmap hnl HN hm
  go_enter Tryd.func28, Tryd.ntmps28
  go_wp2_with (go_at_call 48; refine Calls.mono HN2.out ?_; rintro e w1 ⟨ao, cap, rfl, HX1⟩)
  go_loopw [7] (fun vi wr => ∃ k : Nat, k ≤ ns.length ∧ vi = .int .i64 k ∧ Hid ((∃ F', Dk wr pd (strays s (ns.take k)) F' ∧ ∀ j, F' j → F j ∨ w1.heap.size ≤ j) ∧ Fr F w1 wr)) (fun vi _ => ns.length - (intOf vi).toNat)
  case atStart => exact ⟨0, Nat.zero_le _, rfl, ⟨F, HX1.out.2.1, fun j hj => Or.inl hj⟩, Fr.refl _ _⟩
  case round =>
    obtain ⟨k, hk, rfl, HK⟩ := hrel
    by_cases hlt : k < ns.length
    · have hlt' : (k : Int) < (ns.length : Int) := by omega
      obtain ⟨g, rfl, hcell⟩ := HX1.out.2.2 wr HK.out.2 k hlt
      have HStep : Hid (strays s (ns.take (k + 1)) = strayStep (strays s (ns.take k)) ns[k]) := by
        show _ = _
        rw [take_succ_snoc ns k ns[k] (List.getElem?_eq_getElem hlt)]
        unfold strays
        rw [List.foldl_append]
        rfl
      have HP : Hid (_) := pre_any ns[k] wr (HSz.out k hlt)
      have HRm : Hid (Calls Tryd.prog 50 #[.pointer (some ⟨pd, 0, none⟩), .string ns[k]] wr fun e w' => (∃ c, e = .returned (.int .i64 c)) ∧ Hid ((∃ F', Dk w' pd (rmStep (strays s (ns.take k)) ns[k]) F' ∧ ∀ j, F' j → F j ∨ w1.heap.size ≤ j) ∧ Fr F w1 w')) := by
        obtain ⟨⟨F', hD, hF'⟩, hf⟩ := HK.out
        refine (rm_any pd _ F' ns[k] wr hD (HM.out k hk)).mono ?_
        rintro e w' ⟨⟨c, rfl⟩, h1, h2⟩
        have hs := hf.size
        refine ⟨⟨c, rfl⟩, ⟨_, h1, fun j hj => ?_⟩, hf.trans h2 (fun j hj hF => ?_)⟩
        · rcases hj with hj | hj
          · exact hF' j hj
          · exact Or.inr (by omega)
        · rcases hF' j hF with hh | hh
          · exact hh
          · omega
      obtain ⟨n, Hn⟩ : ∃ n, Hid (n = ns[k]) := ⟨ns[k], (rfl : _ = ns[k])⟩
      rw [← Hn.out] at hcell HP HRm HStep
      have HK' : Hid (_) := HK.out
      clear HN2 HM
      simp only [nmW] at HP
      cases hpre : preW n with
      | true =>
        rw [hpre] at HP
        by_cases hw : n = nmW
        · have hne : (n.toList == [119]) = true := by rw [hw]; unfold nmW; rw [toList_data ⟨#[119]⟩]; rfl
          have HSame : Hid (strays s (ns.take (k + 1)) = strays s (ns.take k)) := by
            show _ = _
            rw [HStep.out]
            unfold strayStep
            rw [if_neg (fun h => h.2 hw)]
          clear hw hpre
          go_wp2_with (go_at_call 49; refine Calls.mono HP.out ?_; rintro e w' ⟨rfl, hw⟩; have hw' := hw.symm; subst hw')
          go_roundw
          case rel => exact ⟨k + 1, by omega, by go_num, by rw [HSame.out]; exact HK'.out⟩
          case measure => simp [intOf]; omega
        · have hne : (n.toList == [119]) = false := by
            rw [beq_eq_false_iff_ne]
            intro e
            rw [toList_data] at e
            exact hw (Go.WideShapes.bytes_inj e)
          have HSame : Hid (strays s (ns.take (k + 1)) = rmStep (strays s (ns.take k)) n) := by
            show _ = _
            rw [HStep.out]
            unfold strayStep
            rw [if_pos ⟨hpre, hw⟩]
          clear hw hpre
          go_wp2_with (first
            | (go_at_call 49; refine Calls.mono HP.out ?_; rintro e w' ⟨rfl, hw⟩; have hw' := hw.symm; subst hw')
            | (go_at_call 50; refine Calls.mono HRm.out ?_; rintro e w5 ⟨⟨c, rfl⟩, HX5⟩))
          go_roundw
          case rel => exact ⟨k + 1, by omega, by go_num, by rw [HSame.out]; exact HX5.out⟩
          case measure => simp [intOf]; omega
      | false =>
        rw [hpre] at HP
        have HSame : Hid (strays s (ns.take (k + 1)) = strays s (ns.take k)) := by
          show _ = _
          rw [HStep.out]
          unfold strayStep
          rw [if_neg (fun h => by rw [hpre] at h; simp at h)]
        clear hpre
        go_wp2_with (go_at_call 49; refine Calls.mono HP.out ?_; rintro e w' ⟨rfl, hw⟩; have hw' := hw.symm; subst hw')
        go_roundw
        case rel => exact ⟨k + 1, by omega, by go_num, by rw [HSame.out]; exact HK'.out⟩
        case measure => simp [intOf]; omega
    · have hkn : k = ns.length := by omega
      have hlt' : ¬ (k : Int) < (ns.length : Int) := by omega
      have HFin : Hid ((∃ F', Dk wr pd (strays s ns) F' ∧ ∀ j, F' j → F j ∨ w.heap.size ≤ j) ∧ Fr F w wr) := by
        obtain ⟨⟨F', h1, h2⟩, h3⟩ := HK.out
        rw [List.take_of_length_le (by omega)] at h1
        have hb := HX1.out.1
        refine ⟨⟨F', h1, fun j hj => ?_⟩, (Fr.of_below hb).trans h3 (fun _ _ h => h)⟩
        rcases h2 j hj with hh | hh
        · exact Or.inl hh
        · exact Or.inr (Nat.le_trans hb.size hh)
      clear hkn HK
      go_wp2
      go_end0
      exact ⟨rfl, HFin.out.1, HFin.out.2⟩
end Go.Proofs.YtnbdkojdddplkaaDoor.Wl
