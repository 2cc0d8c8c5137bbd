/- Levels of a relief, plain mathematics: what a level is, told without ways; the program's search and the model's both find it. -/
import Derived.Test.YtodjgeffkfbpiaaWt
namespace Go.Proofs.Ytodjgeffkfbpiaa

/-- Numbers below which no way out of the relief leads. -/
structure SubL (D : List (List Int)) (G : Sq → Int) : Prop where
  edge : ∀ p, inR D p → (nears D p).length < 4 → G p ≤ hA D p
  near : ∀ p, inR D p → ∀ q ∈ nears D p, G p ≤ max (hA D p) (G q)
structure IsLv (D : List (List Int)) (L : Sq → Int) : Prop where
  sub : SubL D L
  low : ∀ p, inR D p → hA D p ≤ L p
  top : ∀ p, inR D p → L p ≤ 9999
  most : ∀ G, SubL D G → (∀ p, inR D p → G p ≤ 9999) → ∀ p, inR D p → G p ≤ L p
theorem IsLv.one {D : List (List Int)} {L M : Sq → Int} (h : IsLv D L) (k : IsLv D M) {p : Sq} (hp : inR D p) : L p = M p := by
  have h1 := h.most M k.sub k.top p hp
  have h2 := k.most L h.sub h.top p hp
  omega
/-- The lowest number beside a square; 0 at the edge. -/
def lowestN (L : Sq → Int) (l : List Sq) : Int := l.foldl (fun a q => min a (L q)) 9999
def wayN (D : List (List Int)) (L : Sq → Int) (p : Sq) : Int := if (nears D p).length < 4 then 0 else lowestN L (nears D p)
def newL (D : List (List Int)) (L : Sq → Int) (p : Sq) : Int := max (hA D p) (wayN D L p)
theorem fold_min (L : Sq → Int) : ∀ (l : List Sq) (a : Int), l.foldl (fun a q => min a (L q)) a ≤ a ∧ (∀ q ∈ l, l.foldl (fun a q => min a (L q)) a ≤ L q) ∧ (l.foldl (fun a q => min a (L q)) a = a ∨ ∃ q ∈ l, l.foldl (fun a q => min a (L q)) a = L q) := by
  intro l
  induction l with
  | nil => intro a; exact ⟨Int.le_refl _, by simp, .inl rfl⟩
  | cons x l ih =>
    intro a
    rw [List.foldl_cons]
    obtain ⟨h1, h2, h3⟩ := ih (min a (L x))
    refine ⟨by omega, fun q hq => ?_, ?_⟩
    · rcases List.mem_cons.1 hq with rfl | hq
      · omega
      · exact h2 q hq
    · rcases h3 with e | ⟨q, hq, e⟩
      · by_cases hle : a ≤ L x
        · exact .inl (by omega)
        · exact .inr ⟨x, by simp, by omega⟩
      · exact .inr ⟨q, List.mem_cons_of_mem _ hq, e⟩
theorem lowestN_snoc (L : Sq → Int) (l : List Sq) (q : Sq) : lowestN L (l ++ [q]) = min (lowestN L l) (L q) := by simp [lowestN]
theorem lowestN_bd (L : Sq → Int) (l : List Sq) (h : ∀ q ∈ l, 0 ≤ L q) : 0 ≤ lowestN L l ∧ lowestN L l ≤ 9999 := by
  obtain ⟨h1, _, h3⟩ := fold_min L l 9999
  refine ⟨?_, h1⟩
  unfold lowestN
  rcases h3 with e | ⟨q, hq, e⟩
  · rw [e]; omega
  · rw [e]; exact h q hq
theorem lowestN_mono {L M : Sq → Int} (l : List Sq) (h : ∀ q ∈ l, L q ≤ M q) : lowestN L l ≤ lowestN M l := by
  obtain ⟨a1, a2, _⟩ := fold_min L l 9999
  obtain ⟨_, _, b3⟩ := fold_min M l 9999
  unfold lowestN
  rcases b3 with e | ⟨q, hq, e⟩
  · rw [e]; exact a1
  · rw [e]; have := a2 q hq; have := h q hq; omega
theorem newL_mono {D : List (List Int)} {L M : Sq → Int} {p : Sq} (hp : inR D p) (h : ∀ q, inR D q → L q ≤ M q) : newL D L p ≤ newL D M p := by
  unfold newL wayN
  split
  · exact Int.le_refl _
  · have := lowestN_mono (nears D p) (L := L) (M := M) fun q hq => h q (nears_in hp hq)
    omega
theorem sub_new {D : List (List Int)} {G L : Sq → Int} (hG : SubL D G) (ht : ∀ p, inR D p → G p ≤ 9999) (h : ∀ q, inR D q → G q ≤ L q) {p : Sq} (hp : inR D p) : G p ≤ newL D L p := by
  have h1 := newL_mono hp h
  refine Int.le_trans ?_ h1
  unfold newL wayN
  split
  · rename_i he
    have := hG.edge p hp he
    omega
  · obtain ⟨_, _, h3⟩ := fold_min G (nears D p) 9999
    unfold lowestN
    rcases h3 with e | ⟨q, hq, e⟩
    · rw [e]; have := ht p hp; omega
    · rw [e]; exact hG.near p hp q hq
/-- One number replaced. -/
def upL (L : Sq → Int) (p : Sq) (x : Int) : Sq → Int := fun q => if q = p then x else L q
/-- What the program keeps: no level is lower than the true one, and none rises. -/
structure Hi (D : List (List Int)) (L : Sq → Int) : Prop where
  down : ∀ p, inR D p → newL D L p ≤ L p
  top : ∀ p, inR D p → L p ≤ 9999
  most : ∀ G, SubL D G → (∀ p, inR D p → G p ≤ 9999) → ∀ p, inR D p → G p ≤ L p
theorem Hi.low {D : List (List Int)} {L : Sq → Int} (h : Hi D L) {p : Sq} (hp : inR D p) : hA D p ≤ L p := by
  have := h.down p hp
  unfold newL at this
  omega
theorem Hi.step {D : List (List Int)} {L : Sq → Int} (h : Hi D L) {p : Sq} (hp : inR D p) : Hi D (upL L p (newL D L p)) := by
  have hle : ∀ q, inR D q → upL L p (newL D L p) q ≤ L q := fun q hq => by
    unfold upL
    split
    · rename_i e; subst e; exact h.down _ hq
    · exact Int.le_refl _
  refine ⟨fun q hq => ?_, fun q hq => Int.le_trans (hle q hq) (h.top q hq), fun G hG ht q hq => ?_⟩
  · have h1 := newL_mono hq hle
    have h2 := h.down q hq
    show _ ≤ if q = p then newL D L p else L q
    split
    · rename_i e; subst e; exact h1
    · omega
  · show _ ≤ if q = p then newL D L p else L q
    split
    · rename_i e; subst e; exact sub_new hG ht (h.most G hG ht) hq
    · exact h.most G hG ht q hq
theorem Hi.done {D : List (List Int)} (hD : RL D) {L : Sq → Int} (h : Hi D L) (hf : ∀ p, inR D p → newL D L p = L p) : IsLv D L := by
  refine ⟨⟨fun p hp he => ?_, fun p hp q hq => ?_⟩, fun p hp => h.low hp, h.top, h.most⟩
  · obtain ⟨_, _, _, _, h0, _⟩ := hD.at hp
    have := hf p hp
    unfold newL wayN at this
    rw [if_pos he] at this
    omega
  · obtain ⟨_, _, _, _, h0, _⟩ := hD.at hp
    have := hf p hp
    unfold newL wayN at this
    split at this
    · omega
    · have h2 := (fold_min L (nears D p) 9999).2.1 q hq
      unfold lowestN at this
      omega
theorem hi_start {D : List (List Int)} (hD : RL D) : Hi D (fun _ => 9999) := by
  refine ⟨fun p hp => ?_, fun p hp => Int.le_refl _, fun G hG ht p hp => ht p hp⟩
  obtain ⟨_, _, _, _, _, h1⟩ := hD.at hp
  unfold newL wayN
  split
  · omega
  · have := lowestN_bd (fun _ => 9999) (nears D p) (by intro q _; show (0 : Int) ≤ 9999; omega)
    omega
/-- All squares lowered, one after another. -/
def passL (D : List (List Int)) (l : List Sq) (L : Sq → Int) : Sq → Int := l.foldl (fun M p => upL M p (newL D M p)) L
theorem passL_snoc (D : List (List Int)) (l : List Sq) (p : Sq) (L : Sq → Int) : passL D (l ++ [p]) L = upL (passL D l L) p (newL D (passL D l L) p) := by simp [passL]
theorem pass_hi {D : List (List Int)} : ∀ (l : List Sq), (∀ p ∈ l, inR D p) → ∀ L, Hi D L → Hi D (passL D l L) := by
  intro l
  induction l with
  | nil => intro _ L h; exact h
  | cons x l ih =>
    intro hl L h
    unfold passL at *
    rw [List.foldl_cons]
    exact ih (fun p hp => hl p (List.mem_cons_of_mem _ hp)) _ (h.step (hl x (by simp)))
theorem pass_le {D : List (List Int)} : ∀ (l : List Sq), (∀ p ∈ l, inR D p) → ∀ L, Hi D L → ∀ q, inR D q → passL D l L q ≤ L q := by
  intro l
  induction l with
  | nil => intro _ L h q _; exact Int.le_refl _
  | cons x l ih =>
    intro hl L h q hq
    have hx := hl x (by simp)
    have h1 := ih (fun p hp => hl p (List.mem_cons_of_mem _ hp)) _ (h.step hx) q hq
    unfold passL at *
    rw [List.foldl_cons]
    have h2 : upL L x (newL D L x) q ≤ L q := by
      unfold upL
      split
      · rename_i e; subst e; exact h.down _ hq
      · exact Int.le_refl _
    omega
/-- A pass that leaves all as it was leaves the levels. -/
theorem pass_same {D : List (List Int)} : ∀ (l : List Sq), (∀ p ∈ l, inR D p) → ∀ L, Hi D L → (∀ q, inR D q → passL D l L q = L q) → ∀ p ∈ l, newL D L p = L p := by
  intro l
  induction l with
  | nil => intro _ L h _ p hp; cases hp
  | cons x l ih =>
    intro hl L h he p hp
    have hx := hl x (by simp)
    have hs := h.step hx
    have hl2 : ∀ p ∈ l, inR D p := fun p hp => hl p (List.mem_cons_of_mem _ hp)
    have h1 := pass_le l hl2 _ hs
    have hup : upL L x (newL D L x) = L := by
      funext q
      unfold upL
      split
      · rename_i e
        subst e
        have a := h1 q hx
        have b := he q hx
        unfold passL at a b
        rw [List.foldl_cons] at b
        have c := h.down q hx
        have : upL L q (newL D L q) q = newL D L q := by unfold upL; rw [if_pos rfl]
        omega
      · rfl
    have hnew : newL D L x = L x := by
      have := congrFun hup x
      unfold upL at this
      rwa [if_pos rfl] at this
    rcases List.mem_cons.1 hp with rfl | hp
    · exact hnew
    · refine ih hl2 L h (fun q hq => ?_) p hp
      have := he q hq
      unfold passL at this ⊢
      rw [List.foldl_cons, hup] at this
      exact this
/-- Their sum. -/
def sumN (L : Sq → Int) (l : List Sq) : Nat := (l.map fun p => (L p).toNat).sum
theorem sumN_le {L M : Sq → Int} : ∀ l : List Sq, (∀ q ∈ l, M q ≤ L q) → sumN M l ≤ sumN L l := by
  intro l
  induction l with
  | nil => intro _; exact Nat.le_refl _
  | cons x l ih =>
    intro h
    have h1 := ih fun q hq => h q (List.mem_cons_of_mem _ hq)
    have h2 := h x (by simp)
    simp only [sumN, List.map_cons, List.sum_cons] at *
    omega
theorem sumN_lt {L M : Sq → Int} : ∀ l : List Sq, (∀ q ∈ l, M q ≤ L q) → (∀ q ∈ l, 0 ≤ M q) → (∃ q ∈ l, M q ≠ L q) → sumN M l < sumN L l := by
  intro l
  induction l with
  | nil => rintro _ _ ⟨q, hq, _⟩; cases hq
  | cons x l ih =>
    rintro h h0 ⟨q, hq, hne⟩
    have h1 := sumN_le l fun q hq => h q (List.mem_cons_of_mem _ hq)
    have h2 := h x (by simp)
    have h3 := h0 x (by simp)
    rcases List.mem_cons.1 hq with rfl | hq
    · simp only [sumN, List.map_cons, List.sum_cons] at *
      omega
    · have := ih (fun q hq => h q (List.mem_cons_of_mem _ hq)) (fun q hq => h0 q (List.mem_cons_of_mem _ hq)) ⟨q, hq, hne⟩
      simp only [sumN, List.map_cons, List.sum_cons] at *
      omega
theorem Hi.nn {D : List (List Int)} (hD : RL D) {L : Sq → Int} (h : Hi D L) {p : Sq} (hp : inR D p) : 0 ≤ L p := by
  obtain ⟨_, _, _, _, h0, _⟩ := hD.at hp
  have := h.low hp
  omega
/-- Either the pass has left all as it was, and these are the levels, or the sum is less. -/
theorem pass_or {D : List (List Int)} (hD : RL D) {L : Sq → Int} (h : Hi D L) : ((∀ q, inR D q → passL D (sqs D) L q = L q) ∧ IsLv D L) ∨ ((∃ q, inR D q ∧ passL D (sqs D) L q ≠ L q) ∧ sumN (passL D (sqs D) L) (sqs D) < sumN L (sqs D)) := by
  have hin : ∀ p ∈ sqs D, inR D p := fun p hp => mem_sqs.1 hp
  by_cases hs : ∀ q, inR D q → passL D (sqs D) L q = L q
  · exact .inl ⟨hs, h.done hD fun p hp => pass_same (sqs D) hin L h hs p (mem_sqs.2 hp)⟩
  · have ⟨q, hq⟩ := Classical.not_forall.1 hs
    have hq1 : inR D q ∧ passL D (sqs D) L q ≠ L q := by
      refine ⟨Classical.byContradiction fun hn => hq fun h => absurd h hn, fun e => hq fun _ => e⟩
    refine .inr ⟨⟨q, hq1⟩, sumN_lt _ (fun q hq => pass_le _ hin L h q (hin q hq)) (fun q hq => (pass_hi _ hin L h).nn hD (hin q hq)) ⟨q, mem_sqs.2 hq1.1, hq1.2⟩⟩
/-- The levels: passes until nothing falls any more. -/
def levN (D : List (List Int)) : Nat → (Sq → Int) → (Sq → Int)
  | 0, L => L
  | k + 1, L => levN D k (passL D (sqs D) L)
def lev (D : List (List Int)) : Sq → Int := levN D (sumN (fun _ => 9999) (sqs D)) (fun _ => 9999)
theorem IsLv.congr {D : List (List Int)} {L M : Sq → Int} (h : IsLv D L) (e : ∀ q, inR D q → M q = L q) : IsLv D M := by
  refine ⟨⟨fun p hp he => by rw [e p hp]; exact h.sub.edge p hp he, fun p hp q hq => by rw [e p hp, e q (nears_in hp hq)]; exact h.sub.near p hp q hq⟩, fun p hp => by rw [e p hp]; exact h.low p hp, fun p hp => by rw [e p hp]; exact h.top p hp, fun G hG ht p hp => by rw [e p hp]; exact h.most G hG ht p hp⟩
theorem IsLv.fix {D : List (List Int)} {L : Sq → Int} (h : IsLv D L) (hh : Hi D L) : ∀ q, inR D q → passL D (sqs D) L q = L q := by
  have hin : ∀ p ∈ sqs D, inR D p := fun p hp => mem_sqs.1 hp
  intro q hq
  have h1 := pass_le _ hin L hh q hq
  have h2 := (pass_hi _ hin L hh).most L h.sub h.top q hq
  omega
theorem levN_is {D : List (List Int)} (hD : RL D) : ∀ (k : Nat) (L : Sq → Int), Hi D L → (IsLv D L ∨ sumN L (sqs D) ≤ k) → IsLv D (levN D k L) := by
  have hin : ∀ p ∈ sqs D, inR D p := fun p hp => mem_sqs.1 hp
  intro k
  induction k with
  | zero =>
    intro L h hk
    rcases hk with hk | hk
    · exact hk
    · rcases pass_or hD h with ⟨_, h2⟩ | ⟨_, h2⟩
      · exact h2
      · omega
  | succ k ih =>
    intro L h hk
    refine ih _ (pass_hi _ hin L h) ?_
    rcases hk with hk | hk
    · exact .inl (hk.congr (hk.fix h))
    · rcases pass_or hD h with ⟨h1, h2⟩ | ⟨_, h2⟩
      · exact .inl (h2.congr h1)
      · exact .inr (by omega)
theorem lev_is {D : List (List Int)} (hD : RL D) : IsLv D (lev D) := levN_is hD _ _ (hi_start hD) (.inr (Nat.le_refl _))
theorem lev_eq {D : List (List Int)} (hD : RL D) {L : Sq → Int} (h : IsLv D L) {p : Sq} (hp : inR D p) : L p = lev D p := h.one (lev_is hD) hp
/-- What the model keeps: at the edge the height, elsewhere no number is lower than the true one. -/
structure Md (D : List (List Int)) (L : Sq → Int) : Prop where
  low : ∀ p, inR D p → hA D p ≤ L p
  high : ∀ p, inR D p → L p ≤ 10000
  edge : ∀ p, inR D p → (nears D p).length < 4 → L p = hA D p
  most : ∀ G, SubL D G → (∀ p, inR D p → G p ≤ 9999) → ∀ p, inR D p → G p ≤ L p
theorem md_start {D : List (List Int)} (hD : RL D) : Md D (fun p => if (nears D p).length < 4 then hA D p else 10000) := by
  refine ⟨fun p hp => ?_, fun p hp => ?_, fun p hp he => ?_, fun G hG ht p hp => ?_⟩
  · obtain ⟨_, _, _, _, h0, h1⟩ := hD.at hp
    split <;> omega
  · obtain ⟨_, _, _, _, h0, h1⟩ := hD.at hp
    split <;> omega
  · rw [if_pos he]
  · split
    · rename_i he; exact hG.edge p hp he
    · have := ht p hp; omega
theorem Md.step {D : List (List Int)} {L : Sq → Int} (h : Md D L) {p q : Sq} (hp : inR D p) (hq : q ∈ nears D p) (hlt : max (hA D p) (L q) < L p) : Md D (upL L p (max (hA D p) (L q))) := by
  have hpe : ¬ (nears D p).length < 4 := fun he => by have := h.edge p hp he; omega
  refine ⟨fun r hr => ?_, fun r hr => ?_, fun r hr he => ?_, fun G hG ht r hr => ?_⟩
  · unfold upL; split
    · rename_i e; subst e; omega
    · exact h.low r hr
  · have := h.high p hp
    unfold upL; split
    · rename_i e; subst e; omega
    · exact h.high r hr
  · unfold upL; split
    · rename_i e; subst e; exact absurd he hpe
    · exact h.edge r hr he
  · unfold upL; split
    · rename_i e; subst e
      have h1 := hG.near r hr q hq
      have h2 := h.most G hG ht q (nears_in hr hq)
      omega
    · exact h.most G hG ht r hr
theorem Md.done {D : List (List Int)} (hD : RL D) {L : Sq → Int} (h : Md D L) (hf : ∀ p, inR D p → ∀ q ∈ nears D p, L p ≤ max (hA D p) (L q)) : IsLv D L := by
  have ht : ∀ r c, inR D (r, c) → L (r, c) ≤ 9999 := by
    intro r
    induction r with
    | zero =>
      intro c hp
      have he : (nears D (0, c)).length < 4 := by
        unfold nears
        simp only [List.length_append]
        rw [if_neg (by omega)]
        repeat' split
        all_goals simp
      have := h.edge _ hp he
      obtain ⟨_, _, _, _, _, h1⟩ := hD.at hp
      omega
    | succ r ih =>
      intro c hp
      have hn : (r, c) ∈ nears D (r + 1, c) := by
        unfold nears
        rw [if_pos (by simp only []; omega)]
        simp
      have h1 := hf _ hp _ hn
      have h2 := ih c (nears_in hp hn)
      obtain ⟨_, _, _, _, _, h3⟩ := hD.at hp
      omega
  exact ⟨⟨fun p hp he => by have := h.edge p hp he; omega, hf⟩, h.low, fun p hp => ht p.1 p.2 hp, h.most⟩
end Go.Proofs.Ytodjgeffkfbpiaa
