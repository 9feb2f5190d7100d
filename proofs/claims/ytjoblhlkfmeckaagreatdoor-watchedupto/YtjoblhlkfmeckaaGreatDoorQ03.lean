import Derived.Test.YtjoblhlkfmeckaaGreatDoorHWait
import Derived.Test.YtjoblhlkfmeckaaGreatDoorQ01
import Derived.Conc.CompanyMem
import Derived.Conc.Holds
import Derived.JoinedCond
import Derived.Laws.Sem
set_option linter.unusedVariables false
set_option linter.unusedSimpArgs false
open Go renaming World → qq,Value → tj,Program → me,TypeId → s8,Addr → zu,Goroutine → gq,Frame → qg,FuncId → du,Event → p6,unsupported → ux,undef → yj
open Option renaming some → lp,none → od
open Go.Conc renaming stepG_region_end → we,stepG_seq → mr,AtRel → cu,atRel_trans → c8,atRel_refl → ur,stepG_skip → rp
open Bool renaming true → s7,false → vp
open Go.Sem renaming run → nu,runT → qx,store → zt,runT_eq → lk
open Go.World renaming cell? → q7,shape? → vo,freeze → py
open Go.Frame renaming enter → bz
open Go.Conc.Goes renaming stop → gx
open Array renaming append_assoc → dr
open Go.Builtin renaming firstCells → aj
open Classical renaming not_imp → se
open Go.Instr renaming sliceBounds → lj
open Go.GStep renaming after → fw
open Or renaming inl → af,inr → o5
theorem Cyv{p q:Prop}(k:q)(h:Hd q->p:=by
 intro kz
 refine Out.step (w₁:=w) (v₁:=v) (n:=0) (by simp only [Sem.run,hv,dead];rw [hko];rfl) (by simp only [Sem.runT,ho,push_append]) hev (by simp only [Fu,ho];rfl) (aA _) (fun _ _=>rfl) rfl rfl rfl rfl (Ed.refl _) (ih _ _ w v _ (h.1 _) hA' hs ?_)
 exact kz.1):p:=h ⟨k⟩
theorem Sek{p:Prop}(h:p:=by
 obtain⟨h',v',hr,Es⟩:=Ej.run _ v (hd ⟨0,0,some 0⟩ 0) hs.plain
 exact .bad h' v' (by simp only [Sem.run,hv,dead];exact hr) Es):p:=h
theorem Vt5{p:Prop}(h:p:=by
 rw [Dk]
 simp only [stepG.apply,Sem.runT_eq,hv,bC]
 rfl):p:=h
theorem Wie{p:Prop}(h:p:=by
 split <;> first|exact T.pure _|exact T.stuck _):p:=h
namespace Go.Pair
open Go Go.Conc Go.ConcX.Gen Go.RowKit Go.Conc.Lib
section
variable {P:me} {L:WgLink}
variable (P) (Wg:Nat) (ty:s8) (Ret:gq)
def PEn(g:gq)(w:qq):Prop:=g.status=.running/\∃g',stepG P s7 g w=.go g' w #[Pt .enable]/\∃n,Goes P s7 cu D0 (fun g _=>g=Ret) n g' w
def PRd(g:gq)(w:qq):Prop:=g.status=.running/\∃g',stepG P s7 g w=.go g' w #[Pt (.read (Yi Wg))]/\∃n,Goes P s7 cu D0 (PEn P Ret) n g' w
def PAd(g:gq)(w:qq):Prop:=g.status=.running/\∃g',stepG P s7 g w=.go g' (w.setCell (Gq Wg) (.int .u64 KK)) #[Yh (Gq Wg),QY (Gq Wg)]/\∃n,Goes P s7 cu D0 (PRd P Wg Ret) n g' (w.setCell (Gq Wg) (.int .u64 KK))
def PDi(g:gq)(w:qq):Prop:=g.status=.running/\∃g',stepG P s7 g w=.go g' w #[Pt .disable]/\∃n,Goes P s7 cu D0 (PAd P Wg Ret) n g' w
end
theorem A2{ty:s8}{Wg:Nat}{st sm:Int}{w w₁:qq}(h:D3 ty Wg w st sm)(r:cu w w₁):D3 ty Wg w₁ st sm:=by
 obtain⟨d,rfl⟩:=r
 exact h
set_option maxRecDepth 100000 in
set_option maxHeartbeats 4000000 in
theorem LP{P:me}{L:WgLink}(H:WgLib P L){Wg:Nat}{b₀:qg}{a₀:Act}{ops₀:Array Oper}{i₀:Nat}{rest₀:List Nat}{k₀:List Item}{cs:List qg}(w:qq)(hF:D3 L.tWg Wg w 0 0) :
  Goes P s7 cu D0 (PDi P Wg (G (b₀.at (a₀.put ((ops₀[i₀]?).bind (·.dst)) (.tuple #[])) (.inRegion ops₀ rest₀ :: k₀)) cs)) 100 (G ((base L.add).at ⟨#[.pointer (lp ⟨Wg,0,od⟩),.int .i64 1]++Array.replicate 115 yj,[]⟩ [.code (Mg L)]) (b₀.at a₀ (.inRegion ops₀ (i₀ :: rest₀) :: k₀) :: cs)) w:=by
 lib_facts
 simp only [Mg,addFn,aN,bT,bZ,cG,cB,aP,bK]
 have wgc:∀{w:qq} {st sm:Int},D3 L.tWg Wg w st sm->w.cell? ⟨Wg,0,od⟩=lp (.int .u64 st)/\w.frozen? ⟨Wg,0,od⟩=vp/\w.cell? ⟨Wg,1,od⟩=lp (.int .u32 sm)/\w.frozen? ⟨Wg,1,od⟩=vp:=fun h=>by
  unfold D3 at h
  simp [q7,World.frozen?,KY,h]
 u_c mr A2 hF
 u_cond s7 A2 hF
 u_c mr A2 hF
 u_c mr A2 hF
 u_reg A2 hF
 u_op A2 hF
 u_op A2 hF
 u_c we A2 hF
 u_cond vp A2 hF
 u_c rp A2 hF
 u_c mr A2 hF
 u_reg A2 hF
 refine gx (fun w₁ h₁=>?_)
 replace hF:=A2 hF h₁
 clear h₁
 refine⟨rfl,_,stepG_mark0 .disable Ae rfl rfl (by k_ne) rfl H.f_disable (x_disable_n L) (x_disable_b L) (x_disable_x L) (x_disable_f L),100,?_⟩
 walk_nrm
 u_c we A2 hF
 u_reg A2 hF
 u_defer A2 hF
 u_c we A2 hF
 u_c mr A2 hF
 u_reg A2 hF
 u_op A2 hF
 u_c we A2 hF
 u_c mr A2 hF
 u_c mr A2 hF
 u_reg A2 hF
 u_bub A2 hF
 u_c we A2 hF
 u_cond vp A2 hF
 u_c rp A2 hF
 u_c mr A2 hF
 u_reg A2 hF
 u_op A2 hF
 u_op A2 hF
 u_op A2 hF
 u_op A2 hF
 u_op A2 hF
 u_op A2 hF
 u_call H.f_uAdd (nm_uAdd L) uAddFn A2 hF
 u_c mr A2 hF
 u_reg A2 hF
 u_op A2 hF
 u_c we A2 hF
 u_c mr A2 hF
 u_reg A2 hF
 u_op A2 hF
 u_op A2 hF
 u_op A2 hF
 u_op A2 hF
 refine gx (fun w₁ h₁=>?_)
 replace hF:=A2 hF h₁
 clear h₁
 have e0:IntKind.u64.wrap (0+4294967296)=KK:=Ad
 refine⟨rfl,_,(stepG_add_atomic rfl rfl (by k_ne) rfl H.f_addU64 (x_addU64_n L) (x_addU64_b L) (x_addU64_x L) .u64 (x_addU64_f L) rfl rfl (wgc hF).1 (wgc hF).2.1).trans (by rw [e0];rfl),200,?_⟩
 replace hF:D3 L.tWg Wg (w₁.setCell (Gq Wg) (.int .u64 KK)) KK 0:=Jp hF KK
 unfold KK at hF ⊢
 walk_nrm
 u_op A2 hF
 u_c we A2 hF
 u_c stepG_ret' A2 hF
 u_leave1 H.f_uAdd A2 hF
 u_op A2 hF
 u_c we A2 hF
 u_c mr A2 hF
 u_c mr A2 hF
 u_reg A2 hF
 u_op A2 hF
 u_op A2 hF
 u_op A2 hF
 u_op A2 hF
 u_skip A2 hF
 u_skip A2 hF
 u_op A2 hF
 u_c we A2 hF
 u_cond vp A2 hF
 u_c rp A2 hF
 u_c mr A2 hF
 u_reg A2 hF
 u_op A2 hF
 u_op A2 hF
 u_op A2 hF
 u_op A2 hF
 u_c we A2 hF
 u_c mr A2 hF
 u_reg A2 hF
 u_op A2 hF
 u_op A2 hF
 u_op A2 hF
 u_op A2 hF
 u_c we A2 hF
 u_c mr A2 hF
 u_c mr A2 hF
 u_reg A2 hF
 u_op A2 hF
 u_op A2 hF
 u_op A2 hF
 u_op A2 hF
 u_op A2 hF
 u_op A2 hF
 u_op A2 hF
 u_op A2 hF
 u_op A2 hF
 u_op A2 hF
 u_c we A2 hF
 u_cond s7 A2 hF
 u_reg A2 hF
 u_op A2 hF
 u_op A2 hF
 u_op A2 hF
 u_in A2 hF
 refine goes_oper_k rfl rfl (by k_ne) (fun Kx hKx=>?_)
 have hcv:=run_convert_to_unsafe (P:=P) H.underlying_tPU32 H.underlying_tUP H.room_tU32 (wgc hF).2.2.1
 have hce:=fun es=>events_convert_to_unsafe (P:=P) H.underlying_tPU32 H.underlying_tUP H.room_tU32 (wgc hF).2.2.1 es
 go_simp
 refine hKx _ _ ⟨?_,?_⟩
 ·exact Xz3
 clear hKx Kx hcv hce
 refine gx (fun w₂ h₂=>?_)
 replace hF:=A2 hF h₂
 clear h₂
 refine⟨rfl,_,stepG_markAt .read Ae rfl rfl (by k_ne) rfl H.f_raceRead (x_raceRead_n L) (x_raceRead_b L) (x_raceRead_x L) (x_raceRead_f L) (by simp [Act.eval,Yi]),100,?_⟩
 walk_nrm
 u_c we A2 hF
 u_c mr A2 hF
 u_c mr A2 hF
 u_reg A2 hF
 u_op A2 hF
 u_op A2 hF
 u_c we A2 hF
 u_cond vp A2 hF
 u_c rp A2 hF
 u_c mr A2 hF
 u_c mr A2 hF
 u_reg A2 hF
 u_op A2 hF
 u_op A2 hF
 u_op A2 hF
 u_skip A2 hF
 u_skip A2 hF
 u_op A2 hF
 u_op A2 hF
 u_skip A2 hF
 u_skip A2 hF
 u_skip A2 hF
 u_skip A2 hF
 u_op A2 hF
 u_c we A2 hF
 u_cond vp A2 hF
 u_c rp A2 hF
 u_c mr A2 hF
 u_c mr A2 hF
 u_reg A2 hF
 u_op A2 hF
 u_op A2 hF
 u_op A2 hF
 u_skip A2 hF
 u_skip A2 hF
 u_op A2 hF
 u_c we A2 hF
 u_cond s7 A2 hF
 u_c stepG_ret' A2 hF
 refine gx (fun w₃ h₃=>?_)
 refine⟨rfl,_,stepG_unwind_entry (v:=.tuple #[]) (evs:=#[Pt .enable]) rfl H.f_enable (x_enable_n L) (x_enable_b L) (x_enable_x L) (x_enable_f L) (by simp [Extern.Race.none_]) (by simp [Pt]) (fun x hx=>by simp at hx;subst hx;simp [Pt]),20,?_⟩
 have hN:True:=trivial
 clear hF h₃
 u_leave0 H.f_add (fun(h:True) (_:cu _ _)=>h) hN
 exact gx (fun _ _=>rfl)
theorem Ends.goesA{P:me}{Post:tj->qq->Prop}{Shun:Loc->Prop}{d:Nat}{Stop:gq->qq->Prop}{w₀:qq}(hS:∀g w,cu w₀ w->(∀w₁,cu w w₁->Stop g w₁)->Ends P Post Shun d g w) :
  ∀{n:Nat} {g:gq} {w:qq},cu w₀ w->Goes P s7 cu D0 Stop n g w->Ends P Post Shun d g w
 | 0,g,w,h0,h=>hS g w h0 h
 | n+1,g,w,h0,h=>by
  rcases h with h|⟨hs,h⟩
  ·exact hS g w h0 h
  ·refine Ends.step hs fun k=>?_
   have:=h (w.at k) ⟨k,rfl⟩
   obtain⟨g',w',es,e,⟨rfl,rfl⟩,hg⟩:=goes_elim this
   exact⟨g',w.at k,#[],e,aA _,Ae,Ends.goesA hS (c8 _ _ _ h0 ⟨k,rfl⟩) hg⟩
section
variable {P:me} {Post:tj->qq->Prop} {Shun:Loc->Prop} {Wg:Nat} {Ret:gq} {g:gq} {w:qq}
theorem Zd{B:Nat}{m:Mark}(h:(MemAct.mark m).touch? = od)(hl:(MemAct.mark m).low B):EvD Shun B (Pt m):=⟨(fun x hx=>by rw [Ku,h] at hx;cases hx),hl⟩
theorem NI{B:Nat}{a:zu}{wr:Bool}(h:a.block<B):EvD Shun B ⟨.cell a,wr,s7⟩:=⟨fun x hx _=>by
 simp only [Kc,MemAct.touch?,aL] at hx
 subst hx
 simp,h⟩
theorem SX(hR:∀w',cu w w'->Ends P Post Shun 0 Ret w')(h:∀w₁,cu w w₁->PEn P Ret g w₁):Ends P Post Shun 1 g w:=by
 refine Ends.step (h w (ur w)).1 fun n=>?_
 obtain⟨_,g',hs,m,hG⟩:=h (w.at n) ⟨n,rfl⟩
 refine⟨g',w.at n,_,hs,aA _,fun e he=>?_,?_⟩
 ·simp at he
  subst he
  exact Zd rfl trivial
 ·exact Ends.goesA (w₀:=w) (fun g w' h0 Dk=>by rw [Dk w' (ur w')];exact hR w' h0) ⟨n,rfl⟩ hG
theorem SY(hW:Wg<w.heap.size)(hR:∀w',cu w w'->Ends P Post Shun 0 Ret w')(h:∀w₁,cu w w₁->PRd P Wg Ret g w₁):Ends P Post Shun 1 g w:=by
 refine Ends.step (h w (ur w)).1 fun n=>?_
 obtain⟨_,g',hs,m,hG⟩:=h (w.at n) ⟨n,rfl⟩
 refine⟨g',w.at n,_,hs,aA _,fun e he=>?_,?_⟩
 ·simp at he
  subst he
  refine⟨fun x hx _=>?_,hW⟩
  simp only [Ku,MemAct.touch?,aL] at hx
  subst hx
  simp
 ·exact Ends.goesA (w₀:=w) (fun g w' h0 Dk=>SX (fun Hx h''=>hR Hx (c8 _ _ _ h0 h'')) Dk) ⟨n,rfl⟩ hG
theorem Zc(hW:Wg<w.heap.size)(hR:∀w',cu (w.setCell (Gq Wg) (.int .u64 KK)) w'->Ends P Post Shun 0 Ret w'){n:Nat}(h:Goes P s7 cu D0 (PDi P Wg Ret) n g w):Ends P Post Shun 0 g w:=by
 refine Ends.goesA (w₀:=w) (fun g w' h0 Dk=>?_) (ur w) h
 obtain⟨d0,rfl⟩:=h0
 refine Ends.step (Dk _ (ur _)).1 fun n=>?_
 obtain⟨_,g',hs,m,hG⟩:=Dk _ ⟨n,rfl⟩
 refine⟨g',_,_,hs,aA _,fun e he=>?_,?_⟩
 ·simp at he
  subst he
  exact Zd rfl trivial
 ·refine Ends.goesA (w₀:=w) (d:=1) (fun g w' h0 Dk=>?_) ⟨n,rfl⟩ hG
  obtain⟨d1,rfl⟩:=h0
  refine Ends.step (Dk _ (ur _)).1 fun n=>?_
  obtain⟨_,g',hs,m,hG⟩:=Dk _ ⟨n,rfl⟩
  refine⟨g',_,_,hs,by rw [Hj];exact aA _,fun e he=>?_,?_⟩
  ·simp at he
   rcases he with rfl|rfl
   ·exact NI (by rw [Hj];exact hW)
   ·exact NI (by rw [Hj];exact hW)
  ·refine Ends.goesA (w₀:=w.setCell (Gq Wg) (.int .u64 KK)) (d:=1) (fun g w' h0 Dk=>?_) ⟨n,rfl⟩ hG
   refine SY (w:=w') ?_ (fun Hx h''=>hR Hx (c8 _ _ _ h0 h'')) Dk
   obtain⟨d2,rfl⟩:=h0
   show Wg<(w.setCell _ _).heap.size
   rw [Hj];exact hW
end
def DS(Shun:Loc->Prop)(w w':qq)(es:Array p6):Prop:=w.heap.size<=w'.heap.size/\(∀e∈es,EvL Shun w'.heap.size e)/\Ed w w'
theorem Ln(Shun:Loc->Prop):Terms cu (DS Shun):=⟨c8,fun w=>⟨aA _,Ae,rfl,rfl⟩⟩
def EA(P:me)(Post:tj->qq->Prop)(Shun:Loc->Prop)(g:gq)(w:qq):Prop:=∀d,Ends P (fun v w'=>Ed w w'/\Post v w') Shun 0 g (w.at d)
theorem Ends.mono{P:me}{Post Post':tj->qq->Prop}{Shun:Loc->Prop}{d:Nat}{g:gq}{w:qq}(hP:∀v w',Post v w'->Post' v w')(h:Ends P Post Shun d g w):Ends P Post' Shun d g w:=by
 intro gs sl t q h0 hL hT
 obtain⟨N,last,o,w',t',r1,r2,r3,v,rfl,hp,rest⟩:=h gs sl t q h0 hL hT
 exact⟨N,last,_,w',t',r1,r2,r3,v,rfl,hP _ _ hp,rest⟩
section
variable {P:me} {Post:tj->qq->Prop} {Shun:Loc->Prop} {g g':gq} {w w':qq} {n:Nat}
theorem EA.ends(h:EA P Post Shun g w):Ends P (fun v w'=>Ed w w'/\Post v w') Shun 0 g w:=h w.drawn
theorem EA.from(h:EA P Post Shun g w')(s:Ed w w'):Ends P (fun v w'=>Ed w w'/\Post v w') Shun 0 g w':=h.ends.mono fun _ _ x=>⟨s.trans x.1,x.2⟩
theorem EA.rel(h:EA P Post Shun g w)(r:cu w w'):EA P Post Shun g w':=by
 obtain⟨d,rfl⟩:=r
 exact fun d'=>h d'
theorem EA.goes(h:Goes P s7 cu (DS Shun) (EA P Post Shun) n g w):EA P Post Shun g w:=fun d=>
 Ends.goes (D:=DS Shun) (Stop:=fun g w'=>Ed w w'/\EA P Post Shun g w') (fun _ _ _ h=>⟨h.1,h.2.1⟩) (fun _ _ h=>h.2.from h.1)
  (V8 (I:=fun w'=>Ed w w') (fun _ _ r=>r) (fun _ _ r hI=>by obtain⟨e,rfl⟩:=r;exact hI) (fun _ _ _ h=>h) (fun _ _ _ h hI=>hI.trans h.2.2) (fun _ _ hI h=>⟨hI,h⟩) ⟨rfl,rfl⟩ (Goes.rely (R:=cu) c8 h ⟨d,rfl⟩))
theorem EA.stop(h:EA P Post Shun g w):Goes P s7 cu (DS Shun) (EA P Post Shun) n g w:=gx fun _ r=>h.rel r
theorem evL_cell{B:Nat}{a:zu}{wr:Bool}(hs:¬Shun (.cell a))(hb:a.block<B):EvL Shun B ⟨.cell a,wr,vp⟩:=by
 refine⟨fun x hx hsx=>?_,Ae,Ae,?_⟩
 ·cases wr <;> simp [MemAct.ofEvent,MemAct.touch?] at hx <;> subst hx <;> exact absurd hsx hs
 ·cases wr <;> exact hb
def Pc(P:me)(Post:tj->qq->Prop)(f:du)(args:Array tj)(Shun:Loc->Prop)(w:qq)(Cd:tj->qq->(Loc->Prop)->Prop):Prop:=
 ∃fn c,P.funcs[f]? = lp fn∧(fn.name == "runtime.NumGoroutine")=vp∧fn.body=lp c∧∀(fr:qg) (cs:List qg),(∀v w' Shun',Cd v w' Shun'→EA P Post Shun' (G (fr.finish v) cs) w') →
  EA P Post Shun (G ((base f).at { tmps:=args++Array.replicate (fn.ntmps - args.size) yj,defers:=[] } [.code c]) (fr :: cs)) w
theorem CR{b:qg}{a:Act}{k:List Item}{cs:List qg}{ops:Array Oper}{i:Nat}{rest:List Nat}{o:Oper}{f:du}{args:Array Operand}{ats:Array s8}{Cd:tj->qq->(Loc->Prop)->Prop}(ho:ops[i]? = lp o)(hw:Region.wanted o (yielded ops a.tmps)=s7)(hk:b.kind≠.early)(Bt:o.op=.call { callee:=.value (.func f),args,argTypes:=ats })(Gh:Pc P Post f (args.map a.eval) Shun w Cd)(Bo:∀v w' Shun',Cd v w' Shun'->EA P Post Shun' (G (b.at (a.put o.dst v) (.inRegion ops rest :: k)) cs) w') :
  Goes P s7 cu (DS Shun) (EA P Post Shun) 1 (G (b.at a (.inRegion ops (i :: rest) :: k)) cs) w:=by
 obtain⟨fn,c,hf,Fo,hbody,h⟩:=Gh
 refine Goes.step rfl fun w₁ r=>goes_call ho hw hk Bt hf Fo hbody ⟨(Ln Shun).idle _,?_⟩
 refine fun w₂ r₂=>(h _ _ fun v w' S q=>?_).rel (c8 _ _ _ r r₂)
 have Gw:∀v,(b.at a (.inRegion ops (i :: rest) :: k)).finish v=b.at (a.put o.dst v) (.inRegion ops rest :: k):=fun v=>by rw [Frame.finish_at,ho];rfl
 rw [Gw]
 exact Bo v w' S q
end
theorem EA.run{P:me}{Post:tj->qq->Prop}{g:gq}{w:qq}(h:EA P Post (fun _=>False) g w) :
  ∃N last o w' t',runNT P (N+1) (solo g w) #[]=(.ended o w',t')/\runN P N (solo g w)=.next last/\step P last=.ended o w'/\Conc.Good P (fun v w'=>Ed w w'/\Post v w') last o w' t':=by
 rw [solo_eq_crowd]
 refine h.ends #[g] od #[] (fun _=>0) rfl ⟨fun i x hi hx=>?_,fun j _=>rfl⟩ ((Iq.of past_nil).mono (cC _))
 rw [cA Ag] at hx
 cases hx
section
variable {H:Type} {enc:s8×tj->H}
end
theorem Mm{p:Pinned}{s:OpenSpec}{c:OpenClaim}(f:du)(fn:Func)(names:c.program=p.name/\c.sum=p.sum/\c.spec=s.name)(plain:c.start=.entering/\c.outside = []/\c.inits = []/\c.under=od/\c.noBlocks=vp/\c.followed=od/\c.still=vp)(hi4:c.initsInPlace = []/\c.initsUnfollowed=vp/\c.initsRecurse=vp/\c.initsNamed = []/\c.initsPassed = [])(hlv:c.leaving=s7)(hnar:c.narrowed=s.cond.isSome)(hfn:p.checked.prog.funcNamed c.func=lp f)(hf:p.checked.prog.funcs[f]? = lp fn)(closed:joinedFacts p.checked.prog f fn s.bare c=s7)(hinst:fn.isInstance p.checked.prog c.origin c.targs)(hwrap:fn.isWrapper p.checked.prog c.wrapper c.mainSum)(h:∀os:Os,os.Started->∀(H:Type) (enc:s8×tj->H),∀F:Stop.Interp,ReturnsInLeavingWide c.assume p.checked os f .any (c.pre enc p.checked.prog fn s) ((s.at F).post enc p.checked.prog fn c.apart c.fresh c.handsOn c.again)):c.holds p s:=by
 obtain⟨hn,hs,hsp⟩:=names
 obtain⟨hstart,hout,hin,hun,hnb,hfo,hstill⟩:=plain
 simp only [joinedFacts,bD,beq_iff_eq,dO,eN,decide_eq_true_eq] at closed
 obtain⟨⟨⟨⟨⟨⟨⟨⟨⟨⟨⟨⟨⟨⟨⟨⟨⟨⟨⟨⟨⟨⟨⟨⟨⟨⟨⟨⟨⟨⟨⟨k1,k2⟩,k3⟩,k4⟩,k5⟩,k6⟩,k7⟩,k8⟩,k9⟩,k10⟩,k11⟩,k12⟩,k13⟩,k14⟩,k15⟩,k16⟩,k17⟩,k17b⟩,k18⟩,k19⟩,k20⟩,k21⟩,k22⟩,k23⟩,k23b⟩,k24⟩,k24b⟩,k24c⟩,k25⟩,k26⟩,k27⟩,k28⟩:=closed
 have hq:∀os:Os,Stop.quiet p.checked.prog os:=fun os k hk=>by rw [k9] at hk;cases hk
 have hshort:c.shortTexts.isSome=vp:=by
  cases hx:c.shortTexts with
  | none=>rfl
  | some _=>rw [hx] at k23;cases k23
 have hworld:∀os,c.world os=os.Started:=fun os=>by unfold OpenClaim.world;rw [hout,hstart]
 refine⟨k1,hn,hs,hsp,k2,k3,?_,?_,f,fn,hfn,hf,⟨k4,k19⟩,fun hb=>absurd (hnb.symm.trans hb) Ad,?_,hinst,hwrap,k6.trans k7.symm,⟨k8.trans k9.symm,?_,k23b⟩,k10,k11,k12,k13,k14,⟨k15,k27,k28⟩,⟨k16,k20⟩,⟨k17,k21,k25,k26⟩,⟨k22,k24b,k24c,k17b⟩,?_,fun n hn'=>varReadable_some (k18 n hn'),⟨_,(hworld _).symm▸WideRow.started_initial,hq _⟩,[],?_,fun os st _ H enc _=>?_⟩
 ·unfold OpenClaim.startFits;rw [hstart];exact k24
 ·unfold OpenClaim.startTold;rw [hstart];exact⟨hin,hun,hi4⟩
 ·unfold OpenClaim.namedList;rw [hfo];exact k5
 ·unfold Program.envWorded;rw [k9];rfl
 ·rw [hout,hnar,hshort];simp
 ·unfold OpenClaim.lists;rw [hfo]
 rw [hworld] at st
 rw [OpenClaim.post_not_still hstill]
 unfold OpenClaim.form
 rw [hstart,k6]
 intro F
 have e1:c.okInput=Input.okWide:=by unfold OpenClaim.okInput;rw [hnb]
 have e2:c.atReturn p.checked.prog=leavingAtReturn p.checked.prog:=by unfold OpenClaim.atReturn;rw [hlv]
 have e3:c.always p.checked.prog []=nothingAlways:=by unfold OpenClaim.always;rw [hfo]
 have e4:s.post enc p.checked.prog fn F c.outside c.apart c.fresh c.handsOn c.again=(s.at F).post enc p.checked.prog fn c.apart c.fresh c.handsOn c.again:=by rw [hout];rfl
 rw [e1,e2,e3]
 show ReturnsInOpen _ _ _ _ _ _ _ _ (s.post enc p.checked.prog fn F c.outside c.apart c.fresh c.handsOn c.again) _ _
 rw [e4]
 exact h os st H enc F k24
def VL:Halt->Prop
 | .stuck _=>True
 | .unsupported (.initOrder _)=>False
 | .unsupported _=>True
 | _=>False
def RQ:Mark->Prop
 | .noRoom=>True
 | .extern _=>True
 | _=>False
def dead:Obj:=.view ⟨0,0,lp 0⟩ 0
def CS(o:Obj):Prop:=B7 o/\o.isChan=vp/\kindOf o=od
def Ej{α:Type}(P:me)(R:α->Prop):Sem α->Prop
 | .pure a=>R a
 | .load _ _ k=>∀v,Ej P R (k v)
 | .store _ _ _ k=>Ej P R k
 | .new o k=>B7 o/\∀r,Ej P R (k r)
 | .shape _ k=>∀x,Ej P R (k x)
 | .freeze _ _ k=>Ej P R k
 | .frozen _ k=>∀x,Ej P R (k x)
 | .getObj _ k=>∀o,Ej P R (k o)
 | .setObj _ o k=>B7 o/\Ej P R k
 | .choose _ k=>∀n,Ej P R (k n)
 | .sys _ _=>False
 | .program k=>Ej P R (k P)
 | .mark _ k=>Ej P R k
 | .halt h=>VL h
def Ev{α:Type}(P:me)(Q:α->Prop):Sem α->(Nat->Prop)->Prop
 | .pure a,_=>Q a
 | .load _ _ k,A=>∀v,Ev P Q (k v) A
 | .store _ _ _ k,A=>Ev P Q k A
 | .new o k,A=>B7 o/\∀r,Ev P Q (k r) (fun x=>A x∨x=r)
 | .shape r k,A=>(∀x,Ej P (fun _=>False) (k x))∨((∀x,Ev P Q (k x) A)/\(A r∨(∀e,Ej P (fun _=>False) (k (lp (e,0))))∨∀e n,k (lp (e,n))=k (lp (e,0))))
 | .freeze a _ k,A=>A a.block/\Ev P Q k A
 | .frozen _ k,A=>∀x,Ev P Q (k x) A
 | .getObj r k,A=>(∀o,Ev P Q (k o) (fun x=>A x∨(x=r/\CS o)))/\((∀a t,Ej P (fun _=>False) (k (.view a t)))∨∀o,¬B7 o∨o.isChan=s7->k o=k dead)
 | .setObj r o k,A=>(A r/\B7 o/\kindOf o=od)/\Ev P Q k A
 | .choose _ k,A=>∀n,Ev P Q (k n) A
 | .sys _ _,_=>False
 | .program k,A=>Ev P Q (k P) A
 | .mark m k,A=>RQ m/\Ev P Q k A
 | .halt h,_=>VL h∨∃x,h=.panic x
def Fu{α:Type}(P:me):Sem α->qq->Nat
 | .pure _,_=>0
 | .load _ a k,w=>match w.cell? a with|some v=>Fu P (k v) w|none=>0
 | .store _ a v k,w=>match w.cell? a with|some _=>Fu P k (w.setCell a v)|none=>0
 | .new o k,w=>Fu P (k w.heap.size) { w with heap:=w.heap.push o }
 | .shape r k,w=>Fu P (k (w.shape? r)) w
 | .freeze a n k,w=>Fu P k (w.freeze a n)
 | .frozen a k,w=>Fu P (k (w.frozen? a)) w
 | .getObj r k,w=>match w.heap[r]? with|some o=>Fu P (k o) w|none=>0
 | .setObj r o k,w=>Fu P k { w with heap:=w.heap.setIfInBounds r o }
 | .choose q k,w=>if q.forced then Fu P (k 0) w else Fu P (k (q.cut (w.tape w.drawn q))) { w with drawn:=w.drawn+1 }+1
 | .sys _ _,_=>0
 | .program k,w=>Fu P (k P) w
 | .mark _ k,w=>Fu P k w
 | .halt _,_=>0
structure Cq(Bs:Nat->Prop)(w v:qq):Prop where
 size:v.heap.size=w.heap.size
 like:∀i:Nat,(¬Bs i/\v.heap[i]? = w.heap[i]?/\∀o,w.heap[i]? = lp o->B7 o)∨(Bs i/\∃c e fz,w.heap[i]? = lp (.cells c e fz)/\v.heap[i]? = lp (.cells #[] e fz))∨(¬Bs i/\(∃o,w.heap[i]? = lp o/\¬B7 o)/\v.heap[i]? = lp dead)∨(Bs i/\(∃o,w.heap[i]? = lp o/\o.isChan=s7)/\v.heap[i]? = lp dead)
 os:v.os=w.os
 output:v.output=w.output
def Pd(Bs:Nat->Prop)(B:Nat)(e:p6):Prop:=
 match e.loc with
 | .cell a=>¬Bs a.block/\a.block<B
 | .obj r=>(¬Bs r∨(e.write=vp/\e.sync=s7))/\r<B
 | .mark m=>RQ m
 | _=>False
theorem Pd.mono{Bs:Nat->Prop}{B B':Nat}{e:p6}(h:Pd Bs B e)(hB:B<=B'):Pd Bs B' e:=by
 unfold Pd at *
 split at h <;> simp_all
 all_goals omega
structure After(Bs:Nat->Prop)(n:Nat)(w v w' v':qq):Prop where
 sim:Cq Bs w' v'
 grow:w.heap.size<=w'.heap.size
 keep:∀i,Bs i->w'.heap[i]? = w.heap[i]?
 wt:w'.tape=w.tape
 vt:v'.tape=v.tape
 wd:w'.drawn=w.drawn+n
 vd:v'.drawn=v.drawn+n
 same:Ed w w'
 far:∀(i:Nat) (o:Obj),w'.heap[i]? = lp o->¬B7 o->w.heap[i]? = lp o
section
variable {P:me} {α β:Type} {Bs:Nat->Prop}
theorem Cq.lt{w v:qq}(h:Cq Bs w v){i:Nat}(hi:Bs i):i<w.heap.size:=by
 rcases h.like i with⟨hn,_⟩|⟨_,c,e,fz,hw,_⟩|⟨hn,_⟩|⟨_,⟨o,hw,_⟩,_⟩
 ·exact absurd hi hn
 ·exact(aF.1 hw).1
 ·exact absurd hi hn
 ·exact(aF.1 hw).1
def Plain(v:qq):Prop:=∀(i:Nat) (o:Obj),v.heap[i]? = lp o->B7 o∨o=dead
theorem Cq.plain{w v:qq}(h:Cq Bs w v):Plain v:=by
 intro i o ho
 rcases h.like i with⟨_,e,hk⟩|⟨_,c,e,fz,hw,hv⟩|⟨_,_,hv⟩|⟨_,_,hv⟩
 ·exact af (hk o (e▸ho))
 ·rw [hv] at ho;obtain rfl:=aC ho;exact af trivial
 ·rw [hv] at ho;obtain rfl:=aC ho;exact o5 rfl
 ·rw [hv] at ho;obtain rfl:=aC ho;exact o5 rfl
theorem Wi(v:qq)(u:s8)(a:zu)(b:Bool):∃s,v.seen P ⟨0,0,lp 0⟩ u a b=.error s:=by
 unfold World.seen
 simp only [Option.isSome_some,Bool.or_true,bC]
 exact⟨_,rfl⟩
theorem Li{v:qq}(h:Plain v)(a:zu)(b:Bool):∃x,v.farLoad P a b=.error x/\VL x:=by
 unfold World.farLoad World.noCell
 cases hb:v.heap[a.block]? with
 | none=>exact⟨_,rfl,trivial⟩
 | some o=>
  rcases h _ _ hb with h|rfl
  ·cases o <;> simp_all [B7] <;> exact trivial
  ·obtain⟨s,e⟩:=Wi (P:=P) v 0 a b
   have e2:v.viewLoad P ⟨0,0,lp 0⟩ 0 a b=.error s:=by
    unfold World.viewLoad
    rw [e];rfl
   simp only [dead,e2]
   exact⟨_,rfl,trivial⟩
theorem Nh{v:qq}(h:Plain v)(a:zu)(x:tj)(b:Bool):∃y,v.farStore P a x b=.error y/\VL y:=by
 unfold World.farStore World.noCell
 cases hb:v.heap[a.block]? with
 | none=>exact⟨_,rfl,trivial⟩
 | some o=>
  rcases h _ _ hb with h|rfl
  ·cases o <;> simp_all [B7] <;> exact trivial
  ·obtain⟨s,e⟩:=Wi (P:=P) v 0 a b
   have e2:∃s,v.viewStore P ⟨0,0,lp 0⟩ 0 a x b=.error s:=by
    unfold World.viewStore
    rw [e]
    by_cases ht:(!tight P P.depth 0)=s7
    ·simp only [ht,bC];exact⟨_,rfl⟩
    ·simp only [ht];exact⟨_,rfl⟩
   obtain⟨s',e2⟩:=e2
   simp only [dead,e2]
   exact⟨_,rfl,trivial⟩
theorem En(h:Array Obj)(o:Obj)(i:Nat):(h.push o)[i]? = if i=h.size then lp o else h[i]?:=by
 rw [eC]
theorem DM{v:qq}(h:Plain v){o:Obj}(ho:B7 o):Plain { v with heap:=v.heap.push o }:=by
 intro i x hx
 simp only [En] at hx
 split at hx
 ·obtain rfl:=aC hx;exact af ho
 ·exact h i x hx
theorem heap_setCell(v:qq)(a:zu)(x:tj)(i:Nat):(v.setCell a x).heap[i]? = if i=a.block then(v.heap[i]?).map (fun|.cells c elem frozen=>.cells (if a.spot.isSome then c else c.setIfInBounds a.off x) elem frozen|o=>o) else v.heap[i]?:=by
 unfold World.setCell
 simp only [bJ]
 by_cases h:a.block=i
 ·subst h;simp;rfl
 ·simp [h,bW h]
theorem I9(a:zu)(n:Nat):∃f:Obj->Obj,(∀(v:qq) (i:Nat),(v.freeze a n).heap[i]? = if i=a.block then(v.heap[i]?).map f else v.heap[i]?)/\(∀o,B7 o->B7 (f o))/\(∀o,¬B7 o->f o=o):=by
 by_cases hn:n=0
 ·refine⟨id,fun v i=>?_,fun _ h=>h,fun _ _=>rfl⟩
  simp [py,hn]
 ·apply Exists.intro
  constructor
  ·intro v i
   unfold py
   simp only [hn,bQ,bJ]
   by_cases h:a.block=i
   ·subst h;simp only [bC];rfl
   ·simp [h,bW h]
  ·constructor
   ·intro o ho
    cases o <;> simp_all [B7]
   ·intro o ho
    cases o <;> simp_all [B7]
theorem Vs{v:qq}(h:Plain v)(a:zu)(x:tj):Plain (v.setCell a x):=by
 intro i o ho
 rw [heap_setCell] at ho
 split at ho
 ·obtain⟨y,hy,rfl⟩:=aJ.1 ho
  rcases h _ _ hy with h|rfl
  ·left;cases y <;> simp_all [B7]
  ·right;rfl
 ·exact h i o ho
theorem Xx{v:qq}(h:Plain v)(a:zu)(n:Nat):Plain (v.freeze a n):=by
 intro i o ho
 obtain⟨f,e,hf,hg⟩:=I9 a n
 rw [e] at ho
 split at ho
 ·obtain⟨y,hy,rfl⟩:=aJ.1 ho
  rcases h _ _ hy with h|rfl
  ·exact af (hf _ h)
  ·exact o5 (hg _ (fun x=>x))
 ·exact h i o ho
theorem Xy{v:qq}(h:Plain v){o:Obj}(ho:B7 o)(r:Nat):Plain { v with heap:=v.heap.setIfInBounds r o }:=by
 intro i x hx
 simp only [bF] at hx
 split at hx
 ·split at hx
  ·obtain rfl:=aC hx;exact af ho
  ·cases hx
 ·exact h i x hx
theorem Wn{v:qq}(h:Plain v)(m:Mode)(a:zu)(x:tj)(k:Sem α)(hn:(∃y,v.cell? a=lp y)->v.frozen? a=s7):∃h v',(zt m a x k).run P v=.halt h v'/\VL h:=by
 obtain⟨s,e,hb⟩:=Nh (P:=P) h a x (m == .atomic)
 cases hc:v.cell? a with
 | none=>cases x <;> first|exact⟨_,_,rfl,trivial⟩|(simp only [nu,hc,e];exact⟨_,_,rfl,hb⟩)
 | some y=>
  have hf:=hn ⟨y,hc⟩
  cases x <;> first|exact⟨_,_,rfl,trivial⟩|(simp only [nu,hc,hf,bC];exact⟨_,_,rfl,trivial⟩)
theorem Nz{v:qq}(m:Mode)(a:zu)(x:tj)(k:Sem α){y:tj}(hc:v.cell? a=lp y)(hf:v.frozen? a=vp) :
  (∀w,∃h v',(zt m a x k).run P w=.halt h v'/\VL h)∨((zt m a x k).run P v=k.run P (v.setCell a x)/\∀es,(zt m a x k).runT P v es=k.runT P (v.setCell a x) (es.push ⟨.cell a,s7,m == .atomic⟩)):=by
 cases x <;> first|exact af fun w=>⟨_,_,rfl,trivial⟩|exact o5 ⟨by simp only [nu,hc,hf];rfl,fun es=>by simp only [qx,hc,hf];rfl⟩
theorem Ej.run:∀(s:Sem α) (v:qq),Ej P (fun _=>False) s->Plain v->∃h v',s.run P v=.halt h v'/\VL h:=by
 intro s
 induction s with
 | pure a=>exact fun _ h _=>h.elim
 | load m a k ih=>
  intro v h hp
  simp only [nu]
  cases v.cell? a with
  | some x=>exact ih x v (h x) hp
  | none=>
   obtain⟨s,e,hb⟩:=Li (P:=P) hp a (m == .atomic)
   simp only [e]
   exact⟨_,_,rfl,hb⟩
 | store m a x k ih=>
  intro v h hp
  by_cases hn:(∃y,v.cell? a=lp y)->v.frozen? a=s7
  ·exact Wn hp m a x k hn
  ·simp only [se] at hn
   obtain⟨⟨y,hc⟩,hf⟩:=hn
   rcases Nz (P:=P) m a x k hc (by simpa using hf) with hb|⟨e,_⟩
   ·exact hb v
   ·rw [e];exact ih _ h (Vs hp _ _)
 | new o k ih=>exact fun v h hp=>ih _ _ (h.2 _) (DM hp h.1)
 | shape r k ih=>exact fun v h hp=>ih _ _ (h _) hp
 | freeze a n k ih=>exact fun v h hp=>ih _ h (Xx hp _ _)
 | frozen a k ih=>exact fun v h hp=>ih _ _ (h _) hp
 | getObj r k ih=>
  intro v h hp
  simp only [nu]
  cases hb:v.heap[r]? with
  | none=>exact⟨_,_,rfl,trivial⟩
  | some o=>cases o <;> first|exact⟨_,_,rfl,trivial⟩|exact ih _ _ (h _) hp
 | setObj r o k ih=>
  intro v h hp
  simp only [nu]
  cases hb:v.heap[r]? with
  | none=>exact⟨_,_,rfl,trivial⟩
  | some x=>cases x <;> first|exact⟨_,_,rfl,trivial⟩|exact ih _ h.2 (Xy hp h.1 _)
 | choose q k ih=>
  intro v h hp
  simp only [nu]
  split
  ·exact ih _ _ (h _) hp
  ·exact ih _ _ (h _) hp
 | sys c k ih=>exact fun _ h _=>h.elim
 | program k ih=>exact fun v h hp=>ih _ _ h hp
 | mark m k ih=>exact fun v h hp=>ih _ h hp
 | halt h=>exact fun v hb _=>⟨_,_,rfl,hb⟩
theorem Ej.bind{R':α->Prop}{R:β->Prop}{f:α->Sem β}(hf:∀a,R' a->Ej P R (f a)):∀(s:Sem α),Ej P R' s->Ej P R (s.bind f):=by
 intro s
 induction s with
 | pure a=>exact fun h=>hf a h
 | load m a k ih=>exact fun h v=>ih v (h v)
 | store m a x k ih=>exact fun h=>ih h
 | new o k ih=>exact fun h=>⟨h.1,fun r=>ih r (h.2 r)⟩
 | shape r k ih=>exact fun h x=>ih x (h x)
 | freeze a n k ih=>exact fun h=>ih h
 | frozen a k ih=>exact fun h x=>ih x (h x)
 | getObj r k ih=>exact fun h x=>ih x (h x)
 | setObj r o k ih=>exact fun h=>⟨h.1,ih h.2⟩
 | choose q k ih=>exact fun h x=>ih x (h x)
 | sys c k ih=>exact fun h=>h.elim
 | program k ih=>exact fun h=>ih _ h
 | mark m k ih=>exact fun h=>ih h
 | halt h=>exact fun h=>h
theorem Ev.bind{Q':α->Prop}{Q:β->Prop}{f:α->Sem β}:∀(s:Sem α) {A:Nat->Prop},Ev P Q' s A->(∀a,Q' a->∀A':Nat->Prop,(∀x,A x->A' x)->Ev P Q (f a) A')->Ev P Q (s.bind f) A:=by
 intro s
 induction s with
 | pure a=>exact fun h hf=>hf a h _ fun _ x=>x
 | load m a k ih=>exact fun h hf v=>ih v (h v) hf
 | store m a x k ih=>exact fun h hf=>ih h hf
 | new o k ih=>exact fun h hf=>⟨h.1,fun r=>ih r (h.2 r) fun a q A' hA=>hf a q A' fun x hx=>hA x (af hx)⟩
 | shape r k ih=>exact fun h hf=>h.imp (fun h x=>Ej.bind (fun _ z=>z.elim) _ (h x)) fun h=>⟨fun x=>ih x (h.1 x) hf,h.2.imp id fun h=>h.imp (fun h e=>Ej.bind (fun _ z=>z.elim) _ (h e)) fun h e n=>by show(k _).bind f=(k _).bind f;rw [h e n]⟩
 | freeze a n k ih=>exact fun h hf=>⟨h.1,ih h.2 hf⟩
 | frozen a k ih=>exact fun h hf x=>ih x (h x) hf
 | getObj r k ih=>exact fun h hf=>⟨fun x=>ih x (h.1 x) fun a q A' hA=>hf a q A' fun x hx=>hA x (af hx),h.2.imp (fun h a t=>Ej.bind (fun _ z=>z.elim) _ (h a t)) fun h o ho=>by show(k _).bind f=(k _).bind f;rw [h o ho]⟩
 | setObj r o k ih=>exact fun h hf=>⟨h.1,ih h.2 hf⟩
 | choose q k ih=>exact fun h hf x=>ih x (h x) hf
 | sys c k ih=>exact fun h _=>h.elim
 | program k ih=>exact fun h hf=>ih _ h hf
 | mark m k ih=>exact fun h hf=>⟨h.1,ih h.2 hf⟩
 | halt h=>exact fun h _=>h
end
section
variable {P:me} {α β:Type} {Bs:Nat->Prop}
def I5(Bs:Nat->Prop)(w v:qq)(i:Nat):Prop:=¬Bs i/\v.heap[i]? = w.heap[i]?/\∀o,w.heap[i]? = lp o->B7 o
theorem V4{w v:qq}{a:zu}(ha:I5 Bs w v a.block):v.cell? a=w.cell? a:=by
 unfold q7;rw [ha.2.1]
theorem Cq.norm{w v:qq}(h:Cq Bs w v){a:zu}{x:tj}(hc:v.cell? a=lp x):I5 Bs w v a.block:=by
 rcases h.like a.block with h|⟨_,c,e,fz,hw,hv⟩|⟨_,_,hv⟩|⟨_,_,hv⟩
 ·exact h
 ·unfold q7 at hc;rw [hv] at hc;simp at hc
 ·unfold q7 at hc;rw [hv] at hc;simp [dead] at hc
 ·unfold q7 at hc;rw [hv] at hc;simp [dead] at hc
theorem Cq.frozen{w v:qq}(h:Cq Bs w v)(a:zu):v.frozen? a=w.frozen? a:=by
 unfold World.frozen?
 rcases h.like a.block with⟨_,e,_⟩|⟨_,c,e,fz,hw,hv⟩|⟨_,⟨o,ho,hn⟩,hv⟩|⟨_,⟨o,ho,hn⟩,hv⟩
 ·rw [e]
 ·rw [hw,hv]
 ·rw [ho,hv]
  cases o <;> first|rfl|exact absurd trivial hn
 ·rw [ho,hv]
  cases o <;> first|rfl|cases hn
theorem U1{w v:qq}{r:Nat}(ha:I5 Bs w v r):v.shape? r=w.shape? r:=by
 unfold vo;rw [ha.2.1]
theorem Cq.shape{w v:qq}(h:Cq Bs w v)(r:Nat):v.shape? r=w.shape? r∨∃e n,w.shape? r=lp (e,n)/\v.shape? r=lp (e,0):=by
 rcases h.like r with h|⟨_,c,e,fz,hw,hv⟩|⟨_,⟨o,ho,hn⟩,hv⟩|⟨_,⟨o,ho,hn⟩,hv⟩
 ·exact af (U1 h)
 ·exact o5 ⟨e,c.size,by simp [vo,hw],by simp [vo,hv]⟩
 ·left
  unfold vo
  rw [ho,hv]
  cases o <;> first|rfl|exact absurd trivial hn
 ·left
  unfold vo
  rw [ho,hv]
  cases o <;> first|rfl|cases hn
theorem FE{w:qq}{a:zu}{x:tj}(h:w.cell? a=lp x):a.block<w.heap.size:=by
 unfold q7 at h
 cases hb:w.heap[a.block]? with
 | none=>rw [hb] at h;cases h
 | some o=>exact(aF.1 hb).1
theorem size_setCell(w:qq)(a:zu)(x:tj):(w.setCell a x).heap.size=w.heap.size:=by simp [World.setCell]
theorem F8(w:qq)(a:zu)(n:Nat):(w.freeze a n).heap.size=w.heap.size:=by unfold py;split <;> simp
theorem Ek(w:qq)(a:zu)(n:Nat):(w.freeze a n).tape=w.tape/\(w.freeze a n).drawn=w.drawn/\(w.freeze a n).os=w.os/\(w.freeze a n).output=w.output:=by unfold py;split <;> exact⟨rfl,rfl,rfl,rfl⟩
theorem Cq.setCell{w v:qq}(h:Cq Bs w v){a:zu}(ha:I5 Bs w v a.block)(x:tj):Cq Bs (w.setCell a x) (v.setCell a x):=by
 refine⟨by rw [size_setCell,size_setCell,h.size],fun i=>?_,h.os,h.output⟩
 by_cases hi:i=a.block
 ·subst hi
  refine af ⟨ha.1,by rw [heap_setCell,heap_setCell,ha.2.1],fun o ho=>?_⟩
  rw [heap_setCell,aQ rfl] at ho
  obtain⟨y,hy,rfl⟩:=aJ.1 ho
  have:=ha.2.2 y hy
  cases y <;> simp_all [B7]
 ·rw [heap_setCell,heap_setCell,aO hi,aO hi]
  exact h.like i
theorem Cq.freeze{w v:qq}(h:Cq Bs w v){a:zu}(ha:I5 Bs w v a.block)(n:Nat):Cq Bs (w.freeze a n) (v.freeze a n):=by
 obtain⟨f,e,hf,_⟩:=I9 a n
 refine⟨by rw [F8,F8,h.size],fun i=>?_,?_,?_⟩
 ·by_cases hi:i=a.block
  ·subst hi
   refine af ⟨ha.1,by rw [e,e,ha.2.1],fun o ho=>?_⟩
   rw [e,aQ rfl] at ho
   obtain⟨y,hy,rfl⟩:=aJ.1 ho
   exact hf _ (ha.2.2 y hy)
  ·rw [e,e,aO hi,aO hi]
   exact h.like i
 ·rw [(Ek v a n).2.2.1,(Ek w a n).2.2.1,h.os]
 ·rw [(Ek v a n).2.2.2,(Ek w a n).2.2.2,h.output]
theorem Cq.push{w v:qq}(h:Cq Bs w v){o:Obj}(ho:B7 o):Cq Bs { w with heap:=w.heap.push o } { v with heap:=v.heap.push o }:=by
 refine⟨by simp [h.size],fun i=>?_,h.os,h.output⟩
 simp only [En,h.size]
 by_cases hi:i=w.heap.size
 ·rw [aQ hi,aQ hi]
  exact af ⟨fun hb=>by have:=h.lt hb;omega,rfl,fun x hx=>by obtain rfl:=aC hx;exact ho⟩
 ·rw [aO hi,aO hi]
  exact h.like i
theorem Cq.setObj{w v:qq}(h:Cq Bs w v){r:Nat}(hr:¬Bs r){o:Obj}(ho:B7 o):Cq Bs { w with heap:=w.heap.setIfInBounds r o } { v with heap:=v.heap.setIfInBounds r o }:=by
 refine⟨by simp [h.size],fun i=>?_,h.os,h.output⟩
 simp only [bF,h.size]
 by_cases hi:r=i
 ·subst hi
  rw [aQ rfl,aQ rfl]
  refine af ⟨hr,rfl,fun x hx=>?_⟩
  split at hx
  ·obtain rfl:=aC hx;exact ho
  ·cases hx
 ·rw [aO hi,aO hi]
  exact h.like i
theorem Cq.drawn{w v:qq}(h:Cq Bs w v)(m n:Nat):Cq Bs { w with drawn:=m } { v with drawn:=n }:=⟨h.size,h.like,h.os,h.output⟩
theorem Cq.at{w v:qq}(h:Cq Bs w v)(m n:Nat):Cq Bs (w.at m) (v.at n):=⟨h.size,h.like,h.os,h.output⟩
theorem I5.setCell{w v:qq}{a:zu}{i:Nat}(h:I5 Bs w v i)(ha:I5 Bs w v a.block)(x:tj):I5 Bs (w.setCell a x) (v.setCell a x) i:=by
 refine⟨h.1,by rw [heap_setCell,heap_setCell,h.2.1],fun o ho=>?_⟩
 rw [heap_setCell] at ho
 split at ho
 ·obtain⟨y,hy,rfl⟩:=aJ.1 ho
  have:=h.2.2 y hy
  cases y <;> simp_all [B7]
 ·exact h.2.2 o ho
theorem I5.freeze{w v:qq}{a:zu}{i:Nat}(h:I5 Bs w v i)(ha:I5 Bs w v a.block)(n:Nat):I5 Bs (w.freeze a n) (v.freeze a n) i:=by
 obtain⟨f,e,hf,_⟩:=I9 a n
 refine⟨h.1,by rw [e,e,h.2.1],fun o ho=>?_⟩
 rw [e] at ho
 split at ho
 ·obtain⟨y,hy,rfl⟩:=aJ.1 ho
  exact hf _ (h.2.2 y hy)
 ·exact h.2.2 o ho
theorem I5.push{w v:qq}{i:Nat}(h:I5 Bs w v i)(hs:Cq Bs w v){o:Obj}(ho:B7 o):I5 Bs { w with heap:=w.heap.push o } { v with heap:=v.heap.push o } i:=by
 refine⟨h.1,by simp only [En,hs.size,h.2.1],fun x hx=>?_⟩
 simp only [En] at hx
 split at hx
 ·obtain rfl:=aC hx;exact ho
 ·exact h.2.2 x hx
theorem I5.made{w v:qq}(hs:Cq Bs w v){o:Obj}(ho:B7 o):I5 Bs { w with heap:=w.heap.push o } { v with heap:=v.heap.push o } w.heap.size:=by
 refine⟨fun hb=>Nat.lt_irrefl _ (hs.lt hb),by simp only [En,hs.size,bC],fun x hx=>?_⟩
 simp only [En,bC] at hx
 obtain rfl:=aC hx
 exact ho
theorem I5.setObj{w v:qq}{i r:Nat}(h:I5 Bs w v i)(hs:Cq Bs w v){o:Obj}(ho:B7 o):I5 Bs { w with heap:=w.heap.setIfInBounds r o } { v with heap:=v.heap.setIfInBounds r o } i:=by
 refine⟨h.1,by simp only [bF,hs.size,h.2.1],fun x hx=>?_⟩
 simp only [bF] at hx
 split at hx
 ·split at hx
  ·obtain rfl:=aC hx;exact ho
  ·cases hx
 ·exact h.2.2 x hx
theorem Kq{w:qq}{a:zu}{x:tj}(i:Nat)(o:Obj)(h:(w.setCell a x).heap[i]? = lp o)(ho:¬B7 o):w.heap[i]? = lp o:=by
 rw [heap_setCell] at h
 split at h
 ·obtain⟨y,hy,rfl⟩:=aJ.1 h
  rw [hy]
  cases y <;> first|rfl|exact absurd trivial ho
 ·exact h
theorem Mk{w:qq}{a:zu}{n:Nat}(i:Nat)(o:Obj)(h:(w.freeze a n).heap[i]? = lp o)(ho:¬B7 o):w.heap[i]? = lp o:=by
 obtain⟨f,e,hf,hg⟩:=I9 a n
 rw [e] at h
 split at h
 ·obtain⟨y,hy,rfl⟩:=aJ.1 h
  rw [hy,hg y fun hy=>ho (hf y hy)]
 ·exact h
theorem Tx{w:qq}{o':Obj}(h':B7 o')(i:Nat)(o:Obj)(h:({ w with heap:=w.heap.push o' }:qq).heap[i]? = lp o)(ho:¬B7 o):w.heap[i]? = lp o:=by
 simp only [En] at h
 split at h
 ·obtain rfl:=aC h;exact absurd h' ho
 ·exact h
theorem Pl{w:qq}{r:Nat}{o':Obj}(h':B7 o')(i:Nat)(o:Obj)(h:({ w with heap:=w.heap.setIfInBounds r o' }:qq).heap[i]? = lp o)(ho:¬B7 o):w.heap[i]? = lp o:=by
 simp only [bF] at h
 split at h
 ·split at h
  ·obtain rfl:=aC h;exact absurd h' ho
  ·cases h
 ·exact h
inductive Out(P:me)(Bs:Nat->Prop)(Q:α->Prop)(s:Sem α)(w v:qq)(es:Array p6):Prop
 | bad (h:Halt) (v':qq) (hr:s.run P v=.halt h v') (hb:VL h)
 | ok (a:α) (w' v':qq) (Fi:Array p6) (hw:s.runT P w es=(.ok a w',es++Fi)) (hv:s.run P v=.ok a v') (hq:Q a) (ha:After Bs (Fu P s w) w v w' v') (Hf:∀e∈Fi,Pd Bs w'.heap.size e)
 | panic (x:tj) (w' v':qq) (Fi:Array p6) (hw:s.runT P w es=(.halt (.panic x) w',es++Fi)) (hv:s.run P v=.halt (.panic x) v') (ha:After Bs (Fu P s w) w v w' v') (Hf:∀e∈Fi,Pd Bs w'.heap.size e)
theorem Out.step{Q:α->Prop}{s t:Sem α}{w v w₁ v₁:World}{es e1:Array Event}{n:Nat}(hv:s.run P v=t.run P v₁)(hw:s.runT P w es=t.runT P w₁ (es++e1))(he:∀e∈e1,Pd Bs w₁.heap.size e)(hn:Fu P s w=Fu P t w₁+n)(hg:w.heap.size<=w₁.heap.size)(hk:∀i,Bs i->w₁.heap[i]? = w.heap[i]?)(ht:w₁.tape=w.tape)(ht':v₁.tape=v.tape)(hd:w₁.drawn=w.drawn+n)(hd':v₁.drawn=v.drawn+n)(hs:Ed w w₁)(h:Out P Bs Q t w₁ v₁ (es++e1))(hfar:∀(i:Nat) (o:Obj),w₁.heap[i]? = some o->¬B7 o->w.heap[i]? = some o:=by first|exact fun _ _ h _=>h|exact Kq|exact Mk):Out P Bs Q s w v es:=by
 have key:∀w' v',After Bs (Fu P t w₁) w₁ v₁ w' v'->After Bs (Fu P s w) w v w' v':=fun w' v' a=>
  ⟨a.sim,aE hg a.grow,fun i hi=>(a.keep i hi).trans (hk i hi),a.wt.trans ht,a.vt.trans ht',by rw [a.wd,hd,hn];omega,by rw [a.vd,hd',hn];omega,hs.trans a.same,fun i o h ho=>hfar i o (a.far i o h ho) ho⟩
 have ev:∀w' v' Fi,After Bs (Fu P t w₁) w₁ v₁ w' v'->(∀e∈Fi,Pd Bs w'.heap.size e)->∀e∈e1++Fi,Pd Bs w'.heap.size e:=fun w' v' Fi a Hf e he'=>
  (dM.1 he').elim (fun h=>(he e h).mono a.grow) (Hf e)
 cases h with
 | bad h v' hr hb=>exact .bad h v' (hv.trans hr) hb
 | ok a w' v' Fi hw' hv' hq ha Hf=>exact .ok a w' v' (e1++Fi) (by rw [hw,hw',dr]) (hv.trans hv') hq (key _ _ ha) (ev _ _ _ ha Hf)
 | panic x w' v' Fi hw' hv' ha Hf=>exact .panic x w' v' (e1++Fi) (by rw [hw,hw',dr]) (hv.trans hv') (key _ _ ha) (ev _ _ _ ha Hf)
theorem push_append(es:Array p6)(e:p6):es.push e=es++#[e]:=Ae
theorem Kf{Q:α->Prop}:∀(s:Sem α) (A:Nat->Prop) (w v:qq) (es:Array p6),Ev P Q s A->(∀r,A r->I5 Bs w v r)->Cq Bs w v->(∀j,j<Fu P s w->v.tape (v.drawn+j)=w.tape (w.drawn+j))->Out P Bs Q s w v es:=by
 intro s
 induction s with
 | pure a=>
  intro A w v es h hA hs ht
  exact .ok a w v #[] (by simp [qx]) rfl h ⟨hs,aA _,fun _ _=>rfl,rfl,rfl,rfl,rfl,Ed.refl _,fun _ _ h _=>h⟩ Ae
 | load m a k ih=>
  intro A w v es h hA hs ht
  cases hc:v.cell? a with
  | none=>
   obtain⟨s,e,hb⟩:=Li (P:=P) hs.plain a (m == .atomic)
   exact .bad s v (by simp only [nu,hc,e]) hb
  | some x=>
   have hn:=hs.norm hc
   have hcw:w.cell? a=lp x:=(V4 hn).symm.trans hc
   refine Out.step (t:=k x) (w₁:=w) (v₁:=v) (n:=0) (e1:=#[⟨.cell a,vp,m == .atomic⟩]) (by simp only [nu,hc]) (by simp only [qx,hcw,push_append]) ?_ (by simp only [Fu,hcw];rfl) (aA _) (fun _ _=>rfl) rfl rfl rfl rfl (Ed.refl _) (ih x A w v _ (h x) hA hs ?_)
   ·intro e he
    obtain rfl:e=_:=by simpa using he
    exact⟨hn.1,FE hcw⟩
   ·simpa only [Fu,hcw] using ht
 | store m a x k ih=>
  intro A w v es h hA hs ht
  by_cases hn:(∃y,v.cell? a=lp y)->v.frozen? a=s7
  ·obtain⟨h',v',hr,hb⟩:=Wn (P:=P) hs.plain m a x k hn
   exact .bad h' v' hr hb
  ·simp only [se] at hn
   obtain⟨⟨y,hc⟩,hf⟩:=hn
   have hf:v.frozen? a=vp:=by simpa using hf
   have hnm:=hs.norm hc
   have hb:¬Bs a.block:=hnm.1
   rcases Nz (P:=P) m a x k hc hf with hbad|⟨e,_⟩
   ·obtain⟨h',v',hr,Es⟩:=hbad v
    exact .bad h' v' hr Es
   have hcw:w.cell? a=lp y:=(V4 hnm).symm.trans hc
   rcases Nz (P:=P) m a x k hcw ((hs.frozen a).symm.trans hf) with hbad|⟨_,eT⟩
   ·obtain⟨h',v',hr,Es⟩:=hbad v
    exact .bad h' v' hr Es
   refine Out.step (t:=k) (w₁:=w.setCell a x) (v₁:=v.setCell a x) (n:=0) (e1:=#[⟨.cell a,s7,m == .atomic⟩]) e (by rw [eT,push_append]) ?_ (by simp only [Fu,hcw];rfl) (by rw [size_setCell];exact aA _) ?_ rfl rfl rfl rfl ⟨rfl,rfl⟩ (ih A _ _ _ h (fun r hr=>(hA r hr).setCell hnm x) (hs.setCell hnm x) ?_)
   ·intro e he
    obtain rfl:e=_:=by simpa using he
    exact⟨hb,by rw [size_setCell];exact FE hcw⟩
   ·intro i hi
    rw [heap_setCell,aO (fun(e:i=a.block)=>hb (e▸hi))]
   ·exact fun j hj=>ht j (by simpa only [Fu,hcw] using hj)
 | new o k ih=>
  intro A w v es h hA hs ht
  refine Out.step (t:=k w.heap.size) (w₁:={ w with heap:=w.heap.push o }) (v₁:={ v with heap:=v.heap.push o }) (n:=0) (e1:=#[]) (by simp only [nu,hs.size]) (by simp only [qx,cJ]) Ae rfl Ae ?_ rfl rfl rfl rfl ⟨rfl,rfl⟩ (ih _ _ _ _ _ (h.2 _) ?_ (hs.push h.1) ht) (Tx h.1)
  ·intro i hi
   have:=hs.lt hi
   simp only [En]
   rw [aO Ab]
  ·intro r hr
   rcases hr with hr|rfl
   ·exact(hA r hr).push hs h.1
   ·exact I5.made hs h.1
 | shape r k ih=>
  intro A w v es h hA hs ht
  rcases h with h|⟨h,hc⟩
  ·obtain⟨h',v',hr,hb⟩:=Ej.run _ v (h (v.shape? r)) hs.plain
   exact .bad h' v' hr hb
  ·have go:(k (v.shape? r)).run P v=(k (w.shape? r)).run P v->Out P Bs Q (Sem.shape r k) w v es:=fun e=>
    Out.step (t:=k (w.shape? r)) (w₁:=w) (v₁:=v) (n:=0) (e1:=#[]) e (by simp only [qx,cJ]) Ae rfl (aA _) (fun _ _=>rfl) rfl rfl rfl rfl (Ed.refl _) (ih _ A w v _ (h _) hA hs ht)
   rcases hs.shape r with e|⟨e,n,hw,hv⟩
   ·exact go (by rw [e])
   ·rcases hc with ha|hd|hi
    ·exact go (by rw [U1 (hA r ha)])
    ·obtain⟨h',v',hr,hb⟩:=Ej.run _ v (hd e) hs.plain
     exact .bad h' v' (by simp only [nu,hv];exact hr) hb
    ·exact go (by rw [hv,hw,hi e n])
 | freeze a n k ih=>
  intro A w v es h hA hs ht
  have hnm:=hA _ h.1
  have hb:=hnm.1
  obtain⟨r1,r2,r3,r4⟩:=Ek w a n
  obtain⟨q1,q2,q3,q4⟩:=Ek v a n
  obtain⟨f,e,hf,_⟩:=I9 a n
  refine Out.step (t:=k) (w₁:=w.freeze a n) (v₁:=v.freeze a n) (n:=0) (e1:=#[]) rfl (by simp only [qx,cJ]) Ae rfl (by rw [F8];exact aA _) (fun i hi=>by rw [e,aO (fun(e:i=a.block)=>hb (e▸hi))]) r1 q1 r2 q2 ⟨r3,r4⟩ (ih A _ _ _ h.2 (fun r hr=>(hA r hr).freeze hnm n) (hs.freeze hnm n) ?_)
  rw [r1,r2,q1,q2]
  exact ht
 | frozen a k ih=>
  intro A w v es h hA hs ht
  exact Out.step (t:=k (w.frozen? a)) (w₁:=w) (v₁:=v) (n:=0) (e1:=#[]) (by simp only [nu,hs.frozen a]) (by simp only [qx,cJ]) Ae rfl (aA _) (fun _ _=>rfl) rfl rfl rfl rfl (Ed.refl _) (ih _ A w v _ (h _) hA hs ht)
 | getObj r k ih=>
  intro A w v es h hA hs ht
  have ev:∀o,w.heap[r]? = lp o->(¬Bs r∨o.isChan=s7)->∀e∈#[(⟨.obj r,vp,o.isChan⟩:p6)],Pd Bs w.heap.size e:=fun o ho hb e he=>by
   obtain rfl:e=_:=by simpa using he
   exact⟨hb.imp id fun h=>⟨rfl,h⟩,(aF.1 ho).1⟩
  rcases hs.like r with⟨hb,e,hk⟩|⟨_,c,e,fz,hw,hv⟩|⟨hb,⟨o,ho,hn⟩,hv⟩|⟨hb,⟨o,ho,hn⟩,hv⟩
  ·cases hc:w.heap[r]? with
   | none=>exact(show ∃s,(Sem.getObj r k).run P v=.halt (.stuck s) v by simp only [nu,e,hc];exact⟨_,rfl⟩).elim fun s e=>.bad (.stuck s) v e trivial
   | some o=>
    have hev:=ev o hc (af hb)
    have hA':∀x,(A x∨(x=r/\CS o))->I5 Bs w v x:=fun x hx=>hx.elim (hA x) fun⟨e1,_⟩=>e1▸⟨hb,e,hk⟩
    cases o
    case cells=>exact(show ∃s,(Sem.getObj r k).run P v=.halt (.stuck s) v by simp only [nu,e,hc];exact⟨_,rfl⟩).elim fun s e=>.bad (.stuck s) v e trivial
    all_goals
     refine Out.step (w₁:=w) (v₁:=v) (n:=0) (by simp only [nu,e,hc] <;> rfl) (by simp only [qx,hc,push_append]) hev (by simp only [Fu,hc];rfl) (aA _) (fun _ _=>rfl) rfl rfl rfl rfl (Ed.refl _) (ih _ _ w v _ (h.1 _) hA' hs ?_)
     simpa only [Fu,hc] using ht
  ·exact(show ∃s,(Sem.getObj r k).run P v=.halt (.stuck s) v by simp only [nu,hv];exact⟨_,rfl⟩).elim fun s e=>.bad (.stuck s) v e trivial
  ·rcases h.2 with hd|hi
   ·exact Sek
   ·have hev:=ev o ho (af hb)
    have hko:=hi o (af hn)
    have hA':∀x,(A x∨(x=r/\CS o))->I5 Bs w v x:=fun x hx=>hx.elim (hA x) fun⟨_,e1⟩=>absurd e1.1 hn
    cases o
    case view=>
     refine Cyv ?_
     simpa only [Fu,ho] using ht
    case pending=>
     refine Cyv ?_
     simpa only [Fu,ho] using ht
    all_goals exact absurd trivial hn
  ·rcases h.2 with hd|hi
   ·exact Sek
   ·have hev:=ev o ho (o5 hn)
    have hko:=hi o (o5 hn)
    have hA':∀x,(A x∨(x=r/\CS o))->I5 Bs w v x:=fun x hx=>hx.elim (hA x) fun⟨_,e1⟩=>by rw [e1.2.1] at hn;cases hn
    cases o
    case chan=>
     refine Cyv ?_
     simpa only [Fu,ho] using ht
    all_goals cases hn
 | setObj r o k ih=>
  intro A w v es h hA hs ht
  by_cases hbad:∃s,(Sem.setObj r o k).run P v=.halt (.stuck s) v
  ·exact hbad.elim fun s e=>.bad (.stuck s) v e trivial
  obtain⟨hb,hnv,E6⟩:=hA r h.1.1
  have hv:∃y,v.heap[r]? = lp y/\∀c e fz,y≠.cells c e fz:=by
   cases hc:v.heap[r]? with
   | none=>exact absurd (by simp only [nu,hc];exact⟨_,rfl⟩) hbad
   | some y=>
    refine⟨y,rfl,fun c e fz hy=>hbad ?_⟩
    subst hy
    simp only [nu,hc]
    exact⟨_,rfl⟩
  obtain⟨y,hv,hy⟩:=hv
  have hw:w.heap[r]? = lp y:=hnv▸hv
  have Cg:r<w.heap.size:=(aF.1 hw).1
  refine Out.step (t:=k) (w₁:={ w with heap:=w.heap.setIfInBounds r o }) (v₁:={ v with heap:=v.heap.setIfInBounds r o }) (n:=0) (e1:=#[⟨.obj r,s7,o.isChan⟩]) ?_ ?_ ?_ rfl Ae ?_ rfl rfl rfl rfl ⟨rfl,rfl⟩ (ih A _ _ _ h.2 (fun r' hr=>(hA r' hr).setObj hs h.1.2.1) (hs.setObj hb h.1.2.1) ht) (Pl h.1.2.1)
  ·cases y <;> first|exact absurd rfl (hy _ _ _)|simp only [nu,hv]
  ·cases y <;> first|exact absurd rfl (hy _ _ _)|simp only [qx,hw,push_append]
  ·intro e he
   obtain rfl:e=_:=by simpa using he
   exact⟨af hb,by simpa using Cg⟩
  ·intro i hi
   have Cu:r≠i:=fun e=>hb (e▸hi)
   simp only [bF,aO Cu]
 | choose q k ih=>
  intro A w v es h hA hs ht
  by_cases hq:q.forced=s7
  ·refine Out.step (t:=k 0) (w₁:=w) (v₁:=v) (n:=0) (e1:=#[]) (by simp only [nu,hq,bC]) (by simp only [qx,hq,bC,cJ]) Ae (by simp only [Fu,hq,bC];rfl) (aA _) (fun _ _=>rfl) rfl rfl rfl rfl (Ed.refl _) (ih _ A w v _ (h _) hA hs ?_)
   simpa only [Fu,hq,bC] using ht
  ·have hq':q.forced=vp:=by simpa using hq
   have e0:v.tape v.drawn=w.tape w.drawn:=ht 0 (by simp only [Fu,hq',aV,bQ];omega)
   refine Out.step (t:=k (q.cut (w.tape w.drawn q))) (w₁:={ w with drawn:=w.drawn+1 }) (v₁:={ v with drawn:=v.drawn+1 }) (n:=1) (e1:=#[]) (by simp only [nu,hq',aV,bQ,e0]) (by simp only [qx,hq',aV,bQ,cJ]) Ae (by simp only [Fu,hq',aV,bQ]) (aA _) (fun _ _=>rfl) rfl rfl rfl rfl ⟨rfl,rfl⟩ (ih _ A _ _ _ (h _) hA (hs.drawn _ _) ?_)
   intro j hj
   have:=ht (j+1) (by simp only [Fu,hq',aV,bQ];omega)
   rw [show v.drawn+(j+1)=v.drawn+1+j by omega,show w.drawn+(j+1)=w.drawn+1+j by omega] at this
   exact this
 | sys c k ih=>exact fun A w v es h=>h.elim
 | program k ih=>
  intro A w v es h hA hs ht
  exact Out.step (t:=k P) (w₁:=w) (v₁:=v) (n:=0) (e1:=#[]) rfl (by simp only [qx,cJ]) Ae rfl (aA _) (fun _ _=>rfl) rfl rfl rfl rfl (Ed.refl _) (ih _ A w v _ h hA hs ht)
 | mark m k ih=>
  intro A w v es h hA hs ht
  obtain⟨hm,h⟩:=h
  refine Out.step (t:=k) (w₁:=w) (v₁:=v) (n:=0) (e1:=#[⟨.mark m,vp,s7⟩]) rfl (by simp only [qx,push_append]) ?_ rfl (aA _) (fun _ _=>rfl) rfl rfl rfl rfl (Ed.refl _) (ih A w v _ h hA hs ht)
  intro e he
  obtain rfl:e=_:=by simpa using he
  exact hm
 | halt h=>
  intro A w v es ht hA hs _
  rcases ht with hb|⟨x,rfl⟩
  ·exact .bad h v rfl hb
  ·exact .panic x w v #[] (by simp [qx]) rfl ⟨hs,aA _,fun _ _=>rfl,rfl,rfl,rfl,rfl,Ed.refl _,fun _ _ h _=>h⟩ Ae
end
structure Env where
 fn:du->Prop
 reg:du->Array tj->Prop
instance:CoeFun Env fun _=>du->Prop:=⟨Env.fn⟩
def Ta(P:me)(S:Env):Next->Prop
 | .value _=>True
 | .skip=>True
 | .enter f args=>S f/\S.reg f (bz P f args .normal).tmps
 | _=>False
def Gc(dst:Option Tmp)(v:tj)(tmps:Array tj):Array tj:=match dst with|some d=>tmps.setIfInBounds d v|none=>tmps
structure Sj(P:me)(S:Env)(fn:du)(o:Oper):Prop where
 tame:∀fr:qg,S.reg fn fr.tmps->Ev P (Ta P S) (execOp fr.eval o) (fun _=>False)
 put:∀tmps v,S.reg fn tmps->(∀t,o.op=.move (.tmp t)->v=yj∨v=tmps.getD t yj)->S.reg fn (Gc o.dst v tmps)
def BK(P:me)(S:Env)(fn:du):Code->Prop
 | .skip=>True
 | .region _ ops _=>∀(i:Nat) (o:Oper),ops[i]? = lp o->Sj P S fn o
 | .seq a b=>BK P S fn a/\BK P S fn b
 | .cond _ a b=>BK P S fn a/\BK P S fn b
 | .block _ b=>BK P S fn b
 | .loop b=>BK P S fn b
 | .rangeFunc _ _ _ _=>False
 | .exit _=>True
 | .scope b=>BK P S fn b
 | .label _=>True
 | .goto _=>True
 | .ret=>True
 | .refuse _=>False
def AZ(P:me)(S:Env)(fn:du):Item->Prop
 | .code c=>BK P S fn c
 | .inBlock _=>True
 | .inLoop b=>BK P S fn b
 | .inScope b=>BK P S fn b
 | .inRegion ops _=>∀(i:Nat) (o:Oper),ops[i]? = lp o->Sj P S fn o
 | _=>False
structure Km(P:me)(S:Env)(fr:qg):Prop where
 defers:fr.defers = []
 kind:fr.kind=.normal
 round:fr.roundOf=od
 fn:∃f,P.funcs[fr.fn]? = lp f
 mode:fr.mode=.run∨fr.mode=.returning
 todo:fr.mode=.run->∀it∈fr.todo,AZ P S fr.fn it
 reg:S.reg fr.fn fr.tmps
def Ri(fr:qg)(v:tj):Prop:=∀ops i rest k o t,fr.todo=.inRegion ops (i :: rest) :: k->ops[i]? = lp o->o.op=.move (.tmp t)->v=yj∨v=fr.tmps.getD t yj
theorem Ni(fr:qg):Ri fr yj:=fun _ _ _ _ _ _ _ _ _=>af rfl
def R8(P:me)(S:Env)(up:List qg):Prop:=∀c∈up,Km P S c/\c.mode=.run/\∀y,Ri c y
def BL(P:me)(S:Env):Prop:=∀f,S f→∃fn c,P.funcs[f]? = lp fn∧(fn.name == "runtime.NumGoroutine")=vp∧fn.body=lp c∧BK P S f c
section
variable {P:me} {S:Env} {Bs:Nat->Prop}
theorem Mq(hS:BL P S){f:du}(hf:S f)(args:Array tj)(hr:S.reg f (bz P f args .normal).tmps):Km P S (bz P f args .normal)/\(bz P f args .normal).mode=.run:=by
 obtain⟨fn,c,h1,_,h2,h3⟩:=hS f hf
 refine⟨⟨rfl,rfl,rfl,⟨fn,h1⟩,af rfl,fun _ it hit=>?_,hr⟩,rfl⟩
 simp [bz,h1,h2] at hit
 subst hit
 exact h3
theorem NP{P:me}{fr:qg}{ops:Array Oper}{i:Nat}{l:List Nat}{k:List Item}{o:Oper}(htd:fr.todo=.inRegion ops (i :: l) :: k)(ho:ops[i]? = lp o) :
  (∀x (w w':qq),(execOp fr.eval o).run P w=.ok (.value x) w'->Ri fr x)/\∀f args (w w':qq),(execOp fr.eval o).run P w=.ok (.enter f args) w'->∀y,Ri fr y:=by
 have key:∀{ops':Array Oper} {i':Nat} {l':List Nat} {k':List Item} {o':Oper},fr.todo=.inRegion ops' (i' :: l') :: k'->ops'[i']? = lp o'->o'=o:=fun h h'=>by
  rw [htd] at h
  simp only [bV,Item.inRegion.injEq] at h
  obtain⟨⟨rfl,rfl,_⟩,_⟩:=h
  rw [ho] at h'
  exact(aC h').symm
 refine⟨fun x w w' hr ops' i' l' k' o' t h1 h2 h3=>?_,fun f args w w' hr y ops' i' l' k' o' t h1 h2 h3=>?_⟩
 ·obtain rfl:=key h1 h2
  unfold execOp at hr
  rw [h3] at hr
  simp [nu,pure] at hr
  exact o5 hr.1.symm
 ·obtain rfl:=key h1 h2
  unfold execOp at hr
  rw [h3] at hr
  simp [nu,pure] at hr
theorem Jb{fr:qg}(h:Km P S fr)(hm:fr.mode=.run)(v:tj)(hv:Ri fr v):Km P S (fr.finish v)/\(fr.finish v).mode=.run:=by
 have ht:=h.todo hm
 unfold Frame.finish
 split
 ·rename_i ops i rest k hk
  rw [hk] at ht
  refine⟨⟨h.defers,h.kind,h.round,h.fn,h.mode,fun _ it hit=>?_,?_⟩,hm⟩
  ·simp only [bI] at hit
   rcases hit with rfl|hit
   ·exact ht (.inRegion ops (i :: rest)) Ae
   ·exact ht it (by simp [hit])
  ·have h2:∀(i:Nat) (o:Oper),ops[i]? = lp o->Sj P S fr.fn o:=ht (.inRegion ops (i :: rest)) Ae
   cases ho:ops[i]? with
   | none=>simpa [ho] using h.reg
   | some o=>
    have h3:=(h2 i o ho).put fr.tmps v h.reg fun t he=>hv ops i rest k o t hk ho he
    simp only [ho,cW]
    cases hd:o.dst with
    | none=>simpa only [Gc,hd] using h3
    | some d=>simpa only [Gc,hd] using h3
 ·rename_i l k hk;rw [hk] at ht;exact(ht (.inRangeFunc l) Ae).elim
 ·rename_i k hk;rw [hk] at ht;exact(ht .beginRound Ae).elim
 ·rename_i d b r s k hk;rw [hk] at ht;exact(ht (.call d b r s) Ae).elim
 ·rename_i r a k hk;rw [hk] at ht;exact(ht (.extern r a) Ae).elim
 ·exact⟨h,hm⟩
theorem Vo{fn:du}{l:Nat}:∀{c c':Code},BK P S fn c->findLabel c l=lp c'->BK P S fn c':=by
 intro c
 induction c with
 | seq a b iha ihb=>
  intro c' h e
  simp only [findLabel] at e
  cases ha:findLabel a l with
  | some r=>rw [ha] at e;obtain rfl:=aC e;exact⟨iha h.1 ha,h.2⟩
  | none=>rw [ha] at e;exact ihb h.2 e
 | label l'=>
  intro c' h e
  simp only [findLabel] at e
  split at e
  ·obtain rfl:=aC e;trivial
  ·cases e
 | _=>intro c' h e;simp [findLabel] at e
theorem OO{fn:du}{l:Nat}:∀{k k':List Item},(∀it∈k,AZ P S fn it)->gotoIn l k=lp k'->∀it∈k',AZ P S fn it:=by
 intro k
 induction k with
 | nil=>intro k' _ e;simp [gotoIn] at e
 | cons x k ih=>
  intro k' h e
  have hk:∀it∈k,AZ P S fn it:=fun it hit=>h it (by simp [hit])
  cases x
  case inScope b=>
   simp only [gotoIn] at e
   cases hb:findLabel b l with
   | none=>rw [hb] at e;exact ih hk e
   | some r=>
    rw [hb] at e
    obtain rfl:=aC e
    have Es:BK P S fn b:=h (.inScope b) Ae
    intro it hit
    simp only [bI] at hit
    rcases hit with rfl|rfl|hit
    ·exact Vo Es hb
    ·exact Es
    ·exact hk it hit
  all_goals (simp only [gotoIn] at e;exact ih hk e)
theorem ON{fn:du}{id:Nat}:∀{k k':List Item},(∀it∈k,AZ P S fn it)->exitTo id k=lp k'->∀it∈k',AZ P S fn it:=by
 intro k
 induction k with
 | nil=>intro k' _ e;simp [exitTo] at e
 | cons x k ih=>
  intro k' h e
  have hk:∀it∈k,AZ P S fn it:=fun it hit=>h it (by simp [hit])
  cases x
  case inBlock b=>
   simp only [exitTo] at e
   split at e
   ·obtain rfl:=aC e;exact hk
   ·exact ih hk e
  all_goals (simp only [exitTo] at e;exact ih hk e)
inductive One(P:me)(S:Env)(Bs:Nat->Prop)(K:Nat)(fr:qg)(up z z':List qg)(w v:qq):Prop
 | bad (o:Outcome) (v':qq) (h:(stepG P s7 (G fr (up++z')) v).bare=.ended o v')
 | panic (chain:List PanicEntry) (v':qq) (h:(stepG P s7 (G fr (up++z')) v).bare=.go (G (fr.raise chain) (up++z')) v')
 | go (fr':qg) (up':List qg) (w' v':qq) (es:Array p6) (hw:stepG P s7 (G fr (up++z)) w=.go (G fr' (up'++z)) w' es) (hv:(stepG P s7 (G fr (up++z')) v).bare=.go (G fr' (up'++z')) v')
   (hf:Km P S fr') (hu:R8 P S up') (ha:After Bs K w v w' v') (Hf:∀e∈es,Pd Bs w'.heap.size e)
theorem After.refl{w v:qq}(h:Cq Bs w v):After Bs 0 w v w v:=⟨h,aA _,fun _ _=>rfl,rfl,rfl,rfl,rfl,Ed.refl _,fun _ _ h _=>h⟩
theorem Cj{fr:qg}{cs:List qg}{w:qq}(hm:fr.mode=.run):stepG P s7 (G fr cs) w=stepG.exec P s7 s7 fr cs od w:=by
 unfold stepG G
 simp only [hm]
theorem One.ctl{fr fr':qg}{up z z':List qg}{w v:qq}(h:∀cs w,stepG P s7 (G fr cs) w=.go (G fr' cs) w)(hs:Cq Bs w v)(hf:Km P S fr')(hu:R8 P S up):One P S Bs 0 fr up z z' w v:=
 .go fr' up w v #[] (h _ _) (by rw [h];rfl) hf hu (After.refl hs) Ae
theorem Kd{fn:du}{es:Array p6}{B:Nat}(h:∀e∈es,Pd Bs B e):∀e∈seen P fn es,Pd Bs B e:=fun e he=>h e (mem_seen he)
theorem One.apply{fr:qg}{up z z':List qg}{w v:qq}{s:Sem Next}(hS:BL P S)(hfr:Km P S fr)(hm:fr.mode=.run)(hu:R8 P S up)(hn:∃ops l k,fr.todo=.inRegion ops l :: k)(Dk:∀cs w,stepG P s7 (G fr cs) w=stepG.apply P s7 fr cs od s w)(Gw:(∀x (w w':qq),s.run P w=.ok (.value x) w'->Ri fr x)/\∀f args (w w':qq),s.run P w=.ok (.enter f args) w'->∀y,Ri fr y)(hT:Ev P (Ta P S) s (fun _=>False))(hs:Cq Bs w v)(ht:∀j,j<Fu P s w->v.tape (v.drawn+j)=w.tape (w.drawn+j)) :
  One P S Bs (Fu P s w) fr up z z' w v:=by
 obtain⟨ops₀,l₀,k₀,htd⟩:=hn
 have hke:(fr.kind == CallKind.early)=vp:=by rw [hfr.kind];rfl
 cases Kf s _ w v #[] hT (fun _ h=>h.elim) hs ht with
 | bad h v' hr hb=>
  cases h with
  | stuck s=>exact .bad _ v' (by rw [Dk];simp only [stepG.apply,lk,hr,bC];rfl)
  | unsupported u=>cases u <;> first|exact hb.elim|exact .bad _ v' (by rw [Dk];simp only [stepG.apply,lk,hr,bC];rfl)
  | _=>exact hb.elim
 | panic x w' v' Fi hw hv ha Hf=>
  refine .panic [{ v:=x,recovered:=vp }] v' ?_
  exact Vt5
 | ok a w' v' Fi hw hv hq ha Hf=>
  have ew:Fi=#[]++Fi:=Ae
  cases a with
  | value x=>
   obtain⟨h1,h2⟩:=Jb hfr hm x (Gw.1 x _ _ hv)
   refine .go (fr.finish x) up w' v' _ ?_ ?_ h1 hu ha (Kd (P:=P) (fn:=fr.fn) (es:=#[]++Fi) (by simpa using Hf))
   ·rw [Dk]
    simp only [stepG.apply,hw,bC,hke]
    simp [fw,G]
   ·exact Vt5
  | skip=>
   obtain⟨h1,h2⟩:=Jb hfr hm yj (Ni _)
   refine .go (fr.finish yj) up w' v' _ ?_ ?_ h1 hu ha (Kd (P:=P) (fn:=fr.fn) (es:=#[]++Fi) (by simpa using Hf))
   ·rw [Dk]
    simp only [stepG.apply,hw,bC,hke]
    simp [fw,G]
   ·exact Vt5
  | enter f args=>
   obtain⟨h1,h2⟩:=Mq (P:=P) hS hq.1 args hq.2
   refine .go (bz P f args .normal) (fr :: up) w' v' _ ?_ ?_ h1 (fun c hc=>?_) ha (Kd (P:=P) (fn:=fr.fn) (es:=#[]++Fi) (by simpa using Hf))
   ·rw [Dk]
    simp only [stepG.apply,hw,bC,hke,htd]
    simp [fw,G]
   ·rw [Dk]
    simp only [stepG.apply,lk,hv,bC,htd]
    rfl
   ·simp only [bI] at hc
    rcases hc with rfl|hc
    ·exact⟨hfr,hm,Gw.2 f args _ _ hv⟩
    ·exact hu c hc
  | _=>exact hq.elim
end
section
variable {P:me} {α β:Type} {Q:β->Prop} {A:Nat->Prop}
def T(P:me){α:Type}(s:Sem α):Prop:=∀A,Ev P (fun _=>True) s A
theorem T.bind{s:Sem α}{f:α->Sem β}(h:T P s)(hf:∀a A,Ev P Q (f a) A):Ev P Q (s >>= f) A:=Ev.bind s (h A) fun a _ A' _=>hf a A'
theorem T.then{s:Sem α}{f:α->Sem β}(h:T P s)(hf:∀a,T P (f a)):T P (s >>= f):=fun A=>T.bind h fun a=>hf a
theorem T.map{s:Sem α}(f:α->β)(h:T P s):T P (f <$> s):=fun A=>by
 have:f <$> s=s >>= fun a=>pure (f a):=(bind_pure_comp f s).symm
 rw [this]
 exact T.bind h fun _ _=>trivial
theorem T.pure(a:α):T P (pure a:Sem α):=fun _=>trivial
theorem T.stuck(s:String):T P (stuck s:Sem α):=fun _=>af trivial
theorem T.unsupported{u:Unsupported}(h:∀g,u≠.initOrder g):T P (unsupported u:Sem α):=fun _=>af (by cases u <;> first|trivial|exact absurd rfl (h _))
theorem T.noEntry(s:String):T P (ux (.noEntry s):Sem α):=T.unsupported (by intro g h;cases h)
theorem T.limit(s:String):T P (ux (.resourceLimit s):Sem α):=T.unsupported (by intro g h;cases h)
theorem T.observed:T P (ux .addressObserved:Sem α):=T.unsupported (by intro g h;cases h)
theorem T.unsafeP(s:String):T P (ux (.unsafePointer s):Sem α):=T.unsupported (by intro g h;cases h)
theorem T.goPanic(v:tj):T P (goPanic v:Sem α):=fun _=>o5 ⟨v,rfl⟩
theorem T.program:T P (program):=fun _=>trivial
theorem T.load(a:zu)(m:Mode):T P (load a m):=fun _ _=>trivial
theorem T.store(a:zu)(v:tj)(m:Mode):T P (store a v m):=fun _=>trivial
theorem T.choose(q:Question):T P (choose q):=fun _ _=>trivial
theorem T.noRoom:T P (mark .noRoom):=fun _=>⟨trivial,trivial⟩
theorem T.externMark(f:du):T P (mark (.extern f)):=fun _=>⟨trivial,trivial⟩
theorem T.newObj{o:Obj}(h:B7 o):T P (newObj o):=fun _=>⟨h,fun _=>trivial⟩
theorem T.newRow(e:s8)(c:Array tj):T P (newRow e c):=T.then (T.newObj trivial) fun _=>T.pure _
theorem T.newVar(e:s8)(v:tj):T P (newVar e v):=T.newRow _ _
theorem T.typeInfo(t:s8):T P (typeInfo t):=T.then T.program fun p=>by split <;> first|exact T.pure _|exact T.stuck _
theorem T.underlying(t:s8):T P (underlying t):=T.then T.program fun p=>by split <;> first|exact T.pure _|exact T.stuck _
theorem T.sizeOf(t:s8):T P (sizeOf t):=T.then (T.typeInfo t) fun _=>T.pure _
theorem T.zeroValue(t:s8):T P (zeroValue t):=T.then (T.typeInfo t) fun i=>by split <;> first|exact T.pure _|exact T.unsupported (by intro g h;cases h)
theorem T.isAgg(t:s8):T P (isAgg t):=T.then (T.underlying t) fun d=>by split <;> exact T.pure _
theorem T.elemOf(t:s8):T P (elemOf t):=T.then (T.underlying t) fun d=>by split <;> first|exact T.pure _|exact T.stuck _
theorem T.runtimePanic(e:RuntimeError):T P (runtimePanic e:Sem α):=by
 unfold Go.runtimePanic
 refine T.then T.program fun p=>?_
 split
 all_goals first
  | exact T.goPanic _
  | exact T.then (T.elemOf _) fun _=>T.then (T.newVar _ _) fun _=>T.goPanic _
theorem T.loadCellsFrom(a:zu):∀(n i:Nat) (acc:Array tj),T P (loadCellsFrom a i n acc)
 | 0,_,_=>T.pure _
 | n+1,_,_=>T.then (T.load _ _) fun _=>T.loadCellsFrom a n _ _
theorem T.loadCells(a:zu)(n:Nat):T P (loadCells a n):=T.loadCellsFrom a n 0 #[]
theorem T.storeCells(a:zu):∀(vs:List tj) (i:Nat),T P (storeCells a vs i)
 | [],_=>T.pure _
 | _ :: vs,_=>T.then (T.store _ _ _) fun _=>T.storeCells a vs _
theorem T.loadVar(t:s8)(a:zu):T P (loadVar t a):=T.then (T.isAgg t) fun b=>by
 split
 ·exact T.then (T.sizeOf _) fun _=>T.then (T.loadCells _ _) fun _=>T.pure _
 ·exact T.load _ _
theorem T.storeVar(t:s8)(a:zu)(v:tj):T P (storeVar t a v):=T.then (T.sizeOf t) fun n=>by
 split
 ·exact T.then (T.stuck _) fun _=>T.storeCells _ _ _
 ·exact T.then (T.pure _) fun _=>T.storeCells _ _ _
theorem T.part(t:s8)(cs:Array tj)(off:Nat):T P (part t cs off):=T.then (T.isAgg t) fun b=>by
 split
 ·exact T.then (T.sizeOf _) fun _=>T.pure _
 ·exact Wie
theorem T.asIntOf(v:tj):T P (asIntOf v):=by
 unfold Go.asIntOf
 split <;> first|exact T.pure _|exact T.stuck _|exact T.unsupported (by intro g h;cases h)
theorem T.asInt(v:tj):T P (asInt v):=T.then (T.asIntOf v) fun _=>T.pure _
theorem T.asBool(v:tj):T P (asBool v):=by unfold Go.asBool;split <;> first|exact T.pure _|exact T.stuck _
theorem T.asAgg(v:tj):T P (asAgg v):=by unfold Go.asAgg;split <;> first|exact T.pure _|exact T.stuck _
theorem T.asAddr(v:tj):T P (asAddr v):=by unfold Go.asAddr;split <;> first|exact T.pure _|exact T.stuck _|exact T.runtimePanic _
theorem T.sureAddr(v:tj):T P (Instr.sureAddr v):=by unfold Instr.sureAddr;split <;> first|exact T.pure _|exact T.stuck _
theorem T.boundsPanic(k:IntKind)(x y:Int)(c:BoundsCode):T P (boundsPanic k x y c:Sem α):=by
 unfold Go.boundsPanic
 split
 ·exact T.then (T.map _ (T.choose _)) fun _=>T.runtimePanic _
 ·exact T.then (T.pure _) fun _=>T.runtimePanic _
theorem T.askRoom(n:Nat):T P (askRoom n):=by unfold Go.askRoom;split <;> first|exact T.noRoom|exact T.pure _
theorem T.listMapM{γ δ:Type}{f:γ->Sem δ}(h:∀x,T P (f x)):∀l:List γ,T P (l.mapM f)
 | []=>by rw [List.mapM_nil];exact T.pure _
 | x :: l=>by rw [List.mapM_cons];exact T.then (h x) fun _=>T.then (T.listMapM h l) fun _=>T.pure _
theorem T.arrayMapM{γ δ:Type}{f:γ->Sem δ}(h:∀x,T P (f x))(l:Array γ):T P (l.mapM f):=by
 rw [Array.mapM_eq_mapM_toList]
 exact T.map _ (T.listMapM h _)
theorem T.results(fn:Func)(tmps:Array tj):T P (results fn tmps):=by
 unfold Go.results
 refine T.then (T.arrayMapM (fun x=>?_) _) fun _=>T.pure _
 split
 ·exact T.pure _
 ·exact T.then (T.asAddr _) fun _=>T.loadVar _ _
theorem T.val{S:Env}{s:Sem tj}(h:T P s):Ev P (Ta P S) (s >>= fun x=>Pure.pure (Next.value x)) A:=T.bind h fun _ _=>trivial
theorem T.unit{S:Env}{s:Sem Unit}(h:T P s):Ev P (Ta P S) (s >>= fun _=>Pure.pure Next.skip) A:=T.bind h fun _ _=>trivial
theorem tg{p:Prop}(h:p:=by repeat' first|(with_reducible first|exact T.pure _|exact T.stuck _|exact T.goPanic _|exact T.runtimePanic _|exact T.boundsPanic _ _ _ _|exact T.noEntry _|exact T.limit _|exact T.observed|exact T.unsafeP _|exact T.program|exact T.underlying _|exact T.typeInfo _|exact T.sizeOf _|exact T.zeroValue _|exact T.isAgg _|exact T.loadVar _ _|exact T.storeVar _ _ _|exact T.loadCells _ _|exact T.storeCells _ _ _|exact T.load _ _|exact T.store _ _ _|exact T.newRow _ _|exact T.newVar _ _|exact T.part _ _ _|exact T.asIntOf _|exact T.asInt _|exact T.asBool _|exact T.asString _|exact T.asAgg _|exact T.asAddr _|exact T.sureAddr _|exact T.askRoom _|exact T.choose _|exact T.noRoom|assumption|refine T.arrayMapM (fun _=>?_) _|refine T.then ?_ (fun _=>?_)|refine T.map _ ?_)|dsimp only|split):p:=h
theorem T.alloc(e:s8)(b:Bool)(v:tj):T P (Instr.alloc e b v):=by
 unfold Instr.alloc
 exact tg
theorem T.box(e:s8)(v:tj):T P (Instr.box e v):=by
 unfold Instr.box
 exact tg
theorem T.build(t:s8)(ps:Array (Nat×tj)):T P (Instr.build t ps):=by
 unfold Instr.build
 exact tg
theorem T.buildSlice(t:s8)(n:Nat)(ps:Array (Nat×tj)):T P (Instr.buildSlice t n ps):=by
 unfold Instr.buildSlice
 exact tg
theorem T.loadAt(t:s8)(a:tj):T P (Instr.loadAt t a):=by
 unfold Instr.loadAt
 exact tg
theorem T.storeAt(t:s8)(a x:tj):T P (Instr.storeAt t a x):=by
 unfold Instr.storeAt
 exact tg
theorem T.indexAt(t:s8)(x i:tj):T P (Instr.indexAt t x i):=by
 unfold Instr.indexAt
 exact tg
theorem T.index(t:s8)(x i:tj):T P (Instr.index t x i):=by
 unfold Instr.index
 exact tg
theorem T.sliceBound(x:tj)(y:Nat)(c:BoundsCode):T P (Instr.sliceBound x y c):=by
 unfold Instr.sliceBound
 exact tg
theorem T.sliceBounds(b:Bool)(l c:Nat)(lo hi mx:Option tj):T P (lj b l c lo hi mx):=by
 unfold lj
 repeat' first|(with_reducible first|exact T.sliceBound _ _ _|exact T.pure _|exact T.stuck _|refine T.then ?_ (fun _=>?_))|dsimp only|split
theorem T.slice(t:s8)(x:tj)(lo hi mx:Option tj):T P (Instr.slice t x lo hi mx):=by
 unfold Instr.slice
 repeat' first|(with_reducible first|exact T.sliceBounds _ _ _ _ _ _|exact T.pure _|exact T.stuck _|exact T.underlying _|exact T.sizeOf _|exact T.asAddr _|refine T.then ?_ (fun _=>?_))|dsimp only|split
theorem T.sliceAt(t:s8)(x:tj)(lo hi mx:Option tj):T P (Instr.sliceAt t x lo hi mx):=by
 unfold Instr.sliceAt
 repeat' first|(with_reducible first|exact T.sliceBounds _ _ _ _ _ _|exact T.slice _ _ _ _ _|exact T.pure _|exact T.stuck _|exact T.underlying _|exact T.sizeOf _|exact T.sureAddr _|refine T.then ?_ (fun _=>?_))|dsimp only|split
theorem T.makeSlice(t:s8)(l c:tj):T P (Instr.makeSlice t l c):=by
 unfold Instr.makeSlice
 exact tg
theorem T.extract(x:tj)(i:Nat):T P (Instr.extract x i):=by
 unfold Instr.extract
 exact tg
theorem T.field(t:s8)(x:tj)(i:Nat):T P (Instr.field t x i):=by
 unfold Instr.field
 exact tg
theorem T.makeFunc(f:Fn)(a b:Array tj):T P (Instr.makeFunc f a b):=T.pure _
theorem T.unary(op:UnOp)(x:tj):T P (Op.unary op x):=by
 unfold Op.unary Op.intArith Op.intBits
 exact tg
theorem T.lenOf(x:tj):T P (Builtin.lenOf x):=by
 unfold Builtin.lenOf
 exact tg
theorem T.firstCells(s n:Nat)(x:tj):T P (aj s n x):=by
 unfold aj
 exact tg
theorem T.copy(ts:Array s8)(t:s8)(xs:Array tj):T P (Builtin.copy_ ts t xs):=by
 unfold Builtin.copy_
 repeat' first|(with_reducible first|exact T.pure _|exact T.stuck _|exact T.underlying _|exact T.sizeOf _|exact T.lenOf _|exact T.firstCells _ _ _|exact T.storeCells _ _ _|refine T.then ?_ (fun _=>?_))|dsimp only|split
end
end Go.Pair
