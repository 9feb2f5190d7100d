import Derived.Test.YtjoblhlkfmeckaaGreatDoorQ06
import Derived.Test.YtjoblhlkfmeckaaGreatDoorQ04
import Derived.Test.YtjoblhlkfmeckaaGreatDoorQ01
set_option linter.unusedVariables false
set_option linter.unusedSimpArgs false
open Go renaming World → qq,Goroutine → gq,Value → tj,stepG → dx,Oper → gz,Program → me,yielded → iw,FuncId → du,undef → yj,Trace → bd,Loop → uh,Operand → vh,getObj → kn,wanted_put → zk,setObj → qf
open Bool renaming false → vp,true → s7
open Option renaming some → lp,none → od
open Go.Sem renaming runT_eq → lk,runT → qx,bind → rz
open Go.MemOp renaming ofEvents → iu
open Go.GStep renaming after → fw
open Go.Instr renaming beginRound → bq,takeDeferred → uj,getLoop → bu,enterLoop → vw,endRound → xy,yield → sq,endLoop → ah
open Go.stepG renaming exec → th
open Go.CallKind renaming early → um
open Pure renaming pure → ej
open Go.Conc renaming mem_seen → mu,mem_ofEvents → mv,deafBehind_still → tu,served → ay
open Array renaming replicate → yl
open Bind renaming bind → ri
open Go.Obj renaming isChan → s6
open Go.ConcN renaming Deaf_still → v8
open Go.Deferred renaming ofValue → zr
open Or renaming inl → af,inr → o5
theorem C3k{p:Prop}(h:p:=by
 obtain⟨e,hx,rfl⟩:=Conc.mem_ofEvents Bt
 obtain⟨a,rfl,_,hl⟩:=he e hx
 exact hl):p:=h
theorem P1y{p:Prop}(h:p:=by
 obtain⟨h1,h2,h3⟩:=O.ro a ha
 exact⟨fun⟨b,e,hb⟩=>by cases e;exact h1 hb,Ae,h3⟩):p:=h
theorem L53{p:Prop}(h:p:=by
 unfold Frame.finish Hw Gc
 simp only [ho,cW]
 cases o.dst <;> rfl):p:=h
theorem Kzz{p:Prop}(h:p:=by
 have he:=Qh (l:=l) (f:=f) (tmps:=tmps) (.inRegion ops (i :: rest) :: k)
 simp only [Hw] at he
 cases Bt:o.op <;> first|exact absurd Bt (hd _)|simp [G,stepG,stepG.exec,stepG.oper,Frame.oper?,Hw,ho,hw,he,Bt]):p:=h
theorem V5z{p:Prop}(h:p:=by
 by_cases hjk:j=k
 ·subst hjk;exact hjun
 ·rw [getD_set_ne true hjk] at hun;exact hun):p:=h
theorem Kqt{p:Prop}(h:p:=by
 rw [hr,List.getElem?_eq_none_iff] at hi
 exact absurd (Nat.mod_lt t (by simp:(x :: xs).length > 0)) Ab):p:=h
theorem T8r{p:Prop}(h:p:=by
 obtain rfl:oj=o:=aC (hj.symm.trans ho)
 rw [wanted_put oj a oi.dst x g1] at hw
 exact .unwanted oj ho hw ⟨hsame _,by rw [←Act.put_comm a x undef g2];exact h⟩):p:=h
theorem X5o{p:Prop}(h:p:=by
 have h1:=D9 e he hb
 have h0:=(mem_ready.1 hr).1
 rw [heq] at h1
 rcases cO i done.size with h'|h'
 ·simp [h'] at h0 h1;rw [h0] at h1;cases h1
 ·simp [cA h'] at h1):p:=h
theorem O7p{p:Prop}(h:p:=by
 rw [stepG_value ho hw hke (hr w)]
 unfold listed
 rw [he w]
 congr 1):p:=h
namespace Go.Pair
open Go Go.Conc
open Go.ConcN (sumTo upd sumTo_upd upd_ne upd_same)
structure BJ where
 ι:Type
 F:ι->qq->Prop
 B:ι->qq->Prop
 Mid:ι->tj->qq->Prop
def VC.on(C:VC)(M:BJ)(i:M.ι):VC:={ C with Facts:=M.F i,FB:=M.B i }
section
variable (C:VC) (Mid:BJ)
def VC.c1:Pu:={ C.cE with LA:=fun _ l x=>x=vp/\∃a,l=.cell a/\C.Ro a,LB:=fun _ l x=>¬C.J1 l∨(x=vp/\∃a,l=.cell a/\C.Ro a) }
structure Hg(w w':qq):Prop where
 size:w.heap.size<=w'.heap.size
 cell:∀a:Addr,C.Ro a->a.block<w.heap.size->w'.cell? a=w.cell? a
def VN(w w':qq)(es:Array Event):Prop:=w'=w/\∀e∈es,∃a,e=⟨.cell a,vp,vp⟩/\C.Ro a/\a.block<w.heap.size
def BE(g:gq):Prop:=
 g.status=.running/\(∃z,∀w,dx C.P s7 g w=.comm (core g) #[rcase C.Ch z] s7 (.recv s7) w #[]) /\
 ∀i x u w' d,Mid.Mid i x u->NF u->Ct C.J1 w' (u.at d)->NF w'->Fw C.P s7 (C.on Mid i).J2 (StopA (C.on Mid i)) (ay (core g) (.tuple #[x,.bool s7])) w'
def Ww(x z:tj)(g:gq)(v:qq):Prop:=
 g.status=.running/\(∀w,dx C.P vp g w=.comm (core g) #[scase C.Ch x z] s7 .send w #[])/\∃i,Mid.Mid i x v/\NF v /\
 ∀w' d,Ct C.J1 w' (v.at d)->Dq C.ty C.Wg w'->C.Bx w'->∃n,Goes C.P vp (Wz (C.on Mid i)) (LF (C.on Mid i)) (BCl (C.on Mid i)) n (ay (core g) yj) w'
def Rk(ra:Nat)(a:gq)(w:qq):Prop:=
 (∃n,ra=n+1/\Goes C.P s7 (Hg C) (VN C) (fun g _=>BE C Mid g) n a w)∨(ra=0/\∃g z,a=parked (core g) #[rcase C.Ch z] (.recv s7)/\BE C Mid g)
def Rm:Option Tree->Nat->gq->qq->Prop
 | none,rb,b,w=>∃n,rb=n+1/\Goes C.P vp (fun w w'=>∃d,w'=w.at d) (VN C) (fun g w=>Fw C.P vp C.J1 (fun g v=>∃x z,Ww C Mid x z g v) g (Cf w)) n b w
 | some T,rb,b,w=>(rb=1/\∃v,Ct C.J1 w v/\VO C.P vp C.J1 (fun g v=>∃x z,Ww C Mid x z g v) T b v)∨(rb=0/\∃g x z v,b=parked (core g) #[scase C.Ch x z] .send/\(∃d,Ct C.J1 w (v.at d))/\Ww C Mid x z g v)
structure LI(T:Option Tree)(ra rb:Nat)(a b:gq)(w:qq)(t:bd):Prop where
 ch:∃tm,w.heap[C.Ch]? = lp (.chan 0 #[] vp 0 0 tm)
 wg:D3 C.ty C.Wg w KK 0
 sa:Rk C Mid ra a w
 sb:Rm C Mid T rb b w
 ti:C.c1.TI t w 0 0
 nb:¬(ra=0/\rb=0)
 bx:C.Bx w
 fa:C.Fa w
def KT(T:Option Tree)(n:Nat):Mu:=match T with|none=>(3,.leaf,(0,n))|some T=>(2,T,(0,n))
def JP(μ:Mu)(a b:gq)(w:qq)(t:bd):Prop:=∃T ra rb,μ=KT T (ra+rb)/\LI C Mid T ra rb a b w t
def JV(μ:Mu)(a b:gq)(w:qq)(t:bd):Prop:=(∃i,JE (C.on Mid i) μ a b w t)∨(∃i,JB (C.on Mid i) μ a b w t)∨JP C Mid μ a b w t
end
section
variable {C:VC} {Mid:BJ} {w w' v:qq} {t:bd} {a b:gq} {T:Tree} {To:Option Tree} {s:BS} {ra rb:Nat} {μ:Mu}
theorem Hg.trans{a b c:qq}(h:Hg C a b)(h':Hg C b c):Hg C a c:=⟨aE h.size h'.size,fun x hx hl=>(h'.cell x hx (aB hl h.size)).trans (h.cell x hx hl)⟩
theorem Hg.refl(w:qq):Hg C w w:=⟨aA _,fun _ _ _=>rfl⟩
theorem Hg.of(h:Ht C.J1 w w'):Hg C w w':=⟨h.size,fun a ha hl=>h.cell a (o5 (o5 (o5 ⟨a,rfl,ha⟩))) hl⟩
theorem Xo{To:Option Tree}{n m:Nat}(h:n<m):M9 (KT To n) (KT To m):=by
 cases To with
 | none=>exact .right _ (.right _ (.right _ h))
 | some T=>exact .right _ (.right _ (.right _ h))
theorem VC.Ok.parts1(O:C.Ok):Tc C.Shun C.Wg C.Ch C.c1.LA C.c1.LB:=by
 refine⟨fun w l x y hA hB=>?_,fun w l x h=>?_,fun w l x h=>?_,fun w w' l x g h=>h,fun w w' l x g h=>h,O.wgS,fun h=>?_⟩
 ·obtain⟨rfl,a,rfl,ha⟩:=hA
  rcases hB with hB|⟨rfl,_⟩
  ·exact absurd (o5 (o5 (o5 ⟨a,rfl,ha⟩))) hB
  ·exact⟨rfl,rfl⟩
 ·obtain⟨_,a,rfl,ha⟩:=h
  exact P1y
 ·rcases h with h|⟨_,a,rfl,ha⟩
  ·exact⟨fun e=>h (af e),fun e=>h (o5 (af e)),fun e=>h (o5 (o5 (af e)))⟩
  ·exact P1y
 ·obtain⟨a,e,_⟩:=O.shun _ h
  cases e
theorem VC.Ok.cfg1(O:C.Ok):C.c1.Ok:={ O.cfg with parts:=O.parts1 }
theorem BI.at(O:C.Ok)(h:BI C T s rb a b w t)(d:Nat):BI C T s rb a b (w.at d) t:=by
 obtain⟨v,hs,hf⟩:=h.sa
 obtain⟨dB,Hp,Gs⟩:=h.sb
 exact⟨⟨v.at d,hs.at d,hf.at d⟩,⟨dB,TI.at O.cfg Hp d,Gs.rely (Uk d)⟩,h.wg,fun e1 e2=>⟨O.fb _ _ (Uk d) (h.rel e1 e2).1,(h.rel e1 e2).2⟩,fun e1=>O.fb _ _ (Uk d) (h.fb e1),h.fa⟩
theorem Rm.at(h:Rm C Mid To rb b w)(d:Nat):Rm C Mid To rb b (w.at d):=by
 cases To with
 | none=>
  obtain⟨n,e,hg⟩:=h
  exact⟨n,e,Goes.rely (fun _ _ _ ⟨d,h1⟩ ⟨d',h2⟩=>⟨d',by rw [h2,h1];rfl⟩) hg ⟨d,rfl⟩⟩
 | some T=>
  rcases h with⟨e,v,hs,hf⟩|⟨e,g,x,z,v,h1,h2,h3⟩
  ·exact af ⟨e,v.at d,hs.at d,hf.at d⟩
  ·obtain⟨d',h2⟩:=h2
   exact o5 ⟨e,g,x,z,v,h1,⟨d,h2.at d⟩,h3⟩
theorem Rk.mem(h:Rk C Mid ra a w)(hr:Hg C w w'):Rk C Mid ra a w':=by
 rcases h with⟨n,e,hg⟩|h
 ·exact af ⟨n,e,Goes.rely (R:=Hg C) (fun _ _ _ h k=>h.trans k) hg hr⟩
 ·exact o5 h
theorem LI.at(O:C.Ok)(h:LI C Mid To ra rb a b w t)(d:Nat):LI C Mid To ra rb a b (w.at d) t:=
 ⟨h.ch,h.wg,h.sa.mem ⟨aA _,fun _ _ _=>rfl⟩,h.sb.at d,TI.at O.cfg1 h.ti d,h.nb,O.bx w (w.at d) (aA _) (fun _ _ _=>rfl) h.bx,h.fa⟩
theorem JV.at(O:C.Ok)(OI:∀i,(C.on Mid i).Ok)(d:Nat)(h:JV C Mid μ a b w t):JV C Mid μ a b (w.at d) t:=by
 rcases h with⟨i,μ0,e,h⟩|⟨i,T,s,rb,e,h⟩|⟨T,ra,rb,e,h⟩
 ·exact af ⟨i,μ0,e,h.at (OI i).cfg d⟩
 ·exact o5 (af ⟨i,T,s,rb,e,h.at (OI i) d⟩)
 ·exact o5 (o5 ⟨T,ra,rb,e,h.at O d⟩)
theorem JV.mute(O:C.Ok)(OI:∀i,(C.on Mid i).Ok){i:Nat}{fn:du}{pos:String}{es:Array Event}(h0:i≠0)(hk:i≠C.k)(hm:∀e∈es,Event.mute e=s7)(h:JV C Mid μ a b w t):JV C Mid μ a b w (t++iu i fn pos es):=by
 rcases h with⟨m,μ0,e,h⟩|⟨m,T,s,rb,e,h⟩|⟨T,ra,rb,e,h⟩
 ·exact af ⟨m,μ0,e,h.mute (OI m).cfg h0 hk hm⟩
 ·obtain⟨dB,Hp,Gs⟩:=h.sb
  refine o5 (af ⟨m,T,s,rb,e,h.sa,⟨dB,Ol (OI m).cfg Hp h0 hk hm _ _,Gs⟩,h.wg,fun e1 e2=>⟨(h.rel e1 e2).1,let⟨r,hR⟩:=(h.rel e1 e2).2;⟨r,hR.appOther fun op Bt=>?_⟩⟩,h.fb,h.fa⟩)
  obtain⟨e,he,rfl⟩:=mv Bt
  refine⟨hk,fun x=>?_⟩
  have:=hm e he
  obtain⟨loc,wr,sy⟩:=e
  cases loc with
  | mark m=>cases wr <;> cases sy <;> simp [MemAct.ofEvent] at x <;> subst x <;> simp [Event.mute] at this
  | _=>simp [Event.mute] at this
 ·exact o5 (o5 ⟨T,ra,rb,e,h.ch,h.wg,h.sa,h.sb,Ol O.cfg1 h.ti h0 hk hm _ _,h.nb,h.bx,h.fa⟩)
theorem Rk.status(h:Rk C Mid ra a w):(a.status=.running/\ra≠0)∨(a.status=.blocked/\ra=0):=by
 rcases h with⟨n,e,hg⟩|⟨e,g,z,rfl,_⟩
 ·exact af ⟨hg.running (fun _ _ h=>h.1) w (Hg.refl _),Ab⟩
 ·exact o5 ⟨rfl,e⟩
theorem NV{T:Tree}(hf:VO C.P vp C.J1 (fun g v=>∃x z,Ww C Mid x z g v) T b v):b.status=.running:=by
 cases T with
 | leaf=>obtain⟨x,z,h⟩:=hf.2 v.drawn;exact h.1
 | node f=>exact hf.2.1
theorem Rm.status(h:Rm C Mid To rb b w):(b.status=.running/\rb≠0)∨(b.status=.blocked/\rb=0):=by
 cases To with
 | none=>
  obtain⟨n,rfl,hg⟩:=h
  exact af ⟨hg.running (fun _ _ ⟨T,h⟩=>NV h) w ⟨w.drawn,rfl⟩,Ab⟩
 | some T=>
  rcases h with⟨e,v,hs,hf⟩|⟨e,g,x,z,v,rfl,_⟩
  ·exact af ⟨NV hf,Ab⟩
  ·exact o5 ⟨rfl,e⟩
theorem Rk.woken{P:me}(h:Rk C Mid ra a w){tm:Bool}{s r:Nat}(hc:w'.heap[C.Ch]? = lp (.chan 0 #[] vp s r tm))(g g':gq):woken P g g' w' a=a:=by
 rcases h with⟨n,e,hg⟩|⟨e,g,z,rfl,_⟩
 ·exact Ep (af (hg.running (fun _ _ h=>h.1) w (Hg.refl _)))
 ·exact woken_recv_open _ _ hc
theorem Rm.woken{P:me}(h:Rm C Mid To rb b w){tm:Bool}{s r:Nat}(hc:w'.heap[C.Ch]? = lp (.chan 0 #[] vp s r tm))(g g':gq):woken P g g' w' b=b:=by
 rcases h.status with⟨h1,_⟩|⟨_,h1⟩
 ·exact Ep (af h1)
 ·cases To with
  | none=>obtain⟨n,e,_⟩:=h;omega
  | some T=>
   rcases h with⟨e,_⟩|⟨_,g,x,z,v,rfl,_⟩
   ·omega
   ·exact woken_send_open _ _ hc
theorem JV.wake(O:C.Ok)(OI:∀i,(C.on Mid i).Ok)(g g':gq)(h:JV C Mid μ a b w t):∃μ',JV C Mid μ' (woken C.P g g' w a) (woken C.P g g' w b) w t:=by
 rcases h with⟨i,μ0,e,h⟩|⟨i,T,s,rb,e,h⟩|⟨T,ra,rb,e,h⟩
 ·obtain⟨μ1,h1⟩:=h.wake (OI i).cfg g g'
  exact⟨_,af ⟨i,μ1,rfl,h1⟩⟩
 ·obtain⟨dB,Hp,Gs⟩:=h.sb
  rw [Ep (af h.runA),Ep Gs.status]
  exact⟨μ,o5 (af ⟨i,T,s,rb,e,h⟩)⟩
 ·obtain⟨tm,hc⟩:=h.ch
  rw [h.sa.woken hc,h.sb.woken hc]
  exact⟨μ,o5 (o5 ⟨T,ra,rb,e,h⟩)⟩
theorem JV.awake(h:JV C Mid μ a b w t):awake a/\awake b/\(a.status=.running∨b.status=.running):=by
 have aw:∀{g:gq},(g.status=.running∨g.status=.blocked∨g.status=.finished)->Conc.awake g:=fun h t e=>by
  rcases h with x|x|x <;> rw [x] at e <;> cases e
 rcases h with⟨i,μ0,e,h⟩|⟨i,T,s,rb,e,h⟩|⟨T,ra,rb,e,h⟩
 ·exact h.awake
 ·obtain⟨dB,Hp,Gs⟩:=h.sb
  exact⟨aw (af h.runA),aw (Gs.status.imp id o5),af h.runA⟩
 ·rcases h.sa.status with⟨h1,_⟩|⟨h1,e1⟩
  ·exact⟨aw (af h1),aw (h.sb.status.imp (·.1) fun x=>af x.1),af h1⟩
  ·rcases h.sb.status with⟨h2,_⟩|⟨h2,e2⟩
   ·exact⟨aw (o5 (af h1)),aw (af h2),o5 h2⟩
   ·exact absurd ⟨e1,e2⟩ h.nb
theorem WU(O:C.Ok){o:Obj}(h:C.Bx w):C.Bx { w with heap:=w.heap.setIfInBounds C.Ch o }:=by
 refine O.bx w _ Ae (fun a ha hl=>?_) h
 unfold World.cell?
 rw [Gk (O.ro a ha).2.1]
theorem VS(O:C.Ok)(hbx:C.Bx w)(hfa:C.Fa w){tm:Bool}(hc:w.heap[C.Ch]? = lp (.chan 0 #[] vp 0 0 tm))(Hh:D3 C.ty C.Wg w KK 0)(Hp:C.c1.TI t w 0 0){ga gb:gq}{x z:tj}(hA:BE C Mid ga)(hs:∃d,Ct C.J1 w (v.at d))(hB:Ww C Mid x z gb v){m1 m2 m3 m4:MemOp}(h1:m1.g=C.k/\m1.act=.send C.Ch 0)(h2:m2.g=0/\m2.act=.recv C.Ch 0 0)(h3:m3.g=C.k/\m3.act=.sendDone C.Ch 0)(h4:m4.g=0/\m4.act=.recvDone C.Ch 0){μ2:Tree×(Nat×Nat)} :
  ∃μ',M9 μ' (2,μ2)/\JV C Mid μ' (ay (core ga) (.tuple #[x,.bool s7])) (ay (core gb) yj) (w.setChan C.Ch 0 #[] vp (0+1) (0+1) tm) (t++#[m1,m2,m3,m4]):=by
 obtain⟨d,hs⟩:=hs
 have hch:(w.setChan C.Ch 0 #[] vp (0+1) (0+1) tm).heap[C.Ch]? = lp (.chan 0 #[] vp (0+1) (0+1) tm):=Nw (Ax hc)
 have hs':Ct C.J1 (w.setChan C.Ch 0 #[] vp (0+1) (0+1) tm) (v.at d):=hs.putJ (o5 (af rfl)) hc rfl rfl
 obtain⟨i,hm,hn,ht⟩:=hB.2.2
 obtain⟨T,hf⟩:=hA.2.2 i x v _ d hm hn (hs'.mort hn) (Qc _)
 obtain⟨n,hg⟩:=ht _ d hs' ⟨KK,0,by
  have e:(w.setChan C.Ch 0 #[] vp (0+1) (0+1) tm).heap[C.Wg]? = w.heap[C.Wg]?:=Gk O.neq
  unfold D3 at Hh ⊢
  exact e.trans Hh⟩ (WU O hbx)
 refine⟨(1,T,(BS.op.rk,n+1)),.left _ _ Ad,o5 (af ⟨i,T,.op,n+1,rfl,⟨_,V9 _,hf⟩,⟨0,?_,rfl,⟨_,_,_,hch⟩,n,rfl,hg⟩,?_,fun e=>absurd rfl e,fun e=>absurd rfl e,VC.Fa.keep (C:=C) hfa (Oc (K:=fun _ _=>False) (w:=w) (o:=.chan 0 #[] vp (0+1) (0+1) tm) (c:=C.Ch) trivial (fun _ _ h=>h.elim)).far⟩)⟩
 ·exact UT O.hk Hp h1 h2 h3 h4 (by simp [World.setChan]) (Ax hch)
 ·have e:(w.setChan C.Ch 0 #[] vp (0+1) (0+1) tm).heap[C.Wg]? = w.heap[C.Wg]?:=Gk O.neq
  unfold D3 at Hh ⊢
  exact e.trans Hh
theorem ZV(O:C.Ok){dA dB:Nat}(h:C.c1.TI t w dA dB)(Di:w.heap.size<=w'.heap.size){es:Array Event}(he:∀e∈es,RJ C.J1 w'.heap.size e)(fn:du)(pos:String):C.c1.TI (t++iu C.k fn pos es) w' dA dB:=by
 have h':C.c1.TI t w' dA dB:=TI.move h (fun _ _ h=>h) (fun _ _ h=>h) Di
 have hob:∀r,C.J1 (.obj r)->r=C.Ch:=fun r hr=>by
  rcases hr with⟨a,e,_⟩|e|e|⟨a,e,_⟩
  ·cases e
  ·injection e
  ·obtain⟨a,e',_⟩:=O.shun _ e;cases e'
  ·cases e
 refine TI.appB O.parts1 O.hk h' (.refl _) (fun op Bt=>B6 Bt) (fun op Bt b hb _=>?_) ?_ (fun op Bt=>?_)
 ·obtain⟨e,hx,rfl⟩:=mv Bt
  have hK:=he e hx
  obtain⟨loc,wr,sy⟩:=e
  cases loc with
  | cell a=>
   left
   have:b.loc=.cell a:=by cases wr <;> cases sy <;> simp [MemAct.ofEvent,MemAct.touch?] at hb <;> subst hb <;> rfl
   exact af (by rw [this];exact hK.1)
  | obj r=>
   have hl:b.loc=.obj r:=by cases wr <;> cases sy <;> simp [MemAct.ofEvent,MemAct.touch?] at hb <;> subst hb <;> rfl
   by_cases hJ:C.J1 (.obj r)
   ·right
    rcases hK.1 with h1|⟨h1,h2⟩
    ·exact absurd hJ h1
    ·simp only at h1 h2
     subst h1 h2
     simp [MemAct.ofEvent,MemAct.touch?] at hb
     subst hb
     exact⟨o5 (by rw [hob r hJ]),rfl⟩
   ·left
    exact af (by rw [hl];exact hJ)
  | mark m=>cases m <;> first|exact hK.elim|(cases wr <;> cases sy <;> simp [MemAct.ofEvent,MemAct.touch?] at hb)
  | output=>exact hK.elim
  | goroutines=>exact hK.elim
 ·rw [Deaf_own,tu fun e hx=>?_]
  ·exact h.dB
  ·exact Kx7
 ·exact Rvv
theorem StepA.mono{P:me}{k:Nat}{K K':gq->gq->qq->bd->Prop}(h:StepA P k a b w t K)(hK:∀a b w t,K a b w t->K' a b w t):StepA P k a b w t K':=by
 rcases h with⟨a',w',es,h1,h2⟩|⟨a₂,c,z,es,s,r,tm,h1,h2,h3,h4⟩|⟨a₂,c,z,es,s,r,tm,b₂,v,z',h1,h2,h3,h4⟩|⟨a₂,c,z,es,s,r,tm,h1,h2,h3,h4⟩
 ·exact af ⟨a',w',es,h1,hK _ _ _ _ h2⟩
 ·exact o5 (af ⟨a₂,c,z,es,s,r,tm,h1,h2,h3,hK _ _ _ _ h4⟩)
 ·exact o5 (o5 (af ⟨a₂,c,z,es,s,r,tm,b₂,v,z',h1,h2,h3,hK _ _ _ _ h4⟩))
 ·exact o5 (o5 (o5 ⟨a₂,c,z,es,s,r,tm,h1,h2,h3,hK _ _ _ _ h4⟩))
theorem StepB.mono{P:me}{k:Nat}{K K':gq->gq->qq->bd->Prop}(h:StepB P k a b w t K)(hK:∀a b w t,K a b w t->K' a b w t):StepB P k a b w t K':=by
 rcases h with⟨a',w',es,h1,h2⟩|⟨a₂,c,v,z,es,s,r,tm,h1,h2,h3,h4⟩|⟨a₂,c,v,z,es,s,r,tm,b₂,z',h1,h2,h3,h4⟩
 ·exact af ⟨a',w',es,h1,hK _ _ _ _ h2⟩
 ·exact o5 (af ⟨a₂,c,v,z,es,s,r,tm,h1,h2,h3,hK _ _ _ _ h4⟩)
 ·exact o5 (o5 ⟨a₂,c,v,z,es,s,r,tm,b₂,z',h1,h2,h3,hK _ _ _ _ h4⟩)
theorem YF{x:Mu}{y z:Tree×(Nat×Nat)}(h:M9 x (2,y)):M9 x (3,z):=by
 obtain⟨x1,x2⟩:=x
 cases h with
 | left _ _ h=>exact .left _ _ Ab
 | right _ h=>exact .left _ _ Ab
theorem WG(O:C.Ok)(h:C.c1.TI t w 0 0){es:Array Event}(he:∀e∈es,∃a,e=⟨.cell a,vp,vp⟩/\C.Ro a/\a.block<w.heap.size)(fn:du)(pos:String):C.c1.TI (t++iu 0 fn pos es) w 0 0/\C.c1.TI (t++iu C.k fn pos es) w 0 0:=by
 have still:∀e∈es,e.loc≠.mark .disable/\e.loc≠.mark .enable:=fun e hx=>by obtain⟨a,rfl,_⟩:=he e hx;simp
 constructor
 ·refine TI.appA O.parts1 O.hk h (.refl _) (fun op Bt=>B6 Bt) (fun op Bt b hb _=>?_) ?_ (fun op Bt=>?_)
  ·obtain⟨e,hx,rfl⟩:=mv Bt
   obtain⟨a,rfl,ha,_⟩:=he e hx
   simp [MemAct.ofEvent,MemAct.touch?] at hb
   subst hb
   exact af ⟨rfl,a,rfl,ha⟩
  ·rw [Deaf_own,tu still];exact h.dA
  ·exact C3k
 ·refine TI.appB O.parts1 O.hk h (.refl _) (fun op Bt=>B6 Bt) (fun op Bt b hb _=>?_) ?_ (fun op Bt=>?_)
  ·obtain⟨e,hx,rfl⟩:=mv Bt
   obtain⟨a,rfl,ha,_⟩:=he e hx
   simp [MemAct.ofEvent,MemAct.touch?] at hb
   subst hb
   exact af (o5 ⟨rfl,a,rfl,ha⟩)
  ·rw [Deaf_own,tu still];exact h.dB
  ·exact C3k
theorem LI.stepA(O:C.Ok)(h:LI C Mid To ra rb a b w t)(D1:a.status=.running):StepA C.P C.k a b w t fun a' b' w' t'=>∃μ',M9 μ' (KT To (ra+rb))/\JV C Mid μ' a' b' w' t':=by
 obtain⟨tm,hc⟩:=h.ch
 rcases h.sa with⟨n,rfl,hg⟩|⟨_,g,z,rfl,_⟩
 rotate_left
 ·cases D1
 rcases hg.cases with E5|⟨n',rfl,Co⟩
 rotate_left
 ·obtain⟨g',w1,es,Dk,⟨rfl,Hf⟩,hG⟩:=Co w (Hg.refl _)
  refine af ⟨g',_,es,Dk,KT To (n'+1+rb),Xo Ab,o5 (o5 ⟨To,n'+1,rb,rfl,h.ch,h.wg,af ⟨n',rfl,hG⟩,?_,(WG O h.ti Hf _ _).1,Ab,h.bx,h.fa⟩)⟩
  rw [h.sb.woken hc];exact h.sb
 have hS:=E5 w (Hg.refl _)
 obtain⟨z,hcm⟩:=hS.2.1
 rcases h.sb.status with⟨hbr,hrb⟩|⟨_,hrb⟩
 ·
  refine o5 (af ⟨core a,C.Ch,z,#[],0,0,tm,hcm w,hc,by rw [hbr];simp,KT To (0+rb),Xo Ab,o5 (o5 ⟨To,0,rb,rfl,h.ch,h.wg,o5 ⟨rfl,a,z,rfl,hS⟩,h.sb,?_,Ab,h.bx,h.fa⟩)⟩)
  rw [Qd];exact h.ti
 ·
  cases To with
  | none=>obtain⟨m,e,_⟩:=h.sb;omega
  | some T=>
   rcases h.sb with⟨e,_⟩|⟨rfl,g,x,zb,v,rfl,hs,hB⟩
   ·omega
   ·refine o5 (o5 (af ⟨core a,C.Ch,z,#[],0,0,tm,core g,x,zb,hcm w,hc,rfl,?_⟩))
    have e0:∀l:bd,iu 0 a.frame.fn a.frame.place #[]++l=l:=fun l=>by simp [iu]
    rw [e0]
    exact VS O h.bx h.fa hc h.wg h.ti hS hs hB ⟨rfl,rfl⟩ ⟨rfl,rfl⟩ ⟨rfl,rfl⟩ ⟨rfl,rfl⟩
theorem LI.stepB1(O:C.Ok)(h:LI C Mid (lp T) ra rb a b w t)(D1:b.status=.running):StepB C.P C.k a b w t fun a' b' w' t'=>∃μ',M9 μ' (KT (lp T) (ra+rb))/\JV C Mid μ' a' b' w' t':=by
 obtain⟨tm,hc⟩:=h.ch
 rcases h.sb with⟨rfl,v,hs,hf⟩|⟨_,g,x,zb,v,rfl,_⟩
 rotate_left
 ·cases D1
 cases T with
 | node f=>
  obtain⟨hn,_,hf⟩:=hf
  obtain⟨b',v',Co,Bo⟩:=hf v.drawn
  obtain⟨w',es,h1,h2,h3,h4⟩:=Co.all w hs
  have hc':w'.heap[C.Ch]? = lp (.chan 0 #[] vp 0 0 tm):=h3.obj C.Ch _ (o5 (af rfl)) hc rfl
  refine af ⟨b',w',es,h1,KT (lp (f v.drawn)) (ra+1),.right _ (.left _ _ ⟨_,rfl⟩),o5 (o5 ⟨lp (f v.drawn),ra,1,rfl,⟨tm,hc'⟩,?_,?_,af ⟨rfl,v',h2,Bo⟩,ZV O h.ti h3.size h4 _ _,Ab,O.bx _ _ h3.size (fun a ha hl=>h3.cell a (o5 (o5 (o5 ⟨a,rfl,ha⟩))) hl) h.bx,h.fa.keep h3.far⟩)⟩
  ·have hw:=h.wg
   unfold D3 at hw ⊢
   rw [h3.row C.Wg (Rz h.wg) fun j=>af ⟨_,rfl,rfl⟩]
   exact hw
  ·rw [h.sa.woken hc'];exact h.sa.mem (Hg.of h3)
 | leaf=>
  obtain⟨x,z,hS⟩:=hf.2 v.drawn
  have hcm:=hS.2.1
  rcases h.sa with⟨n,rfl,hg⟩|⟨rfl,g,za,rfl,hA⟩
  ·have har:a.status=.running:=hg.running (fun _ _ h=>h.1) w (Hg.refl _)
   refine o5 (af ⟨core b,C.Ch,x,z,#[],0,0,tm,hcm w,hc,by rw [har];simp,KT (lp .leaf) (n+1+0),Xo Ab,o5 (o5 ⟨lp .leaf,n+1,0,rfl,h.ch,h.wg,af ⟨n,rfl,hg⟩,o5 ⟨rfl,b,x,z,v,rfl,⟨v.drawn,hs⟩,hS⟩,?_,Ab,h.bx,h.fa⟩)⟩)
   rw [Qd];exact h.ti
  ·refine o5 (o5 ⟨core b,C.Ch,x,z,#[],0,0,tm,core g,za,hcm w,hc,rfl,?_⟩)
   have e0:∀l:bd,iu C.k b.frame.fn b.frame.place #[]++l=l:=fun l=>by simp [iu]
   rw [e0]
   exact VS O h.bx h.fa hc h.wg h.ti hA ⟨v.drawn,hs⟩ hS ⟨rfl,rfl⟩ ⟨rfl,rfl⟩ ⟨rfl,rfl⟩ ⟨rfl,rfl⟩
theorem LI.stepB(O:C.Ok)(h:LI C Mid To ra rb a b w t)(D1:b.status=.running):StepB C.P C.k a b w t fun a' b' w' t'=>∃μ',M9 μ' (KT To (ra+rb))/\JV C Mid μ' a' b' w' t':=by
 cases To with
 | some T=>exact h.stepB1 O D1
 | none=>
  obtain⟨tm,hc⟩:=h.ch
  obtain⟨n,rfl,hg⟩:=h.sb
  rcases hg.cases with E5|⟨n',rfl,Co⟩
  ·obtain⟨T,hf⟩:=E5 w ⟨w.drawn,rfl⟩
   have h':LI C Mid (lp T) ra 1 a b w t:=⟨h.ch,h.wg,h.sa,af ⟨rfl,Cf w,V9 _,hf⟩,h.ti,Ab,h.bx,h.fa⟩
   refine(h'.stepB1 O D1).mono fun a b w t ⟨μ',hl,hJ⟩=>⟨μ',?_,hJ⟩
   exact YF hl
  ·obtain⟨g',w1,es,Dk,⟨rfl,Hf⟩,hG⟩:=Co w ⟨w.drawn,rfl⟩
   refine af ⟨g',_,es,Dk,KT od (ra+(n'+1)),Xo Ab,o5 (o5 ⟨od,ra,n'+1,rfl,h.ch,h.wg,?_,⟨n',rfl,hG⟩,(WG O h.ti Hf _ _).2,Ab,h.bx,h.fa⟩)⟩
   rw [h.sa.woken hc];exact h.sa
theorem JV.step(O:C.Ok)(OI:∀i,(C.on Mid i).Ok)(h:JV C Mid μ a b w t):(∃i,Fin (C.on Mid i).cE [()] a b w t)∨((a.status=.running->StepA C.P C.k a b w t fun a' b' w' t'=>∃μ',M9 μ' μ/\JV C Mid μ' a' b' w' t')/\(b.status=.running->StepB C.P C.k a b w t fun a' b' w' t'=>∃μ',M9 μ' μ/\JV C Mid μ' a' b' w' t')):=by
 rcases h with⟨i,μ0,rfl,h⟩|⟨i,T,s,rb,rfl,h⟩|⟨T,ra,rb,rfl,h⟩
 ·rcases h.step (OI i).cfg with h1|⟨h1,h2⟩
  ·exact af ⟨i,h1⟩
  ·exact o5 ⟨fun hr=>(h1 hr).mono fun a b w t ⟨μ',hl,hJ⟩=>⟨_,.right _ (.right _ hl),af ⟨i,μ',rfl,hJ⟩⟩,fun hr=>(h2 hr).mono fun a b w t ⟨μ',hl,hJ⟩=>⟨_,.right _ (.right _ hl),af ⟨i,μ',rfl,hJ⟩⟩⟩
 ·cases T with
  | leaf=>
   obtain⟨μ0,hJ⟩:=h.end (OI i)
   rcases hJ.step (OI i).cfg with h1|⟨h1,h2⟩
   ·exact af ⟨i,h1⟩
   ·exact o5 ⟨fun hr=>(h1 hr).mono fun a b w t ⟨μ',hl,hJ⟩=>⟨(0,.leaf,μ'),.left _ _ Ad,af ⟨i,μ',rfl,hJ⟩⟩,fun hr=>(h2 hr).mono fun a b w t ⟨μ',hl,hJ⟩=>⟨(0,.leaf,μ'),.left _ _ Ad,af ⟨i,μ',rfl,hJ⟩⟩⟩
  | node f=>
   refine o5 ⟨fun _=>?_,fun hr=>?_⟩
   ·obtain⟨a',w',es,h1,d,h2⟩:=h.stepA (OI i)
    exact af ⟨a',w',es,h1,(1,f d,(s.rk,rb)),.right _ (.left _ _ ⟨d,rfl⟩),o5 (af ⟨i,f d,s,rb,rfl,h2⟩)⟩
   ·obtain⟨b',w',es,h1,s',rb',hl,h2⟩:=h.stepB (OI i) hr
    exact af ⟨b',w',es,h1,(1,.node f,(s'.rk,rb')),.right _ (.right _ hl),o5 (af ⟨i,_,s',rb',rfl,h2⟩)⟩
 ·exact o5 ⟨h.stepA O,h.stepB O⟩
theorem DG(O:C.Ok)(OI:∀i,(C.on Mid i).Ok){gs:Array gq}{sl:Option (Nat×Nat)}{q:Nat->Nat}(h0:gs[0]? = lp a)(hb:gs[C.k]? = lp b)(hO:Jz C.P t gs C.k q)(hJ:JV C Mid μ a b w t) :
  ∃(N:Nat) (gs':Array gq) (a':gq) (w':qq) (sl':Option (Nat×Nat)) (t':bd) (q':Nat->Nat),
   runNT C.P N (crowd gs w sl) t=(.next (crowd gs' w' sl'),t')/\gs'.size=gs.size/\gs'[0]? = lp a'/\a'.status=.running/\C.PostA a' w'/\(∃i,Mid.B i w'/\(C.on Mid i).Msg w')/\Wy C.ty C.Wg C.Ch w' /\
   Leavers C.P t' gs' q'/\Past (fun l=>C.Shun l∨Hy C.Wg l) w'.heap.size t':=by
 obtain⟨N,gs',a',b',w',sl',t',q',hr,hz,x0,xb,xF,xO⟩:=Z4 (P:=C.P) (k:=C.k) (lt:=M9) (J:=JV C Mid) (Fin:=fun a b w t=>∃i,Fin (C.on Mid i).cE [()] a b w t) O.hk OF
  (fun μ a b w t d h=>h.at O OI d) (fun a b w t d ⟨i,h⟩=>⟨i,h.back (OI i).cfg d⟩) (fun μ a b w t i fn pos es h0 hk hm h=>h.mute O OI h0 hk hm) (fun μ a b w t g g' h=>h.wake O OI g g') (fun μ a b w t h=>h.awake) (fun μ a b w t h=>h.step O OI)
  (sumTo gs.size q) μ gs a b w sl t q (aA _) h0 hb hO hJ
 obtain⟨i0,xF⟩:=xF
 obtain⟨n,hq⟩:=xF.quits
 obtain⟨sent,hs1,hp,hfb,hmsg⟩:=xF.post
 have Cu:∃x,x∈sent:=by
  cases sent with
  | nil=>cases hs1
  | cons x l=>exact⟨x,Ae⟩
 obtain⟨x,hx⟩:=Cu
 refine⟨N,gs',a',w',sl',t',upd q' C.k n,hr,hz,x0,xF.run,hp,⟨i0,hfb,hmsg x hx⟩,xF.shut,⟨fun i g hi hg=>?_,xO.above⟩,xF.past⟩
 exact Mgr
end
open Go.ConcN (sumTo upd sumTo_upd upd_ne upd_same)
section
variable {P:me} {Post:tj->qq->Prop} {Shun:Loc->Prop} {d:Nat} {g:gq} {w:qq}
theorem Ends.forkV(D1:g.status=.running)(h:∀n k,0<k->∃(C:VC) (Mid:BJ) (a' child:gq) (tm:Bool) (nA nB:Nat),C.P=P/\C.k=k/\C.Shun=Shun/\C.Ok/\(∀i,(C.on Mid i).Ok)/\dx P s7 g (w.at n)=.spawn a' child (w.at n) #[] /\
   w.heap[C.Ch]? = lp (.chan 0 #[] vp 0 0 tm)/\D3 C.ty C.Wg w KK 0/\C.Bx (w.at n)/\C.Fa w/\Goes C.P s7 (Hg C) (VN C) (fun g _=>BE C Mid g) nA a' (w.at n)/\Goes C.P vp (fun w w'=>∃d,w'=w.at d) (VN C) (fun g w=>Fw C.P vp C.J1 (fun g v=>∃x z,Ww C Mid x z g v) g (Cf w)) nB child (w.at n) /\
   ∀i g' w',g'.status=.running->C.PostA g' w'->Mid.B i w'->(C.on Mid i).Msg w'->Wy C.ty C.Wg C.Ch w'->Ends P Post (fun l=>Shun l∨Hy C.Wg l) 0 g' w'):Ends P Post Shun 0 g w:=by
 suffices H:∀(M:Nat) (gs:Array gq) (w₁:qq) (sl:Option (Nat×Nat)) (t:bd) (q:Nat->Nat),(∃n,w₁=w.at n)->sumTo gs.size q<=M->gs[0]? = lp g->Leavers P t gs q->Iq Shun w.heap.size 0 t ->
   ∃N last o w' t',runNT P (N+1) (crowd gs w₁ sl) t=(.ended o w',t')/\runN P N (crowd gs w₁ sl)=.next last/\Go.step P last=.ended o w'/\Good P Post last o w' t' from
  fun gs sl t q h0 hL hP=>H _ gs w sl t q ⟨w.drawn,rfl⟩ (aA _) h0 hL hP
 intro M
 induction M using Nat.strongRecOn with
 | _ M ihM=>
 rintro gs w₁ sl t q ⟨n₁,rfl⟩ hM h0 hL hP
 have hlt0:0<gs.size:=(aF.1 h0).1
 have haw:∀x∈gs,awake x:=by
  exact Qcp
 obtain⟨i,x,n,sl',hi,hx,Dk⟩:=crowd_pick (P:=P) (w:=w.at n₁) (sl:=sl) haw ⟨0,g,h0,D1⟩
 have eat:(w.at n₁).at n=w.at n:=rfl
 rw [eat] at Dk
 rcases cX i with rfl|H9
 ·obtain rfl:x=g:=by rw [h0] at hi;exact(aC hi).symm
  obtain⟨C,Mid,a',child,tm,nA,nB,hCP,hCk,hCS,O,OI,hs,hch,Hh,hbx,hfa,hA,hB,hpost⟩:=h n gs.size hlt0
  subst hCP hCS
  refine Hqw ?_;intro hrunT hops
  rw [hops] at hrunT
  have Co:=Dk.trans hrunT
  have Hp:=GH (C:=C.c1) (w:=w.at n) (t:=t) O.hk hP.to (hL.above C.k Ab) x.frame.fn child.frame.fn x.frame.place x.frame.place
  have hn:∀op∈(#[({ g:=0,fn:=x.frame.fn,pos:=x.frame.place,act:=.go C.k }:MemOp),{ g:=C.k,fn:=child.frame.fn,pos:=x.frame.place,act:=.start }]:bd),op.act≠.mark .disable/\op.act≠.mark .enable:=fun op Bt=>by
   simp at Bt
   rcases Bt with rfl|rfl <;> simp
  refine F1f ?_;intro hkb
  obtain⟨N,gs',a'',w',sl'',t',q',hr,hz,x0,xrun,xpost,⟨i0,xfb,xmsg⟩,xE,xL,xP⟩:=DG (C:=C) (Mid:=Mid) (a:=a') (b:=child) (w:=w.at n) (sl:=sl') (q:=q) O OI
   (gs:=(gs.setIfInBounds 0 a').push child) (t:=t++#[({ g:=0,fn:=x.frame.fn,pos:=x.frame.place,act:=.go C.k }:MemOp),{ g:=C.k,fn:=child.frame.fn,pos:=x.frame.place,act:=.start }])
   (by rw [cP (by simpa using hlt0)];simp [hlt0]) hkb
   ⟨fun j y hj hjk hy=>by
    have Cg:j<gs.size:=by
     have:=(aF.1 hy).1
     simp at this
     omega
    rw [cP (by simpa using Cg)] at hy
    rw [v8 t j _ hn]
    refine hL.old j y hj ?_
    have e:(gs.setIfInBounds 0 a')[j]? = lp y:=by
     rw [aZ (by simpa using Cg)];exact hy
    rwa [aD Ab] at e,
    fun j hj=>by
    rw [v8 t j _ hn]
    refine hL.above j ?_
    simp at hj
    omega⟩
   (μ:=KT od (nA+1+(nB+1)))
   (o5 (o5 ⟨od,nA+1,nB+1,rfl,⟨tm,hch⟩,Hh,af ⟨nA,rfl,hA⟩,⟨nB,rfl,hB⟩,Hp,Ab,hbx,hfa⟩))
  obtain⟨N2,last,o,wf,tf,r1,r2,r3,r4⟩:=hpost i0 a'' w' xrun xpost xfb xmsg xE gs' sl'' t' q' x0 xL (.of xP)
  exact Mr8
 ·exact Mfz
end
section
variable {P:me} {main:Bool} {J:Loc->Prop} {Stop:gq->qq->Prop} {g:gq} {v w:qq} {α:Type}
theorem EV.sem{s:Sem α}{Q:α->Prop}(Gd:α->gq->Prop)(hr:g.status=.running)(hT:Ev P Q s (fun _=>False))(Dk:∀a g',Gd a g'->∀w w' es,s.runT P w #[]=(.ok a w',es)->∃Fi,dx P main g w=.go g' w' Fi/\∀e∈Fi,e∈es)(H:∀d,∃a v' g',Gd a g'/\s.run P (v.at d)=.ok a v'/\(∀e∈s.events P (v.at d) #[],EvJ J v'.heap.size e)/\g'.status=.running/\EV P main J Stop g' v'):EV P main J Stop g v:=by
 refine EV.step hr fun hn d=>?_
 obtain⟨a,v',g',h0,h1,h2,h3,h4⟩:=H d
 have hrT:s.runT P (v.at d) #[]=(.ok a v',s.events P (v.at d) #[]):=by rw [lk,h1]
 obtain⟨_,_,_,h5,h6⟩:=Ja (J:=J) _ _ (v.at d).heap.size (v.at d) (v.at d) #[] _ _ _ hT (fun i hi=>⟨(hn.2 i hi).lt,hn.2 i hi⟩) (aA _) (fun _ h=>h.elim) (show NF (v.at d) from hn.1) (.refl _) hrT ⟨_,h2⟩
 refine⟨g',v',⟨h3,⟨h5,fun i hi=>(show Fb (v.at d) i from hn.2 i hi).moved h6.2 hi⟩,h6.2,fun u hs=>?_⟩,h4⟩
 obtain⟨u',r1,r2,r3,r4,r5⟩:=Ja (J:=J) _ _ (v.at d).heap.size u (v.at d) #[] _ _ _ hT (fun i hi=>⟨(hn.2 i hi).lt,hn.2 i hi⟩) (aA _) (fun _ h=>h.elim) (show NF (v.at d) from hn.1) hs hrT ⟨_,h2⟩
 obtain⟨Fi,k1,k2⟩:=Dk a g' h0 u u' _ r1
 exact⟨u',Fi,k1,r2,r4,fun e he=>by rw [←r2.size];exact(h2 e (k2 e he)).k⟩
def Hw(l:Nat)(f:du)(tmps:Array tj)(todo:List Item):Frame:={ fn:=f,tmps,todo,defers:=[],mode:=.run,kind:=.normal,roundOf:=lp l }
variable {l:Nat} {f:du} {tmps:Array tj} {k:List Item} {cs:List Frame}
theorem Ux{id:Nat}{ops:Array gz}:dx P main (G (Hw l f tmps (.code (.region id ops vp) :: k)) cs) w=.go (G (Hw l f tmps (.inRegion ops (List.range ops.size) :: k)) cs) w:=by simp [G,dx,th,Hw]
theorem Nx{ops:Array gz}:dx P main (G (Hw l f tmps (.inRegion ops [] :: k)) cs) w=.go (G (Hw l f tmps k) cs) w:=by simp [G,dx,th,Hw]
theorem JO{id:Nat}{c:Code}:dx P main (G (Hw l f tmps (.code (.block id c) :: k)) cs) w=.go (G (Hw l f tmps (.code c :: .inBlock id :: k)) cs) w:=by simp [G,dx,th,Hw]
theorem AF{id:Nat}:dx P main (G (Hw l f tmps (.inBlock id :: k)) cs) w=.go (G (Hw l f tmps k) cs) w:=by simp [G,dx,th,Hw]
def rev(tmps:Array tj):Act:={ tmps,defers:=[] }
theorem Qh(it:List Item):(Hw l f tmps it).eval=(rev tmps).eval:=by funext x;cases x <;> rfl
theorem EV.rop{S:Env}{ops:Array gz}{i:Nat}{rest:List Nat}{o:gz}(ho:ops[i]? = lp o)(hw:Region.wanted o (iw ops tmps)=s7)(hd:∀c,o.op≠.defer c)(hT:Sj P S f o)(Ga:S.reg f tmps)(H:∀d,∃x v',Yields P (execOp (rev tmps).eval o) (v.at d) x v'/\(∀e∈(execOp (rev tmps).eval o).events P (v.at d) #[],EvJ J v'.heap.size e)/\EV P main J Stop (G (Hw l f (Gc o.dst x tmps) (.inRegion ops rest :: k)) cs) v') :
  EV P main J Stop (G (Hw l f tmps (.inRegion ops (i :: rest) :: k)) cs) v:=by
 have hT':Ev P (Ta P S) (execOp (rev tmps).eval o) (fun _=>False):=by
  have:=hT.tame (Hw l f tmps []) Ga
  rwa [Qh] at this
 have hap:∀w,dx P main (G (Hw l f tmps (.inRegion ops (i :: rest) :: k)) cs) w=stepG.apply P s7 (Hw l f tmps (.inRegion ops (i :: rest) :: k)) cs od (execOp (rev tmps).eval o) w:=fun w=>by
  exact Kzz
 have Gw:∀x,(Hw l f tmps (.inRegion ops (i :: rest) :: k)).finish x=Hw l f (Gc o.dst x tmps) (.inRegion ops rest :: k):=fun x=>by
  exact L53
 have hkind:((Hw l f tmps (.inRegion ops (i :: rest) :: k)).kind == um)=vp:=rfl
 refine EV.sem (s:=execOp (rev tmps).eval o) (fun n g'=>∃x,(n=.value x∨(n=.skip/\x=yj))/\g'=G ((Hw l f tmps (.inRegion ops (i :: rest) :: k)).finish x) cs) (Q:=Ta P S) rfl hT' (fun n g' hg w w' es hr=>?_) (fun d=>?_)
 ·refine⟨seen P f es,?_,fun e he=>mu he⟩
  rw [hap]
  obtain⟨x,hx,rfl⟩:=hg
  rcases hx with rfl|⟨rfl,rfl⟩
  ·simp only [stepG.apply,hr,bC,hkind]
   simp [fw,G,Hw]
  ·simp only [stepG.apply,hr,bC,hkind]
   simp [fw,G,Hw]
 ·obtain⟨x,v',hy,he,hE⟩:=H d
  rcases hy with hy|⟨hy,rfl⟩
  ·exact⟨.value x,v',_,⟨x,af rfl,rfl⟩,hy,he,rfl,by rw [Gw];exact hE⟩
  ·exact⟨.skip,v',_,⟨yj,o5 ⟨rfl,rfl⟩,rfl⟩,hy,he,rfl,by rw [Gw];exact hE⟩
def E7(v:qq)(l:Nat)(r:uh):Prop:=v.heap[l]? = lp (.loop r)
theorem T.getLoopA{β:Type}{h:uh->Sem β}(hf:∀r,TA P l (h r)):T P (bu l >>= h):=by
 unfold bu
 rw [bind_assoc]
 refine T.getHold (fun o ho=>?_) (fun o ho=>?_) (fun _ _=>trivial)
 ·cases o <;> first|exact T.ta (T.stuckThen _ _)|(rw [pure_bind];exact hf _)
 ·cases o <;> first|exact T.stuckThen _ _|exact absurd ⟨trivial,rfl,rfl⟩ ho
theorem T.endRound(j:Option Code):T P (xy l j):=by
 unfold xy
 exact T.getLoopA fun r=>TA.bind (TA.setObj trivial rfl) fun _=>T.ta (T.pure _)
theorem T.endLoop:T P (ah l):=by
 unfold ah
 refine T.getLoopA fun r=>?_
 split
 ·exact TA.then (T.runtimePanic _) fun _=>TA.bind (TA.setObj trivial rfl) fun _=>T.ta (T.pure _)
 ·exact TA.bind (TA.setObj trivial rfl) fun _=>T.ta (T.pure _)
theorem T.beginRound:T P (bq l):=by
 unfold bq
 refine T.getLoopA fun r=>TA.bind (TA.setObj trivial rfl) fun _=>?_
 split <;> first|exact T.ta (T.pure _)|exact T.ta (T.runtimePanic _)
theorem T.yield(as:Array tj):T P (sq l as):=by
 unfold sq
 refine T.getLoopA fun r=>?_
 split
 ·exact T.ta (T.stuckThen _ _)
 ·exact T.ta (T.pure _)
theorem T.takeDeferred(b:Nat):T P (uj b):=by
 unfold uj
 refine T.getHold (fun o ho=>?_) (fun o ho=>?_) (fun _ _=>trivial)
 ·cases o <;> first|exact T.ta (T.stuck _)|skip
  rename_i ds
  cases ds with
  | none=>exact T.ta (T.stuck _)
  | some ds=>exact TA.bind (TA.setObj trivial rfl) fun _=>T.ta (T.pure _)
 ·cases o <;> first|exact T.stuck _|exact absurd ⟨trivial,rfl,rfl⟩ ho
def Ey(v:qq)(l:Nat)(r:uh):qq:={ v with heap:=v.heap.setIfInBounds l (.loop r) }
theorem EB{r:uh}(h:E7 w l r)(hr:r.state=.ready):(do bq l;ej Next.skip:Sem Next).runT P w #[]=(.ok .skip (Ey w l { r with state:=.busy }),#[⟨.obj l,vp,vp⟩,⟨.obj l,s7,vp⟩]):=by
 unfold E7 at h
 simp [-lk,bq,bu,kn,qf,ri,rz,ej,qx,h,hr,s6,Ey]
theorem Vu{r:uh}(h:E7 w l r):(xy l od).runT P w #[]=(.ok (.bool s7) (Ey w l { r with state:=.ready,pending:=od }),#[⟨.obj l,vp,vp⟩,⟨.obj l,s7,vp⟩]):=by
 unfold E7 at h
 simp [-lk,xy,bu,kn,qf,ri,rz,ej,qx,h,s6,Ey]
theorem X8{r:uh}(h:E7 w l r)(hr:r.state=.ready):(ah l).runT P w #[]=(.ok r.pending (Ey w l { r with state:=.exhausted }),#[⟨.obj l,vp,vp⟩,⟨.obj l,s7,vp⟩]):=by
 unfold E7 at h
 have e:(LoopState.ready == LoopState.busy)=vp:=rfl
 simp [-lk,ah,bu,kn,qf,ri,rz,ej,qx,h,hr,e,s6,Ey]
theorem EC{r:uh}(h:E7 w l r){as:Array tj}(hs:as.size=r.params.size):(sq l as).runT P w #[]=(.ok (.round l r.fn ((r.params.zip as).foldl (fun tmps (t,a)=>tmps.setIfInBounds t a) r.tmps) r.assign r.body) w,#[⟨.obj l,vp,vp⟩]):=by
 unfold E7 at h
 simp [-lk,sq,bu,kn,ri,rz,ej,qx,h,hs,s6]
theorem JQ{b:Nat}(h:w.heap[b]? = lp (.deferred (lp []))):(uj b).runT P w #[]=(.ok [] { w with heap:=w.heap.setIfInBounds b (.deferred od) },#[⟨.obj b,vp,vp⟩,⟨.obj b,s7,vp⟩]):=by
 simp [-lk,uj,kn,qf,ri,rz,ej,qx,h,s6]
theorem Uy(params:Array Tmp)(assign body:Code):(vw f tmps params assign body od).runT P w #[]=(.ok (w.heap.size+1,[{ target:=.collected w.heap.size,args:=#[] }]) { w with heap:=(w.heap.push (.deferred (lp []))).push (.loop { state:=.ready,pending:=od,fn:=f,tmps,params,assign,body,defers:=w.heap.size }) },#[]):=by
 simp [-lk,vw,Go.newObj,ri,rz,ej,qx]
theorem EV.semT{s:Sem α}{Q:α->Prop}(Gd:α->gq->Prop)(hr:g.status=.running)(hT:Ev P Q s (fun _=>False))(Dk:∀a g',Gd a g'->∀w w' es,s.runT P w #[]=(.ok a w',es)->∃Fi,dx P main g w=.go g' w' Fi/\∀e∈Fi,e∈es)(H:∀d,∃a v' es g',Gd a g'/\s.runT P (v.at d) #[]=(.ok a v',es)/\(∀e∈es,EvJ J v'.heap.size e)/\g'.status=.running/\EV P main J Stop g' v'):EV P main J Stop g v:=
 EV.sem Gd hr hT Dk fun d=>by
  obtain⟨a,v',es,g',h0,h1,h2,h3,h4⟩:=H d
  rw [lk] at h1
  obtain⟨e1,e2⟩:=eL h1
  exact⟨a,v',g',h0,e1,by rw [e2];exact h2,h3,h4⟩
theorem Tv{B:Nat}(hJ:¬J (.obj l))(hl:l<B):∀e∈(#[⟨.obj l,vp,vp⟩,⟨.obj l,s7,vp⟩]:Array Event),EvJ J B e:=fun e he=>by
 simp at he
 rcases he with rfl|rfl <;> exact⟨hJ,hl⟩
theorem Jo(v:qq)(l:Nat)(r:uh):(Ey v l r).heap.size=v.heap.size:=by simp [Ey]
theorem EV.begin{r:uh}(hl:E7 v l r)(hr:r.state=.ready)(hJ:¬J (.obj l))(hE:∀d,EV P main J Stop (G (Hw l f tmps k) cs) (Ey (v.at d) l { r with state:=.busy })):EV P main J Stop (G (Hw l f tmps (.beginRound :: k)) cs) v:=by
 have Cg:=(aF.1 hl).1
 refine EV.semT (s:=(do bq l;ej Next.skip:Sem Next)) (fun n g'=>n=.skip/\g'=G (Hw l f tmps k) cs) (Q:=fun _=>True) rfl (T.then (T.beginRound (l:=l)) (fun _=>T.pure _) _) (fun n g' hg w w' es hr=>?_) (fun d=>?_)
 ·obtain⟨rfl,rfl⟩:=hg
  refine⟨seen P f es,?_,fun e he=>mu he⟩
  have hap:dx P main (G (Hw l f tmps (.beginRound :: k)) cs) w=stepG.apply P s7 (Hw l f tmps (.beginRound :: k)) cs od (do bq l;ej Next.skip) w:=by
   simp [G,dx,th,Hw]
  have hkind:((Hw l f tmps (.beginRound :: k)).kind == um)=vp:=rfl
  rw [hap]
  simp only [stepG.apply,hr,bC,hkind]
  simp [fw,G,Hw,Frame.finish]
 ·exact⟨.skip,_,_,_,⟨rfl,rfl⟩,EB (show E7 (v.at d) l r from hl) hr,Tv hJ (by rw [Jo];exact Cg),rfl,hE d⟩
theorem EV.endRound{r:uh}{c:Frame}(hl:E7 v l r)(hJ:¬J (.obj l))(hE:∀d,EV P main J Stop (G (c.finish (.bool s7)) cs) (Ey (v.at d) l { r with state:=.ready,pending:=od })):EV P main J Stop (G (Hw l f tmps []) (c :: cs)) v:=by
 have Cg:=(aF.1 hl).1
 refine EV.semT (s:=xy l od) (fun x g'=>g'=G (c.finish x) cs) (Q:=fun _=>True) rfl (T.endRound od _) (fun n g' hg w w' es hr=>?_) (fun d=>?_)
 ·subst hg
  refine⟨seen P f es,?_,fun e he=>mu he⟩
  simp only [G,dx,th,Hw,hr,doReturn]
  simp [fw]
 ·exact⟨.bool s7,_,_,_,rfl,Vu (show E7 (v.at d) l r from hl),Tv hJ (by rw [Jo];exact Cg),rfl,hE d⟩
theorem EV.endLoop{r:uh}{b:Frame}{a:Act}(hl:E7 v l r)(hr:r.state=.ready)(hp:r.pending=od)(hJ:¬J (.obj l))(hE:∀d,EV P main J Stop (G (b.at a k) cs) (Ey (v.at d) l { r with state:=.exhausted })):EV P main J Stop (G (b.at a (.endRangeFunc l :: k)) cs) v:=by
 have Cg:=(aF.1 hl).1
 refine EV.semT (s:=ah l) (fun x g'=>x=od/\g'=G (b.at a k) cs) (Q:=fun _=>True) rfl (T.endLoop _) (fun n g' hg w w' es hr=>?_) (fun d=>?_)
 ·obtain⟨rfl,rfl⟩:=hg
  refine⟨seen P b.fn es,?_,fun e he=>mu he⟩
  simp only [G,dx,th,Frame.at,hr]
  simp [fw]
 ·exact⟨od,_,_,_,⟨rfl,rfl⟩,(X8 (show E7 (v.at d) l r from hl) hr).trans (by rw [hp]),Tv hJ (by rw [Jo];exact Cg),rfl,hE d⟩
theorem EV.taken{b:Frame}{a:Act}{todo:List Item}{bl:Nat}(hd:a.defers = [{ target:=.collected bl,args:=#[] }])(hb:v.heap[bl]? = lp (.deferred (lp [])))(hJ:¬J (.obj bl))(hE:∀d,EV P main J Stop (G { b.at { a with defers:=[] } todo with mode:=.returning } cs) { v.at d with heap:=v.heap.setIfInBounds bl (.deferred od) }):EV P main J Stop (G { b.at a todo with mode:=.returning } cs) v:=by
 have Cg:=(aF.1 hb).1
 refine EV.semT (s:=uj bl) (fun x g'=>x = []/\g'=G { b.at { a with defers:=[] } todo with mode:=.returning } cs) (Q:=fun _=>True) rfl (T.takeDeferred bl _) (fun n g' hg w w' es hr=>?_) (fun d=>?_)
 ·obtain⟨rfl,rfl⟩:=hg
  refine⟨seen P b.fn es,?_,fun e he=>mu he⟩
  simp only [G,dx,unwind,Frame.at,hd,hr]
  simp [fw]
 ·exact⟨[],_,_,_,⟨rfl,rfl⟩,JQ (show(v.at d).heap[bl]? = _ from hb),fun e he=>by simp at he;rcases he with rfl|rfl <;> exact⟨hJ,by simp;exact Cg⟩,rfl,hE d⟩
theorem EV.yield{r:uh}{b:Frame}{a:Act}{ops:Array gz}{i:Nat}{rest:List Nat}{o:gz}{fo:vh}{args:Array vh}{ats:Array TypeId}(ho:ops[i]? = lp o)(hw:Region.wanted o (iw ops a.tmps)=s7)(hk:b.kind=.normal)(Bt:o.op=.call { callee:=.value fo,args,argTypes:=ats })(hfo:a.eval fo=.func (.yield l) #[] #[])(hl:E7 v l r)(hs:args.size=r.params.size)(hJ:¬J (.obj l))(hE:∀d,EV P main J Stop (G (Hw l r.fn ((r.params.zip (args.map a.eval)).foldl (fun tmps (t,x)=>tmps.setIfInBounds t x) r.tmps) [.code r.assign,.beginRound,.code r.body]) (b.at a (.inRegion ops (i :: rest) :: k) :: cs)) (v.at d)) :
  EV P main J Stop (G (b.at a (.inRegion ops (i :: rest) :: k)) cs) v:=by
 have Cg:=(aF.1 hl).1
 have hex:execOp a.eval o=sq l (args.map a.eval):=by
  unfold execOp
  rw [Bt]
  show((zr (a.eval fo) (args.map a.eval)) >>= fun d=>invoke d.target d.args)=_
  rw [hfo]
  show invoke (.fn (.yield l) #[]) (#[]++args.map a.eval)=_
  rw [Array.empty_append]
  rfl
 refine EV.semT (s:=sq l (args.map a.eval)) (fun n g'=>∃l' f' tm as bo,n=.round l' f' tm as bo/\g'=G (Hw l' f' tm [.code as,.beginRound,.code bo]) (b.at a (.inRegion ops (i :: rest) :: k) :: cs)) (Q:=fun _=>True) rfl (T.yield (args.map a.eval) _) (fun n g' hg w w' es hr=>?_) (fun d=>?_)
 ·obtain⟨l',f',tm,as,bo,rfl,rfl⟩:=hg
  refine⟨seen P b.fn es,?_,fun e he=>mu he⟩
  have hkind:((b.at a (.inRegion ops (i :: rest) :: k)).kind == um)=vp:=by show(b.kind == um)=vp;rw [hk];rfl
  rw [stepG_oper ho hw,hex]
  simp only [stepG.apply,hr,bC,hkind]
  simp [fw,G,Hw,Frame.round,Frame.at]
 ·exact⟨_,v.at d,_,_,⟨_,_,_,_,_,rfl,rfl⟩,EC (show E7 (v.at d) l r from hl) (by simpa using hs),fun e he=>by simp at he;subst he;exact⟨hJ,Cg⟩,rfl,hE d⟩
theorem EV.enterLoop{b:Frame}{a:Act}{fo:vh}{params:Array Tmp}{assign body:Code}{h:du}{cap:Array tj}{Hz:Func}{c:Code}(hk:b.kind=.normal)(hfo:a.eval fo=.func (.func h) #[] cap)(hf:P.funcs[h]? = lp Hz)(Fo:(Hz.name == "runtime.NumGoroutine")=vp)(hbody:Hz.body=lp c)(hE:∀d,EV P main J Stop (G ((base h).at { tmps:=(#[.func (.yield (v.heap.size+1)) #[] #[]]++cap)++yl (Hz.ntmps - (#[Value.func (.yield (v.heap.size+1)) #[] #[]]++cap).size) yj,defers:=[] } [.code c]) (b.at { a with defers:=[{ target:=.collected v.heap.size,args:=#[] }]++a.defers } (.inRangeFunc (v.heap.size+1) :: k) :: cs))
   {v.at d with heap:=(v.heap.push (.deferred (lp []))).push (.loop { state:=.ready,pending:=od,fn:=b.fn,tmps:=a.tmps,params,assign,body,defers:=v.heap.size }) }):EV P main J Stop (G (b.at a (.code (.rangeFunc fo params assign body) :: k)) cs) v:=by
 have hTe:T P (vw b.fn a.tmps params assign body od):=by
  unfold vw
  repeat' first|(with_reducible first|exact T.pure _|refine T.then ?_ (fun _=>?_))|exact T.newObj trivial|dsimp only|split
 have Es:Hz.body.isNone=vp:=by rw [hbody];rfl
 refine EV.semT (s:=vw b.fn a.tmps params assign body od) (fun x g'=>x=(v.heap.size+1,[{ target:=.collected v.heap.size,args:=#[] }])/\g'=G (Frame.enter P h (#[.func (.yield (v.heap.size+1)) #[] #[]]++cap) .normal) (b.at { a with defers:=[{ target:=.collected v.heap.size,args:=#[] }]++a.defers } (.inRangeFunc (v.heap.size+1) :: k) :: cs)) (Q:=fun _=>True) rfl (hTe _) (fun n g' hg w w' es hr=>?_) (fun d=>?_)
 ·obtain⟨rfl,rfl⟩:=hg
  refine⟨seen P b.fn es++seen P b.fn #[],?_,fun e he=>?_⟩
  ·have Gh:∀w,(callFunc h (#[.func (.yield (v.heap.size+1)) #[] #[]]++cap)).runT P w #[]=(.ok (.enter h (#[.func (.yield (v.heap.size+1)) #[] #[]]++cap)) w,#[]):=fun w=>by
    unfold callFunc
    show(match P.funcs[h]? with|none=>_|some fn=>_:Sem Next).runT P w #[]=_
    rw [hf]
    dsimp only
    rw [Fo,Es]
    rfl
   have Gr:∀(fr:Frame),fr.eval fo=.func (.func h) #[] cap->(do let d ←resolve fr.eval { callee:=.value fo,args:=#[.const (.func (.yield (v.heap.size+1)) #[] #[])],argTypes:=#[] } 0;invoke d.target d.args:Sem Next)=callFunc h (#[.func (.yield (v.heap.size+1)) #[] #[]]++cap):=fun fr hfr=>by
    unfold resolve
    have e:(#[Operand.const (.func (.yield (v.heap.size+1)) #[] #[])].map fr.eval)=#[.func (.yield (v.heap.size+1)) #[] #[]]:=by simp [Frame.eval]
    simp only [e,hfr,zr]
    rfl
   have hkind:(b.kind == um)=vp:=by rw [hk];rfl
   have hfo':∀fr:Frame,fr.tmps=a.tmps->fr.eval fo=.func (.func h) #[] cap:=fun fr e=>by
    rw [←hfo]
    cases fo <;> first|rfl|simp [Frame.eval,Act.eval,e]
   simp only [G,dx,th,Frame.at,hr]
   rw [Gr _ (hfo' _ rfl)]
   simp only [stepG.apply,Gh,bC,hkind]
   simp [fw]
  ·rcases dM.1 he with he|he
   ·exact mu he
   ·rw [seen_none] at he;simp at he
 ·refine⟨_,_,_,_,⟨rfl,rfl⟩,Uy (w:=v.at d) params assign body,Ae,rfl,?_⟩
  rw [enter_at _ hf hbody]
  exact hE d
end
structure RL(P:me)(J:Loc->Prop)(s:Sem Next)(v:qq)(x:tj)(v':qq):Prop where
 nf:NJ J v->NJ J v'
 moved:NJ J v->Ht J v v'
 all:NJ J v->∀u,Ct J u v->∃u' n es,s.runT P u #[]=(.ok n u',es)/\(n=.value x∨(n=.skip/\x=yj))/\Ct J u' v'/\Ht J u u'/\∀e∈es,RJ J u'.heap.size e
section
variable {P:me} {main:Bool} {J:Loc->Prop} {Stop:gq->qq->Prop} {fn:du} {Q:Exit->Act->qq->Prop} {a:Act} {w v:qq} {S:Env} {Bs:Nat->Prop} {ops:Array gz}
theorem OW{i:Nat}{l:List Nat}{o:gz}(ho:ops[i]? = lp o)(hw:Region.wanted o (iw ops a.tmps)=s7)(H:∀d,∃x v',RL P J (execOp a.eval o) (w.at d) x v'/\opsV P main J Stop fn ops l Q (a.put o.dst x) v'):opsV P main J Stop fn ops (i :: l) Q a w:=by
 intro b k z hb hk hc
 have hke:b.kind≠.early:=by rw [hk];decide
 refine EV.step rfl fun hn d=>?_
 obtain⟨x,v',hr,Bo⟩:=H d
 have hn':NJ J (w.at d):=hn
 refine⟨G (b.at (a.put o.dst x) (.inRegion ops l :: k)) z,v',⟨rfl,hr.nf hn',hr.moved hn',fun u hs=>?_⟩,Bo b k z hb hk hc⟩
 obtain⟨u',n,es,h1,h2,h3,h4,h5⟩:=hr.all hn' u hs
 rw [lk] at h1
 obtain⟨r1,r2⟩:=eL h1
 have hev:∀e∈listed P b.fn a o u,RJ J u'.heap.size e:=fun e he=>by
  have:=mu he
  rw [r2] at this
  exact h5 e this
 rcases h2 with rfl|⟨rfl,rfl⟩
 ·exact⟨u',_,stepG_value ho hw hke r1,h3,h4,hev⟩
 ·exact⟨u',_,Lm ho hw hke r1,h3,h4,hev⟩
theorem DZ{s:Sem Next}{Qn:Next->Prop}{x:tj}{v':qq}(hT:Ev P Qn s (fun _=>False))(hy:Yields P s v x v')(he:∀e∈s.events P v #[],EvJ J v'.heap.size e):RL P J s v x v':=by
 have key:∃n,(n=.value x∨(n=.skip/\x=yj))/\s.runT P v #[]=(.ok n v',s.events P v #[]):=by
  rcases hy with hy|⟨hy,rfl⟩
  ·exact⟨_,af rfl,by rw [lk,hy]⟩
  ·exact⟨_,o5 ⟨rfl,rfl⟩,by rw [lk,hy]⟩
 obtain⟨n,hx,hrT⟩:=key
 have own:=fun(hn:NJ J v)=>Ja (J:=J) _ _ v.heap.size v v #[] _ _ _ hT (fun i hi=>⟨(hn.2 i hi).lt,hn.2 i hi⟩) (aA _) (fun _ h=>h.elim) hn.1 (.refl _) hrT ⟨_,he⟩
 refine⟨fun hn=>?_,fun hn=>?_,fun hn u hs=>?_⟩
 ·obtain⟨_,_,_,h4,h5⟩:=own hn
  exact⟨h4,fun i hi=>(hn.2 i hi).moved h5.2 hi⟩
 ·obtain⟨_,_,_,h4,h5⟩:=own hn
  exact h5.2
 ·obtain⟨u',r1,r2,r3,r4,r5⟩:=Ja (J:=J) _ _ v.heap.size u v #[] _ _ _ hT (fun i hi=>⟨(hn.2 i hi).lt,hn.2 i hi⟩) (aA _) (fun _ h=>h.elim) hn.1 hs hrT ⟨_,he⟩
  exact⟨u',n,_,r1,hx,r2,r4,fun e hx=>by rw [←r2.size];exact(he e hx).k⟩
theorem Qi{s:Sem Next}{Qn:Next->Prop}(hT:Ev P Qn s (fun _=>False))(hJ:LH J Bs)(hc:∀i,Bs i->Em w i){R:tj->qq->Prop}(H:∀L,Cq Bs w L->∃x L',Yields P s L x L'/\R x L')(d:Nat) :
  ∃x w' L',RL P J s (w.at d) x w'/\Kept Bs w w'/\Cq Bs w' L'/\R x L':=by
 have hsim:Cq Bs (w.at d) (blank Bs w w.tape d):=(Iz hc w.tape d).at d d
 obtain⟨y,L',hy,hR⟩:=H _ (Iz hc w.tape d)
 have key:∀x,Cq Bs x (blank Bs w w.tape d)->x.tape=w.tape->x.drawn=d->∃x' n Fi,s.runT P x #[]=(.ok n x',Fi)/\(n=.value y∨(n=.skip/\y=yj))/\(∃K,After Bs K x (blank Bs w w.tape d) x' L')/\∀e∈Fi,Pd Bs x'.heap.size e:=by
  intro x hsx htx hdx
  cases Kf s (fun _=>False) x (blank Bs w w.tape d) #[] hT (fun _ h=>h.elim) hsx (fun j _=>by rw [htx,hdx];rfl) with
  | bad h v1 hr hbad=>rcases hy with h1|⟨h1,_⟩ <;> (rw [h1] at hr;cases hr)
  | panic y w1 v1 es hw1 hv1 ha Hf=>rcases hy with h1|⟨h1,_⟩ <;> (rw [h1] at hv1;cases hv1)
  | ok n x1 v1 es hw1 hv1 hq ha Hf=>
   rcases hy with h1|⟨h1,rfl⟩
   ·rw [h1] at hv1
    injection hv1 with e1 e2
    subst e1 e2
    exact⟨x1,_,_,hw1,af rfl,⟨_,ha⟩,by simpa using Hf⟩
   ·rw [h1] at hv1
    injection hv1 with e1 e2
    subst e1 e2
    exact⟨x1,_,_,hw1,o5 ⟨rfl,rfl⟩,⟨_,ha⟩,by simpa using Hf⟩
 obtain⟨w',n,Fi,h1,h0,⟨K,h2⟩,h3⟩:=key (w.at d) hsim rfl rfl
 refine⟨y,w',L',⟨fun hn=>⟨(show NF (w.at d) from hn.1).after h2,fun i hi=>(show Fb (w.at d) i from hn.2 i hi).moved (Gi hJ h2) hi⟩,fun hn=>Gi hJ h2,fun hn x hx=>?_⟩,⟨h2.grow,h2.keep,h2.same,h2.wt,h2.far⟩,h2.sim,hR⟩
 have hnu:NF (w.at d):=hn.1
 obtain⟨x',n',es2,g1,g0,⟨K2,g2⟩,g3⟩:=key x (hx.sim hJ hsim) hx.tape.symm hx.drawn.symm
 exact⟨x',n',es2,g1,g0,Ct.after (v:=blank Bs w w.tape d) hx rfl rfl g2 h2 (hnu.after h2),Gi hJ g2,fun e he=>Mj hJ (g3 e he)⟩
inductive V0(P:me)(main:Bool)(J:Loc->Prop)(Stop:gq->qq->Prop)(ops:Array gz)(i:Nat)(K:Act->qq->Prop)(a:Act)(w:qq):Prop
 | unwanted (o:gz) (ho:ops[i]? = lp o) (hw:Region.wanted o (iw ops a.tmps)=vp) (h:K (a.put o.dst yj) w)
 | op (o:gz) (ho:ops[i]? = lp o) (hw:Region.wanted o (iw ops a.tmps)=s7) (h:∀d,∃x v',RL P J (execOp a.eval o) (w.at d) x v'/\K (a.put o.dst x) v')
 | call (o:gz) (f:du) (args:Array vh) (ats:Array TypeId) (Post:tj->qq->Prop) (ho:ops[i]? = lp o) (hw:Region.wanted o (iw ops a.tmps)=s7) (Bt:o.op=.call { callee:=.value (.func f),args:=args,argTypes:=ats })
   (hc:Bz P main J Stop f (args.map a.eval) w Post) (h:∀x w',Post x w'->K (a.put o.dst x) w')
theorem V0.mono{i:Nat}{K K':Act->qq->Prop}(hK:∀a w,K a w->K' a w)(h:V0 P main J Stop ops i K a w):V0 P main J Stop ops i K' a w:=by
 cases h with
 | unwanted o ho hw h=>exact .unwanted o ho hw (hK _ _ h)
 | op o ho hw h=>exact .op o ho hw fun d=>let⟨x,v',h1,h2⟩:=h d;⟨x,v',h1,hK _ _ h2⟩
 | call o f args ats Post ho hw Bt hc h=>exact .call o f args ats Post ho hw Bt hc fun x w' p=>hK _ _ (h x w' p)
theorem V0.goesOn{i:Nat}{l:List Nat}(h:V0 P main J Stop ops i (fun a' w'=>opsV P main J Stop fn ops l Q a' w') a w):opsV P main J Stop fn ops (i :: l) Q a w:=by
 cases h with
 | unwanted o ho hw h=>exact Vr ho hw h
 | op o ho hw h=>exact OW ho hw h
 | call o f args ats Post ho hw Bt hc h=>exact Q8 ho hw Bt hc h
def A6(P:me)(main:Bool)(J:Loc->Prop)(Stop:gq->qq->Prop)(md:Region.Mode)(ops:Array gz)(Q:Exit->Act->qq->Prop)(I:qq->Prop):Nat->Array Bool->Act->qq->Prop
 | 0,done,a,w=>Region.ready md ops done = []/\Q .normal a w
 | fuel+1,done,a,w=>(Region.ready md ops done = []->Q .normal a w)/\∀i∈Region.ready md ops done,V0 P main J Stop ops i (fun a' w'=>I w'/\A6 P main J Stop md ops Q I fuel (done.setIfInBounds i s7) a' w') a w
theorem A6.sound{md:Region.Mode}{I:qq->Prop}:∀(fuel t:Nat) (done:Array Bool) (a:Act) (w:qq),A6 P main J Stop md ops Q I fuel done a w->opsV P main J Stop fn ops (Region.linearise.go md ops fuel t done []) Q a w:=by
 intro fuel
 induction fuel with
 | zero=>intro t done a w h;simpa [Region.linearise.go] using Au h.2
 | succ fuel ih=>
  intro t done a w h
  obtain⟨h₀,h₁⟩:=h
  simp only [Region.linearise.go]
  change opsV P main J Stop fn ops (match (Region.ready md ops done)[t % (Region.ready md ops done).length]? with
   | some i=>Region.linearise.go md ops fuel (t / (Region.ready md ops done).length) (done.setIfInBounds i s7) [i]
   | none=>[].reverse) Q a w
  cases hi:(Region.ready md ops done)[t % (Region.ready md ops done).length]? with
  | none=>
   have hnil:Region.ready md ops done = []:=by
    cases hr:Region.ready md ops done with
    | nil=>rfl
    | cons x xs=>
     exact Kqt
   simpa using Au (h₀ hnil)
  | some i=>
   simp only []
   rw [linearise_go_acc,List.reverse_singleton,List.singleton_append]
   exact V0.goesOn ((h₁ i (cD hi)).mono fun a' w' x=>ih _ _ a' w' x.2)
theorem Ei{id:Nat}{I:qq->Prop}(hm:P.follows .mixedOrders=s7)(h:∀d,A6 P main J Stop .any ops Q I ops.size (yl ops.size vp) a (w.at d)):N5 P main J Stop fn (.region id ops s7) Q a w:=by
 intro b k z hb hk hc
 refine EV.semT (s:=choose (.order b.fn id)) (fun t g'=>g'=G (b.at a (.inRegion ops (Region.schedule (P.follows .mixedOrders) ops t) :: k)) z) (Q:=fun _=>True) rfl (T.choose _ _) (fun t g' hg u u' es hr=>?_) (fun d=>?_)
 ·subst hg
  refine⟨#[],?_,Ae⟩
  have hr':(choose (.order b.fn id)).run P u=.ok t u':=by
   have:=aG Prod.fst hr
   rwa [Sem.runT_fst] at this
  simp [G,dx,th,Frame.at,hr']
 ·refine⟨(w.at d).tape d (.order b.fn id),(w.at d).at (d+1),#[],_,rfl,?_,Ae,rfl,?_⟩
  ·simp [-lk,choose,qx,Question.forced,Question.cut]
   exact⟨rfl,rfl⟩
  ·simp only [Region.schedule,hm,Bool.true_or,bC]
   exact A6.sound ops.size _ _ a _ (h (d+1)) b k z hb hk hc
def YV(P:me)(J:Loc->Prop)(ops:Array gz)(I:qq->Prop)(oi:gz)(x:tj)(a:Act):Prop:=
 (Region.wanted oi (iw ops a.tmps)=vp->x=yj)/\(Region.wanted oi (iw ops a.tmps)=s7->∀w,I w->RL P J (execOp a.eval oi) w x w)
variable {I:qq->Prop} {md:Region.Mode}
theorem V0.at{i:Nat}{K:Act->qq->Prop}(hK:∀a w d,K a w->K a (w.at d))(h:V0 P main J Stop ops i K a w)(d:Nat):V0 P main J Stop ops i K a (w.at d):=by
 cases h with
 | unwanted o ho hw h=>exact .unwanted o ho hw (hK _ _ d h)
 | op o ho hw h=>exact .op o ho hw h
 | call o f args ats Post ho hw Bt hc h=>
  obtain⟨fn,c,h1,h2,h3,h4⟩:=hc
  exact .call o f args ats Post ho hw Bt ⟨fn,c,h1,h2,h3,fun fr cs hm hn=>(h4 fr cs hm hn).at d⟩ h
theorem A6.at(hI:∀w d,I w->I (w.at d))(hQ:∀a w d,Q .normal a w->Q .normal a (w.at d)):∀(fuel:Nat) (done:Array Bool) (a:Act) (w:qq) (d:Nat),A6 P main J Stop md ops Q I fuel done a w->A6 P main J Stop md ops Q I fuel done a (w.at d)
 | 0,_,_,_,d,h=>⟨h.1,hQ _ _ d h.2⟩
 | fuel+1,_,_,_,d,h=>⟨fun e=>hQ _ _ d (h.1 e),fun i hi=>(h.2 i hi).at (fun a w d k=>⟨hI _ d k.1,A6.at hI hQ fuel _ a w d k.2⟩) d⟩
theorem YV.opV{i:Nat}{oi:gz}{x:tj}{K:Act->qq->Prop}(hI:∀w d,I w->I (w.at d))(hK:∀a w d,K a w->K a (w.at d))(hi:ops[i]? = lp oi)(hy:YV P J ops I oi x a)(hw:I w)(h:K (a.put oi.dst x) w):V0 P main J Stop ops i K a w:=by
 cases hwt:Region.wanted oi (iw ops a.tmps) with
 | false=>exact .unwanted oi hi hwt (by rw [hy.1 hwt] at h;exact h)
 | true=>exact .op oi hi hwt fun d=>⟨x,w.at d,hy.2 hwt _ (hI _ d hw),hK _ _ d h⟩
theorem V0.putIf{j:Nat}{oi oj:gz}{x:tj}(hj:ops[j]? = lp oj)(hap:oi.apart ops oj=s7)(hsi:∀cs b,oi.op≠.select cs b)(hsj:∀cs b,oj.op≠.select cs b){K:Act->qq->Prop}(hy:YV P J ops I oi x a)(h:V0 P main J Stop ops j K (a.put oi.dst x) w):V0 P main J Stop ops j (fun a' w'=>YV P J ops I oi x a'/\K (a'.put oi.dst x) w') a w:=by
 obtain⟨g1,g2,g3⟩:=Oper.apart_spec hap
 have hsame:∀y,YV P J ops I oi x (a.put oj.dst y):=fun y=>by
  refine⟨fun e=>hy.1 (by rwa [zk oi a oj.dst y g3] at e),fun e w hw=>?_⟩
  rw [execOp_put oi hsi a oj.dst y g3]
  exact hy.2 (by rwa [zk oi a oj.dst y g3] at e) w hw
 cases h with
 | unwanted o ho hw h=>
  exact T8r
 | op o ho hw h=>
  obtain rfl:oj=o:=aC (hj.symm.trans ho)
  rw [zk oj a oi.dst x g1] at hw
  rw [execOp_put oj hsj a oi.dst x g1] at h
  exact .op oj ho hw fun d=>let⟨y,v',h1,h2⟩:=h d;⟨y,v',h1,hsame _,by rw [←Act.put_comm a x y g2];exact h2⟩
 | call o f args ats Post ho hw Bt hc h=>
  obtain rfl:oj=o:=aC (hj.symm.trans ho)
  rw [zk oj a oi.dst x g1] at hw
  rw [Oz Bt g1] at hc
  exact .call oj f args ats Post ho hw Bt hc fun y w' p=>⟨hsame _,by rw [←Act.put_comm a x y g2];exact h y w' p⟩
theorem A6.first(hI:∀w d,I w->I (w.at d))(hQ:∀a w d,Q .normal a w->Q .normal a (w.at d)){i:Nat}{oi:gz}{x:tj}(hi:ops[i]? = lp oi)(hsel:∀(j:Nat) (o:gz) cs b,ops[j]? = lp o->o.op≠.select cs b) :
  ∀(fuel:Nat) (done:Array Bool) (a:Act) (w:qq),
   (∀j oj,ops[j]? = lp oj->j≠i->done.getD j s7=vp->(∀e∈oj.after,Region.binds md e=s7->e.on≠i)->oi.apart ops oj=s7) ->
   i∈Region.ready md ops done->YV P J ops I oi x a->I w->A6 P main J Stop md ops Q I fuel (done.setIfInBounds i s7) (a.put oi.dst x) w->A6 P main J Stop md ops Q I (fuel+1) done a w:=by
 have hK:∀fuel done,∀a w d,(I w/\A6 P main J Stop md ops Q I fuel done a w)->(I (w.at d)/\A6 P main J Stop md ops Q I fuel done a (w.at d)):=fun fuel done a w d h=>⟨hI _ d h.1,A6.at hI hQ fuel done a w d h.2⟩
 intro fuel
 induction fuel with
 | zero=>
  intro done a w _ hr hy hS H
  refine⟨fun h=>(by rw [h] at hr;cases hr),fun j hj=>?_⟩
  by_cases hji:j=i
  ·subst hji;exact hy.opV hI (hK _ _) hi hS ⟨hS,H⟩
  ·have:=ready_mono hj hji
   rw [H.1] at this
   cases this
 | succ fuel ih=>
  intro done a w hfree hr hy hS H
  refine⟨fun h=>(by rw [h] at hr;cases hr),fun j hj=>?_⟩
  by_cases hji:j=i
  ·subst hji;exact hy.opV hI (hK _ _) hi hS ⟨hS,H⟩
  ·have h1:=H.2 j (ready_mono hj hji)
   obtain⟨hjun,oj,hoj,D9⟩:=mem_ready.1 hj
   have hnot:∀e∈oj.after,Region.binds md e=s7->e.on≠i:=fun e he hb heq=>by
    exact X5o
   have h2:=V0.putIf hoj (hfree j oj hoj hji hjun hnot) (fun cs b=>hsel i oi cs b hi) (fun cs b=>hsel j oj cs b hoj) hy h1
   refine h2.mono fun a' w' h3=>⟨h3.2.1,ih (done.setIfInBounds j s7) a' w' (fun k ok hk hki hun hno=>hfree k ok hk hki ?_ hno) (ready_mono hr (bW hji)) h3.1 h3.2.1 ?_⟩
   ·exact V5z
   ·rw [Array.setIfInBounds_comm _ _ hji]
    exact h3.2.2
theorem A6.take(hI:∀w d,I w->I (w.at d))(hQ:∀a w d,Q .normal a w->Q .normal a (w.at d)){i:Nat}{oi:gz}{x:tj}{fuel:Nat}{done:Array Bool}(hi:ops[i]? = lp oi)(hs:Region.noSelect ops=s7)(hf:Region.free md ops done i=s7)(hr:(Region.ready md ops done).contains i=s7)(hy:YV P J ops I oi x a)(hS:I w)(h:A6 P main J Stop md ops Q I fuel (done.setIfInBounds i s7) (a.put oi.dst x) w):A6 P main J Stop md ops Q I (fuel+1) done a w:=
 A6.first hI hQ hi (Region.noSelect_spec hs) fuel done a w (Region.free_spec hi hf) (by simpa using hr) hy hS h
theorem A6.only{i:Nat}{fuel:Nat}{done:Array Bool}(hr:Region.ready md ops done = [i])(h:V0 P main J Stop ops i (fun a' w'=>I w'/\A6 P main J Stop md ops Q I fuel (done.setIfInBounds i s7) a' w') a w):A6 P main J Stop md ops Q I (fuel+1) done a w:=
 ⟨fun h0=>(by rw [hr] at h0;cases h0),fun j hj=>by rw [hr] at hj;simp at hj;subst hj;exact h⟩
theorem A6.all{done:Array Bool}(hr:Region.ready md ops done = [])(h:Q .normal a w):∀fuel,A6 P main J Stop md ops Q I fuel done a w
 | 0=>⟨hr,h⟩
 | _+1=>⟨fun _=>h,fun i hi=>by rw [hr] at hi;cases hi⟩
end
section
variable {P:me} {main:Bool} {J:Loc->Prop} {Stop:gq->qq->Prop} {fn:du} {Q:Exit->Act->qq->Prop} {a:Act} {w:qq} {ops:Array gz} {i:Nat} {l:List Nat} {o:gz}
theorem TZ(h:opsV P main J Stop fn ops l Q a w)(d:Nat):opsV P main J Stop fn ops l Q a (w.at d):=fun b k z hb hk hc=>EV.at (h b k z hb hk hc) d
theorem A8{c:Code}(h:N5 P main J Stop fn c Q a w)(d:Nat):N5 P main J Stop fn c Q a (w.at d):=fun b k z hb hk hc=>EV.at (h b k z hb hk hc) d
theorem Dm{f:du}{args:Array tj}{Post Post':tj->qq->Prop}(h:Bz P main J Stop f args w Post)(hP:∀x w',Post x w'->Post' x w'):Bz P main J Stop f args w Post':=by
 obtain⟨fn,c,h1,h2,h3,h4⟩:=h
 exact⟨fn,c,h1,h2,h3,fun fr cs hm hn=>h4 fr cs hm fun v w' hp=>hn v w' (hP v w' hp)⟩
theorem Iv{x:tj}(ho:ops[i]? = lp o)(hw:Region.wanted o (iw ops a.tmps)=s7)(hr:∀w,(execOp a.eval o).run P w=.ok (.value x) w)(he:∀w,(execOp a.eval o).events P w #[]=#[])(h:opsV P main J Stop fn ops l Q (a.put o.dst x) w):opsV P main J Stop fn ops (i :: l) Q a w:=by
 intro b k z hb hk hc
 have hke:b.kind≠.early:=by rw [hk];decide
 refine EV.ctl rfl rfl (fun w=>?_) (h b k z hb hk hc)
 exact O7p
theorem Ef{S:Env}{x:tj}{v':qq}(ho:ops[i]? = lp o)(hw:Region.wanted o (iw ops a.tmps)=s7)(hT:Sj P S fn o)(Ga:S.reg fn a.tmps)(hr:∀d,Yields P (execOp a.eval o) (w.at d) x (v'.at d))(he:∀d,∀e∈(execOp a.eval o).events P (w.at d) #[],EvJ J v'.heap.size e)(h:opsV P main J Stop fn ops l Q (a.put o.dst x) v'):opsV P main J Stop fn ops (i :: l) Q a w:=
 UA ho hw hT Ga fun d=>⟨x,v'.at d,hr d,he d,TZ h d⟩
theorem AG{s:Sem Next}{x:tj}{v:qq}(hr:∀w,s.run P w=.ok (.value x) w)(he:∀w,s.events P w #[]=#[]):RL P J s v x v:=
 ⟨fun h=>h,fun _=>.refl _,fun _ u hs=>⟨u,.value x,#[],by rw [lk,hr,he],af rfl,hs,.refl _,Ae⟩⟩
theorem Cq.same{Bs:Nat->Prop}{u v:qq}(h:Cq Bs u v)(hn:NF u){i:Nat}(hb:¬Bs i):v.heap[i]? = u.heap[i]?:=by
 rcases h.like i with⟨_,e,_⟩|⟨Es,_⟩|⟨_,⟨o,ho,hk⟩,hv⟩|⟨Es,_⟩
 ·exact e
 ·exact absurd Es hb
 ·rcases hn i o ho with h'|rfl
  ·exact absurd h' hk
  ·rw [hv,ho]
 ·exact absurd Es hb
theorem Kept.nf{Bs:Nat->Prop}{u u':qq}(h:Kept Bs u u')(hn:NF u):NF u':=fun i o ho=>bG fun hno=>hno (hn i o (h.far i o ho fun hk=>hno (af hk)))
end
section
variable {P:me} {main:Bool} {J:Loc->Prop} {Stop:gq->qq->Prop} {v w:qq} {fn f:du} {Q:Exit->Act->qq->Prop} {a:Act} {l:Nat} {tmps:Array tj} {k:List Item} {cs:List Frame} {ops:Array gz} {i:Nat} {rest:List Nat} {o:gz}
theorem EV.ropR(ho:ops[i]? = lp o)(hw:Region.wanted o (iw ops tmps)=s7)(hd:∀c,o.op≠.defer c)(H:∀d,∃x v',RL P J (execOp (rev tmps).eval o) (v.at d) x v'/\EV P main J Stop (G (Hw l f (Gc o.dst x tmps) (.inRegion ops rest :: k)) cs) v') :
  EV P main J Stop (G (Hw l f tmps (.inRegion ops (i :: rest) :: k)) cs) v:=by
 have hap:∀w,dx P main (G (Hw l f tmps (.inRegion ops (i :: rest) :: k)) cs) w=stepG.apply P s7 (Hw l f tmps (.inRegion ops (i :: rest) :: k)) cs od (execOp (rev tmps).eval o) w:=fun w=>by
  exact Kzz
 have Gw:∀x,(Hw l f tmps (.inRegion ops (i :: rest) :: k)).finish x=Hw l f (Gc o.dst x tmps) (.inRegion ops rest :: k):=fun x=>by
  exact L53
 have hkind:((Hw l f tmps (.inRegion ops (i :: rest) :: k)).kind == um)=vp:=rfl
 refine EV.step rfl fun hn d=>?_
 obtain⟨x,v',hr,Bo⟩:=H d
 have hn':NJ J (v.at d):=hn
 refine⟨G (Hw l f (Gc o.dst x tmps) (.inRegion ops rest :: k)) cs,v',⟨rfl,hr.nf hn',hr.moved hn',fun u hs=>?_⟩,Bo⟩
 obtain⟨u',n,es,h1,h2,h3,h4,h5⟩:=hr.all hn' u hs
 refine⟨u',seen P f es,?_,h3,h4,fun e he=>h5 e (mu he)⟩
 rw [hap]
 rcases h2 with rfl|⟨rfl,rfl⟩
 ·simp only [stepG.apply,h1,bC,hkind,Gw]
  simp [fw,G,Hw]
 ·simp only [stepG.apply,h1,bC,hkind,Gw]
  simp [fw,G,Hw]
theorem DF{r:uh}{fo:vh}{args:Array vh}{ats:Array TypeId}{Post:qq->Prop}(ho:ops[i]? = lp o)(hw:Region.wanted o (iw ops a.tmps)=s7)(Bt:o.op=.call { callee:=.value fo,args,argTypes:=ats })(hfo:a.eval fo=.func (.yield l) #[] #[])(hl:E7 w l r)(hs:args.size=r.params.size)(hJ:¬J (.obj l))(hround:∀(d:Nat) (c:Frame) (cs:List Frame),(∀w',Post w'->EV P main J Stop (G (c.finish (.bool s7)) cs) w')->EV P main J Stop (G (Hw l r.fn ((r.params.zip (args.map a.eval)).foldl (fun tmps (t,x)=>tmps.setIfInBounds t x) r.tmps) [.code r.assign,.beginRound,.code r.body]) (c :: cs)) (w.at d))(Bo:∀w',Post w'->opsV P main J Stop fn ops rest Q (a.put o.dst (.bool s7)) w'):opsV P main J Stop fn ops (i :: rest) Q a w:=by
 intro b k z hb hk hc
 refine EV.yield ho hw hk Bt hfo hl hs hJ fun d=>hround d _ z fun w' hp=>?_
 rw [Frame.finish_at,ho]
 exact Bo w' hp b k z hb hk hc
theorem Vx{fo:vh}{params:Array Tmp}{assign body:Code}{h:du}{cap:Array tj}{Hz:Func}{c:Code}(PostL:qq→Prop)(hfo:a.eval fo=.func (.func h) #[] cap)(hf:P.funcs[h]? = lp Hz)(Fo:(Hz.name == "runtime.NumGoroutine")=vp)(hbody:Hz.body=lp c)(Gr:∀tmps w,(results Hz tmps).run P w=.ok (.tuple #[]) w)(hev:∀tmps w,(results Hz tmps).events P w #[]=#[])(Hbody:∀d,N5 P main J Stop h c (fun e a' w'=>(e=.normal∨e=.ret)∧a'.defers = []∧PostL w') { tmps:=(#[.func (.yield (w.heap.size+1)) #[] #[]]++cap)++yl (Hz.ntmps - (#[Value.func (.yield (w.heap.size+1)) #[] #[]]++cap).size) yj,defers:=[] }
   {w.at d with heap:=(w.heap.push (.deferred (lp []))).push (.loop { state:=.ready,pending:=od,fn:=fn,tmps:=a.tmps,params,assign,body,defers:=w.heap.size }) })(hJ:¬J (.obj (w.heap.size+1)))(Hnext:∀w',PostL w'->∃r,E7 w' (w.heap.size+1) r/\r.state=.ready/\r.pending=od/\∀d,Q .normal { a with defers:=[{ target:=.collected w.heap.size,args:=#[] }]++a.defers } (Ey (w'.at d) (w.heap.size+1) { r with state:=.exhausted })) :
  N5 P main J Stop fn (.rangeFunc fo params assign body) Q a w:=by
 intro b k z hb hk hc
 subst hb
 refine EV.enterLoop hk hfo hf Fo hbody fun d=>?_
 have ret:∀(todo:List Item) (a':Act) (w':qq),a'.defers = []->PostL w'->EV P main J Stop (G { (base h).at a' todo with mode:=.returning } (b.at { a with defers:=[{ target:=.collected w.heap.size,args:=#[] }]++a.defers } (.inRangeFunc (w.heap.size+1) :: k) :: z)) w':=fun todo a' w' had hp=>by
  refine EV.ctl rfl Ac (fun w1=>stepG_leave (b:=base h) rfl had hf (Gr _ _) (hev _ _)) ?_
  show EV P main J Stop (G (b.at { a with defers:=[{ target:=.collected w.heap.size,args:=#[] }]++a.defers } (.endRangeFunc (w.heap.size+1) :: k)) z) w'
  obtain⟨r,h1,h2,h3,h4⟩:=Hnext w' hp
  exact EV.endLoop h1 h2 h3 hJ fun d=>hc _ _ _ (h4 d)
 refine Hbody d (base h) [] _ rfl rfl fun e a' w' ⟨he,had,hp⟩=>?_
 exact Ecw
theorem Tn{f:du}{Hz:Func}{c:Code}{args:Array tj}{Cd:tj→qq→Prop}{R:Array tj→tj}(hf:P.funcs[f]? = lp Hz)(Fo:(Hz.name == "runtime.NumGoroutine")=vp)(hbody:Hz.body=lp c)(Gr:∀tmps w,(results Hz tmps).run P w=.ok (R tmps) w)(hev:∀tmps w,(results Hz tmps).events P w #[]=#[])(h:N5 P main J Stop f c (fun e a w'=>(e=.normal∨e=.ret)∧∃bl,a.defers = [{ target:=.collected bl,args:=#[] }]∧w'.heap[bl]? = lp (.deferred (lp []))∧¬J (.obj bl)∧∀d,Cd (R a.tmps) { w'.at d with heap:=w'.heap.setIfInBounds bl (.deferred od) }) { tmps:=args++yl (Hz.ntmps - args.size) yj,defers:=[] } w):Bz P main J Stop f args w Cd:=by
 refine⟨Hz,c,hf,Fo,hbody,fun fr cs hm Bo=>?_⟩
 have ret:∀(todo:List Item) (a:Act) (w':qq),(∃bl,a.defers = [{ target:=.collected bl,args:=#[] }]/\w'.heap[bl]? = lp (.deferred (lp []))/\¬J (.obj bl)/\∀d,Cd (R a.tmps) { w'.at d with heap:=w'.heap.setIfInBounds bl (.deferred od) })->EV P main J Stop (G { (base f).at a todo with mode:=.returning } (fr :: cs)) w':=by
  rintro todo a w' ⟨bl,had,hb,hj,hp⟩
  exact EV.taken had hb hj fun d=>EV.ctl rfl Ac (fun w1=>stepG_leave (b:=base f) (a:={ a with defers:=[] }) rfl rfl hf (Gr _ _) (hev _ _)) (Bo _ _ (hp d))
 refine h (base f) [] (fr :: cs) rfl rfl fun e a' w' ⟨he,hp⟩=>?_
 rcases he with rfl|rfl
 ·exact EV.ctl rfl rfl (fun w1=>stepG_end) (ret [] a' w' hp)
 ·exact fun todo=>ret todo a' w' hp
end
end Go.Pair
