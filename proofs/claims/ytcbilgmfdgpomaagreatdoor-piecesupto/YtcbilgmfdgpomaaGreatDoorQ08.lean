import Derived.Test.YtcbilgmfdgpomaaGreatDoorQ07
import Derived.Lib.ConvBytes
set_option linter.all false
noncomputable section
set_option maxHeartbeats 4000000
set_option maxRecDepth 8000
open Option renaming some → ni,none → su
open Go.RowKit renaming Below → ri
open Go renaming World → qg,Calls → sf,Value → w8,heap_alloc_new → sx,TypeId → mi,heap_setCell_other → mg,Addr → rj,bodyPost_ret → wj,results → qe,info_parts → zu,World → Z,Value → O,Calls → S
open Bool renaming false → o9,true → tu
open Go.RowKit.Below renaming heap_alloc → rm,refl → nq
open Go.Value renaming slice → um,ownBlock → yf,int → pq,string → x7,pointer → w9,bool → vp,tuple → my,agg → h9
open Go.Sort renaming putCells → me,get_flatK → ia,mapBlock → ft
open Prod renaming snd → pc6
open Go.World renaming news_of_block → k8,ownsRow_nil → h7
open List renaming filterMap_cons_none → yh,length_set → ve2,filterMap_nil → fq,length → iR
open Go.Builtin renaming delete_ → wi
open Go.Lib renaming toList_data → gj
open UInt8 renaming ofNat → yr
open Array renaming getElem?_mapIdx → tbk,size → iS,size → Y
open Go.Addr renaming add_lit → xo
open Go.Obj renaming cells → jf
open Go.IntKind renaming i64 → yi,u8 → zi
open Go.Ending renaming returned → xr
open Or renaming inl → p8,inr → n9
open Go.Proofs.YtcbilgmfdgpomaaGreatDoor renaming hide → u,cellOf → T,ltOf → N
open Orch renaming fits → M
open Go.Proofs.Tryz
variable {B H W:Z}{F:iA}{I o:iF}{R:List (O×O)}{U:O}{bt e rt t:mi}{c g i j k s:Nat}{l:Int}{q:Prop}
def Q1j{p:Prop}(h:p:=by
 have o:=hide (Xh a.out);generalize ((((((P.setCell ⟨w.1.size,0,none⟩ (.int .i64 0)).setCell ⟨w.1.size,1,none⟩ (.int .i64 0)).setCell ⟨w.1.size,2,none⟩ (.string iN)).setCell ⟨w.1.size,3,none⟩ (.string iN)).setCell ⟨w.1.size,4,none⟩ (.string iN)).setCell ⟨w.1.size,5,none⟩ (.int .i64 0)).setCell ⟨w.1.size,6,none⟩ (.bool false)=G at o⊢;have ⟨M,b,g,z,x,E,u⟩:=P9 o.out.blk iP;exact⟨iP,.tuple #[J7 0 0 iN iN iN 0 false,.bool false],by simp[results,Tryz.results67,go_sem,M,b,g,z,x,E,u],iP,C.out.grown o.out.grown C.out.size Aj0⟩):p:=h
def Fue{p:Prop}(h:p:=by
 go_wp2_with (go_at_call 83;refine V.out.mono ?_;rintro e H⟨rfl,M,W⟩;have R:=hid (c.out.lefts M W Ae);have t:=hid W;clear M W)
 all_goals go_ret
 all_goals exact⟨iP,L,.same R.out (Ug.grown t.out),.inl ⟨K,iP⟩⟩):p:=h
def A5v{p:Prop}(h:p:=by
 rw[dJ (by simpa using ltOf G),bS,aJ iP,G]
 rfl):p:=h
def Mdq{p:Prop}(h:p:=by
 go_wp2_with (go_at_call 85;refine r.out.mono ?_;rintro S H⟨rfl,rfl⟩);go_ret;exact⟨iP,iP⟩):p:=h
def E6q{p:Prop}(k:q)(h:Hd q->p:=by
 intro kz;have A:Hid (∀W c n,Sh c->0<n->n<=9223372036854775807->Calls Tryz.prog 11 #[.int .i64 c,.int .i64 n] W λe B=>e=.returned (.int .i64 (Mo c n))/\B=W):=λW c n C J T=>Qv W c n C J T;revert A;exact kz.1):p:=h ⟨k⟩
def Ikx{p:Prop}(h:p:=by
 rcases d.out.1.2 with⟨E,F⟩|⟨g,I,e,E,_⟩
 ·exact⟨none,0,by rw[E,F]⟩
 ·exact⟨_,_,E⟩):p:=h
def Vqg{p:Prop}(h:p:=by
 exact⟨⟨L,b,⟨by have:=A.out.2.1;omega,O.out,m.out⟩,q.out,M.out,C.out⟩,by rw[A.out.2.2];exact A.out.1⟩):p:=h
def Fwo{p:Prop}(h:p:=by
 rcases d.out.1.2 with⟨E,F⟩|⟨g,I,e,E,o,S,_⟩
 ·rw[E]at i;simp[Value.ownBlock]at i
 ·rw[E]at i;simp[Value.ownBlock]at i;subst i;refine⟨λk=>?_,o⟩;obtain⟨es,ay,az,b5,c0,_,_,_,a1,_⟩:=d.out.2.1.ex;rw[k,a1]at S;cases S):p:=h
namespace Go.Proofs.YtcbilgmfdgpomaaGreatDoor
variable {P:Program}{r:List (hU×Nd)}{x:Nd}
open Go Go.RowKit
def Uq{w base t}{b:hQ}(h:w.ownsRow base 5 1 t (iR b) (A5 b)):(convert 37 9 t).run prog w=.ok (x7 ⟨b.toArray⟩) w:=by
 rcases h.2 with⟨rfl,F⟩|⟨g,I,H,rfl,D,G,z,_,s,R⟩
 ·have:b = []:=bO.1 F;subst this;exact run_convert_bytes_nil (P:=prog) w 37 5 underlying37 underlying5 0 0 9 underlying9
 ·have a:strOfNums (b.map λc=>(c.toNat:Int))=(⟨b.toArray⟩:hU):=by
   unfold strOfNums
   congr 2
   rw[cY]
   conv=>rhs;rw[←fL b]
   apply dH;intro c _;simp
  have:=run_convert_bytes_arg (P:=prog) w 37 5 underlying37 underlying5 g 0 (iR b) I (b.map λc=>(c.toNat:Int)) Ad (λi V=>by
   have C:=h.cells (g:=g) iP i (pq zi b[i].toNat) (by simp[A5,V]);rw[xo,aY]at C;rw[aY,C,cZ,aT,aG V]
   rfl) 9 underlying9
  rwa[a]at this
open Go.Maps
open Go.ChangeMaps (setBlock)
def Ur{a:Type}(p:a->Bool):∀(l:List a)j(x:a),l[j]?=ni x->p x=o9->(l.eraseIdx j).filter p=l.filter p
 |[],j,x,h,_=>by cases h
 |y::l,0,x,h,hp=>by
  grind
 |y::l,j+1,x,h,hp=>by
  simp only[List.eraseIdx_cons_succ,List.filter_cons];rw[Ur p l j x h hp]
def N8{a b:Type}(f:a->b):∀(l:List a)j,(l.eraseIdx j).map f=(l.map f).eraseIdx j
 |[],j=>Ad
 |y::l,0=>Ad
 |y::l,j+1=>by simp[N8 f l j]
section
variable {k a:mi} {w:Z} {b r:Nat} {m:List (O×O)}
def Io.drop{ty}(Y:Io w b r m R)(h:Bl P k w b m)(K:Keyed P k)(g:P.underlying t=ni (.map k a)){n v d}(W:keyOf P k n=ni d){A C}(L:m=A++(n,v)::C)(p:∀x∈R,x.1≠n):∃B,(wi #[t,k] ty #[.map (ni b),n]).run P w=.ok (my #[]) B/\Bl P k B b (A++C)/\Io B b r (A++C) R/\w.grownBy B (ni b):=by
 have q:=Y.ne;obtain⟨X,i,u,f,c0,D,y,N,V,E,l,H,I⟩:=Y.ex;subst L;have M:(n,v)∈X.toList.map kv:=by rw[N];simp
 obtain⟨j,F,U,J,T⟩:=Ri (w:=w) K W (by rw[N];exact h.keys) M;have aa:j<X.size:=Ai;have O:(X.eraseIdxIfInBounds j).toList=X.toList.eraseIdx j:=by
  simp
 have S:j=iR A:=by
  exact F0g
 have a1:(X.eraseIdxIfInBounds j).toList.map kv=A++C:=by
  rw[O,N8,N,S,List.eraseIdx_append_of_length_le (aB _)];simp
 have s:(wi #[t,k] ty #[.map (ni b),n]).run P w=.ok (my #[]) (setBlock w b (.map (X.eraseIdxIfInBounds j) i)):=by
  simp[wi,run_underlying g,MapKept.run_getObj_map D,K.check w _ W,U,MapKept.run_setObj_map _ D,Result.andThen,setBlock]
 obtain⟨w2,o,a6,Q⟩:=Bl.drop_some (ty:=ty) h K g W iP;rw[s]at o;injection o with _ hw2;subst hw2;have a7:f.contains F.born=tu:=by
  refine cL λc=>?_;have a8:F∈(leftOf X f).toList:=by
   simp only[leftOf,eD,List.mem_filter];exact⟨aV J,by simpa using c⟩
  have:kv F∈R:=by rw[←l];exact aZ.2 ⟨_,a8,iP⟩
  exact p _ this T
 refine⟨_,s,a6,⟨_,i,u,f,c0,aQ h.lt,MapKept.stamped_erase y j,a1,((Q.block r (aH.1 V).1 (λa=>q (by injection a))).trans V),λx Z=>E x ?_,?_,H,I⟩,Q⟩
 ·rw[O]at Z;exact List.mem_of_mem_eraseIdx Z
 ·rw[←l]
  congr 1
  simp only[leftOf,eD,O];exact Ur _ _ j F J (by rw[a7];rfl)
end
def Hw(s:hU):hU:=s.extract ((Ey s.data.toList s.size).toNat+1) s.size
def MF(w s)(a:s.size<=1000)(O:Eb s=tu):S prog 194 #[x7 s] w λe B=>e=xr (x7 (Hw s))/\B=w:=by
 obtain⟨F,C⟩:=Xe O;have Q:=Tp _ F s.size C;have o:=(Wl s.data.toList s.size).2;have L:=u (U0 w s Aa);have W:Hw s=s.extract ((Ey s.data.toList s.size).toNat+1) s.size:=iP;obtain⟨i,V⟩:∃i:Nat,Ey s.data.toList s.size=(i:Int):=⟨(Ey s.data.toList s.size).toNat,Aa⟩;rw[V]at L o W;have m:(i:Int)+1<=(s.size:Int):=Aa;rw[show((i:Int).toNat)=i by omega]at W;rw[W];clear Q F C V W;go_enter func194,ntmps194;go_wp2_with (go_at_call 202;apply L.out.mono;rintro e H⟨rfl,rfl⟩);go_ret;exact⟨Ad,iP⟩
end Go.Proofs.YtcbilgmfdgpomaaGreatDoor
namespace Orch
variable (f:gZ)
abbrev lv:Lt:=⟨91,2,0,0,0,o9,93⟩
def parse_get:parse [40,52,56,52,98,40,56,56,52,52,41,41]=ni (.mk lr [t4,t8,t4,tb,.mk lr [t8,t8,t4,t4]]):=Ac
def parse_list:parse [40,52,56,52,91,116,93,41]=ni (.mk lr [t4,t8,t4,.mk lv [tt]]):=Ac
def txB(L:gX):hQ:=L.flatMap λs=>be s.size 4++s.data.toList
def txB_cons(s:hU)(L:gX):txB (s::L)=be s.size 4++s.data.toList++txB L:=by simp[txB]
def FC{k}:∀L(i:Nat)(a:hQ),(∀s∈L,s.size<=200/\f s=tu)->iR a+(txB L).length<=1000->putE (put f (k+1)) (.mk lv [tt]) (L.map txt) i a=ni (a++txB L)
 |[],i,a,h,K=>by simp[putE,txB]
 |s::L,i,a,h,K=>by
  rw[txB_cons,aM]at K;have E:part (.mk lv [tt]) i=tt:=by simp[part,Ty.l,Ty.ps]
  rw[bA,putE,E,(puts_t f (k:=k) (h s cH).1 (h s cH).2 a Aa)];simp only;rw[FC L _ _ (λx Z=>h x (cF _ Z)) Aaz,txB_cons];simp
def Ael{k}{L:gX}(U:iR L<=32)(h:∀s∈L,s.size<=200/\f s=tu):GK f (k+2) (.mk lv [tt]) (.mk 0 iN (L.map txt)) (be (iR L) 4++txB L):=λa O=>by
 have I:M f (.mk lv [tt]) (.mk 0 iN (L.map txt))=tu:=by
  have C:(ByteArray.mk #[]).size=0:=iP;simp[M,Ty.l,V.n,V.s,V.l,C,U]
 have g:head (.mk lv [tt]) (.mk 0 iN (L.map txt))=be (iR L) 4:=by simp[head,Ty.l,V.l]
 rw[put,aJ I,g];rw[aM]at O;have:=FC f (k:=k) L 0 (a++be (iR L) 4) h Aaz
 show(match putE _ _ (L.map txt) 0 _ with|none=>su|some o=>if iR o<=1000 then ni o else su)=_
 grind
def puts_get{m z e a b c d s}(o:-2147483648<=m)(i:m<=2147483647)(W:-9223372036854775808<=z)(T:z<=9223372036854775807)(g:-2147483648<=e)(A:e<=2147483647)(l:s.size<=200)(h:-9223372036854775808<=a)(j:a<=9223372036854775807)(M:-9223372036854775808<=b)(D:b<=9223372036854775807)(n:-2147483648<=c)(x:c<=2147483647)(k:-2147483648<=d)(E:d<=2147483647):put f 9 [] (.mk lr [t4,t8,t4,tb,.mk lr [t8,t8,t4,t4]]) (.mk 0 iN [num m,num z,num e,txt s,.mk 0 iN [num a,num b,num c,num d]])=ni (be m 4++be z 8++be e 4++be s.size 4++s.data.toList++be a 8++be b 8++be c 4++be d 4):=by
 have y:iR s.data.toList=s.size:=iP;have:=puts_rec f (l:=lr) iP (.cons (puts_4 f o i) (.cons (puts_8 f W T) (.cons (puts_4 f g A) (.cons (puts_b f l) (.cons (puts_rec f (k:=7) (l:=lr) iP (.cons (puts_8 f h j) (.cons (puts_8 f M D) (.cons (puts_4 f n x) (.cons (puts_4 f k E) .nil))))) .nil))))) [] T5;simpa using this
def puts_list{m z e}{L:gX}(o:-2147483648<=m)(i:m<=2147483647)(W:-9223372036854775808<=z)(T:z<=9223372036854775807)(g:-2147483648<=e)(A:e<=2147483647)(U:iR L<=32)(h:∀s∈L,s.size<=200/\f s=tu)(K:(txB L).length<=980):put f 9 [] (.mk lr [t4,t8,t4,.mk lv [tt]]) (.mk 0 iN [num m,num z,num e,.mk 0 iN (L.map txt)])=ni (be m 4++be z 8++be e 4++be (iR L) 4++txB L):=by
 have:=puts_rec f (l:=lr) iP (.cons (puts_4 f o i) (.cons (puts_8 f W T) (.cons (puts_4 f g A) (.cons (Ael f (k:=6) U h) .nil)))) [] (by simp only[aM,be_length,aX];omega);simpa using this
end Orch
namespace Go.Proofs.YtcbilgmfdgpomaaGreatDoor
variable {P:Program}{r:List (hU×Nd)}{x:Nd}
open Go Go.RowKit
def Orch.parse_record:Orch.parse [40,52,56,116,98,116,41]=ni (.mk Orch.lr [Orch.t4,Orch.t8,Orch.tt,Orch.tb,Orch.tt]):=Ac
def Oc(kind last:Int)(p d n:hU):hQ:=Orch.be kind 4++Orch.be last 8++Orch.be p.size 4++p.data.toList++Orch.be d.size 4++d.data.toList++Orch.be n.size 4++n.data.toList
abbrev Ajh(kind last:Int)(p d n:hU):Array O:=#[iL kind,x7 ⟨#[]⟩,um su 0 0,iL last,x7 ⟨#[]⟩,um su 0 0,iL 0,x7 p,um su 0 0,iL 0,x7 d,um su 0 0,iL 0,x7 n,um su 0 0]
def AR(kind a p d n):(Oc kind a p d n).length=24+p.size+d.size+n.size:=by
 simp[Oc,Orch.be_length];omega
def NU(a){kind b p d n}(X:-2147483648<=kind)(c:kind<=2147483647)(r:-9223372036854775808<=b)(j:b<=9223372036854775807)(Q:p.size<=200)(q:a p=tu)(y:d.size<=200)(z:n.size<=200)(e:a n=tu):Orch.put a 9 [] (.mk Orch.lr [Orch.t4,Orch.t8,Orch.tt,Orch.tb,Orch.tt]) (.mk 0 iN [Orch.num kind,Orch.num b,Orch.txt p,Orch.txt d,Orch.txt n])=ni (Oc kind b p d n):=by
 have C:iR p.data.toList=p.size:=iP;have J:iR d.data.toList=d.size:=iP;have T:iR n.data.toList=n.size:=iP;have:=Orch.puts_rec a (k:=8) (l:=Orch.lr) iP (.cons (Orch.puts_4 a X c) (.cons (Orch.puts_8 a r j) (.cons (Orch.puts_t a Q q) (.cons (Orch.puts_b a y) (.cons (Orch.puts_t a z e) .nil))))) [] (by simp only[aM,Orch.be_length,C,J,T,aX];omega);simpa[Oc] using this
def Sc(w o I):iM w ((w.alloc o).alloc I):=(Be w o).trans ((Be _ I).mono Ad)
def Aop(w g kind p d n v)(h B P:Nat)(s V E)(u:Nat)(q:Option rj->Nat->Nat->qg->Prop)(r:qg->Option rj->Nat->Nat->qg->Prop)(z:qg->w8->qg->Prop)(HC:Hid (∀W,iM w W->sf prog 141 #[x7 ⟨#[40,52,56,116,98,116,41]⟩] W λe a=>(∃p m n,e=xr (my #[Il h B P s V E u (um p m n),vp tu])/\q p m n a)/\iM W a))(HE:Hid (∀G W T m Z a1,q T m Z G->iM G W->iM w W->W.1[a1]?=ni (jf (Ajh kind g p d n) 183)->sf prog 142 #[Il h B P s V E u (um T m Z),vv 0 iN (um (ni (iJ a1)) 5 5)] W λe a=>(∃b c f,e=xr (my #[um b c f,vp tu])/\r W b c f a)/\iM W a))(X:Hid (∀W b c f J,r W b c f J->iM w J->sf prog 172 #[um b c f] J λe a=>(∃t,e=xr (my #[t,vp tu])/\z J t a)/\iM J a)):sf prog 188 #[iL g,Mx kind p d n v] w λe a=>(∃t W,e=xr (my #[t,vp tu])/\z W t a/\iS w.1<=iS W.1)/\iM w a:=by
 have I:=hid (Be w (jf (Dx kind p d n v) 152));obtain⟨o,ae⟩:∃o,w.alloc (jf (Dx kind p d n v) 152)=o:=⟨_,iP⟩;have S:=sx w (jf (Dx kind p d n v) 152);rw[ae]at I S;have ⟨c0,Q,R,U⟩:=Ake S iP;have K:iS w.1<iS o.1:=ltOf S;clear S;go_enter func188,ntmps188;go_wp2_with (first
  |(go_at_call 141;apply(HC.out _ I.out).mono;rintro e H⟨⟨l,pm,pn,rfl,a6⟩,M⟩;have af:=hide a6;have O:=hide (I.out.trans (M.mono I.out.size));have a7:=(M.cell (p:=(iJ w.1.size)) K).trans c0;have a8:=(M.cell (p:=(iK w.1.size 1)) K).trans Q;have aa:=(M.cell (p:=(iK w.1.size 2)) K).trans R;have d3:=(M.cell (p:=(iK w.1.size 3)) K).trans U;have ab:iS w.1<iS H.1:=aC K M.size;clear M a6)
  |(go_at_call 142;apply(HE.out H _ l pm pn (iS H.1+1) af.out (Sc H _ _) (O.out.trans ((Sc H _ _).mono O.out.size)) (by have:=sx (H.alloc (jf #[pq zi h,iL B,iL P,iL s,iL V,vp E,pq zi u,um l pm pn] 208)) (jf (Ajh kind g p d n) 183);simpa using this)).mono;rintro e w2⟨⟨L,i,j,rfl,Y⟩,D⟩;have x:=hide Y;have C:=hide ((O.out.trans ((Sc H _ _).mono O.out.size)).trans (D.mono HH));clear D Y)
  |(go_at_call 172;apply(X.out _ L i j _ x.out C.out).mono;rintro e ad⟨⟨t,rfl,N⟩,F⟩;have y:=hide N;have k:=hide (C.out.trans (F.mono C.out.size));have A:=C.out.size;clear F N))
 go_ret2;exact⟨⟨_,_,iP,y.out,A⟩,k.out⟩
section
variable {z:gZ}
def CR(U:Im z F)(w)(V:F w)(y:∀W,iM w W->Table W)(A kind)(p d n:hU)(v)(X:-2147483648<=kind)(B:kind<=2147483647)(E:-9223372036854775808<=A)(K:A<=9223372036854775807)(Q:p.size<=200)(L:z p=tu)(P:d.size<=200)(R:n.size<=200)(S:z n=tu):sf prog 188 #[iL A,Mx kind p d n v] w λe a=>(∃r,e=xr (my #[r,vp tu])/\a.ownsRow w.1.size 5 1 r (Orch.be (Oc kind A p d n).length 4++Oc kind A p d n).length (A5 (Orch.be (Oc kind A p d n).length 4++Oc kind A p d n)))/\iM w a:=by
 have u:=NU z X B E K Q L P R S;have aa:=AR kind A p d n;have l:=Vc (s:=[40,52,56,116,98,116,41]) Orch.parse_record;generalize T:(Orch.Ty.mk Orch.lr [Orch.t4,Orch.t8,Orch.tt,Orch.tb,Orch.tt])=t at u l;refine(Aop w A kind p d n v t.l.sign.toNat t.l.shape t.l.size t.l.least t.l.5 t.l.text t.l.fin.toNat (λp m n a=>Fc a (λb=>b<iS a.1) t.ps (um p m n)) (λW c i j a=>∃g,c=ni (iJ g)/\i=(Oc kind A p d n).length/\g<iS a.1/\Bytes a g 0 (Oc kind A p d n))
  (λW r a=>a.ownsRow W.1.size 5 1 r (Orch.be (Oc kind A p d n).length 4++Oc kind A p d n).length (A5 (Orch.be (Oc kind A p d n).length 4++Oc kind A p d n))) (λW Y=>?_) (λab W p' m n' g Z N a1 G=>?_) (λW c i j J a6 N=>?_)).mono ?_
 ·have M:=Rz W ⟨#[40,52,56,116,98,116,41]⟩ (y W Y);rw[show Orch.parse (⟨#[40,52,56,116,98,116,41]⟩:hU).data.toList=ni t from by rw[←T];exact Orch.parse_record]at M;apply M.mono;rintro e a⟨⟨af,rfl,Z⟩,o⟩;obtain⟨I,f,rfl⟩:=Z.shape;exact⟨⟨I,_,f,iP,Z.congr (λb D=>D.2) (λ_ _=>rfl)⟩,o⟩
 ·have a7:D9 W (λb=>b<iS W.1) [Orch.num kind,Orch.num A,Orch.txt p,Orch.txt d,Orch.txt n] (um (ni (iJ g)) 5 5):=by
   refine .row [(Orch.num kind,um su 0 0),(Orch.num A,um su 0 0),(Orch.txt p,um su 0 0),(Orch.txt d,um su 0 0),(Orch.txt n,um su 0 0)] _ _ Ad (aB _) (ltOf G) (λj ad hj=>?_) (λae x=>?_)
   ·apply cellOf G;simpa[Eo,Orch.V.n,Orch.V.s,Orch.num,Orch.txt] using hj
   ·simp only[bG,dL,or_false]at x;rcases x with rfl|rfl|rfl|rfl|rfl<;>exact .nil _ _
  have:=Afz U W (U.kept (U.size V) a1 V) t l (λb=>b<iS W.1) _ (Z.congr (λb h=>aC h N.size) (λb D=>N.block b D)) ⟨0,iN,[Orch.num kind,Orch.num A,Orch.txt p,Orch.txt d,Orch.txt n]⟩ _ a7 (λ_ h=>h);rw[u]at this;apply this.mono;rintro e a⟨⟨r,rfl,O⟩,D⟩;obtain⟨g,q,rfl,_,G,k⟩:=Ul O Aa;exact⟨⟨_,_,_,iP,g,iP,iP,G,k⟩,D⟩
 ·obtain⟨g,rfl,rfl,G,k⟩:=a6;apply(MN J g j (Oc kind A p d n) k G Aa).mono;rintro e a⟨v',rfl,O,D⟩;exact⟨⟨v',iP,O⟩,D⟩
 ·rintro e a⟨⟨r,W,rfl,O,s⟩,D⟩;refine⟨⟨r,iP,O.1,?_⟩,D⟩;rcases O.2 with h|⟨g,q,H,C,h2,a8⟩
  ·exact Or.inl h
  ·exact Or.inr ⟨g,q,H,C,aF s h2,a8⟩
end
def AQ(w)(a:iE)(n c)(h:n<4):S prog 117 #[um a n c] w λe B=>e=xr (my #[iL 0,vp o9])/\B=w:=by
 go_enter func117,ntmps117;go_wp2;go_ret2;exact⟨iP,iP⟩
def IY(w T)(l:hQ)(q:4<=iR l)(K:iR l<=1000)(u:J8 w T l)(k)(E:Orch.sgn (l.take 4)=k)(a:¬(1<=k/\k<=7)):S prog 117 #[T] w λe B=>e=xr (my #[iL k,vp o9])/\B=w:=by
 obtain⟨b,off,I,rfl,C,Y,D⟩:=u;have V:Hid (S prog 158 #[um (ni (iK b off)) 4 I] w λe B=>e=xr (iL k)/\B=w):=by
  have:=BN w b off I (l.take 4) Aj (D.take (n:=4))
  rwa[E]at this
 have z:¬((iR l:Int)<4):=Aa;have c:(4:Int)<=(I:Int):=Aa;clear D E;by_cases J:1<=k
 ·have M:¬k<=7:=λh=>a ⟨J,h⟩;go_enter func117,ntmps117;go_wp2_with (go_at_call 158;apply V.out.mono;rintro e H⟨rfl,rfl⟩);go_ret2;exact⟨by simp[M],iP⟩
 ·exact T4d
def An7(w)(R:hU)(L:iE)(T k)(h b P:Nat)(s V K)(u:Nat)(q:Option rj->Nat->Nat->Z->Prop)(g:Hid (sf prog 141 #[x7 R] w λe B=>(∃p m n,e=xr (my #[Il h b P s V K u (um p m n),vp tu])/\q p m n B)/\iM w B))(d:Hid (∀S W p m n,q p m n S->iM S W->iM w W->sf prog 147 #[Il h b P s V K u (um p m n),um L T k] W λe B=>e=xr (my #[vv 0 iN (um su 0 0),vp o9])/\iM W B)):sf prog 118 #[x7 R,um L T k] w λe B=>e=xr (my #[um su 0 0,vp o9])/\iM w B:=by
 go_enter func118,ntmps118;go_wp2_with (first
  |(go_at_call 141;apply g.out.mono;rintro e H⟨⟨p,m,n,rfl,f⟩,M⟩;have o:=hide f;have O:=hide M;clear M f)
  |(go_at_call 147;apply(d.out H _ p m n o.out (Be _ _) (O.out.alloc O.out.size _)).mono;rintro e E⟨rfl,D⟩;have C:=hide ((O.out.alloc O.out.size _).trans (D.mono HH));clear D))
 go_ret2;exact⟨iP,C.out.alloc C.out.size _⟩
section
variable {z:gZ}
def XP(U:Im z F)(w)(V:F w)(c:Table w)(R:hU)(t)(Q:Orch.parse R.data.toList=ni t)(T)(l:hQ)(K:iR l<=1000)(u:J8 w T l)(y:Vt z t l=su):S prog 118 #[x7 R,T] w λe a=>e=xr (my #[um su 0 0,vp o9])/\iM w a:=by
 have d:=u;obtain⟨b,off,g,rfl,C,Y,D⟩:=u;have M:=Rz w R c;rw[Q]at M;refine An7 w R _ _ _ t.l.sign.toNat t.l.shape t.l.size t.l.least t.l.5 t.l.text t.l.fin.toNat (λp m n a=>Fc a (λb=>b<iS a.1) t.ps (um p m n)) (M.mono ?_) (λS W p m n Z N x=>?_)
 ·exact X9u
 ·have:=Afy U W (U.kept (U.size V) x V) t (Vc Q) _ _ (Z.congr (λb h=>aC h N.size) (λb D=>N.block b D)) (λ_ h=>h) _ l Aa (d.below x (aB _))
  rwa[y]at this
end
def Xh{w:Z}(h:H.1[Y w.1]?=ni (jf (A7 0 0 iN iN iN 0 o9) 131)):B8 H (((((((H.setCell (iJ w.1.size) (iL 0)).setCell (iK w.1.size 1) (iL 0)).setCell (iK w.1.size 2) (x7 iN)).setCell (iK w.1.size 3) (x7 iN)).setCell (iK w.1.size 4) (x7 iN)).setCell (iK w.1.size 5) (iL 0)).setCell (iK w.1.size 6) (vp o9)) w.1.size (A7 0 0 iN iN iN 0 o9) 131:=
 (((((((B8.refl h).set 0 (iL 0)).set 1 (iL 0)).set 2 (x7 iN)).set 3 (x7 iN)).set 4 (x7 iN)).set 5 (iL 0)).set 6 _
def Ae5(w)(L:iE)(T k a)(N:Hid (∀W,iM w W->sf prog 117 #[um L T k] W λe B=>e=xr (my #[iL a,vp o9])/\B=W)):sf prog 67 #[iL 1,um L T k] w λe B=>e=xr (my #[J7 0 0 iN iN iN 0 o9,vp o9])/\iM w B:=by
 refine R3h λX=>?_;have C:=hide (Be w (jf (A7 0 0 iN iN iN 0 o9) 131));obtain⟨P,Z⟩:∃P,w.alloc (jf (A7 0 0 iN iN iN 0 o9) 131)=P:=⟨_,iP⟩;rw[Z]at X C;have ⟨y,m,c,S,n,Y,d⟩:=P9 X.out iP;have ⟨Q,D,K,r,J,f,t,_⟩:=Iv X.out;have o:=hide (Xh X.out);obtain⟨i,p⟩:∃i,(((((((P.setCell (iJ w.1.size) (iL 0)).setCell (iK w.1.size 1) (iL 0)).setCell (iK w.1.size 2) (x7 iN)).setCell (iK w.1.size 3) (x7 iN)).setCell (iK w.1.size 4) (x7 iN)).setCell (iK w.1.size 5) (iL 0)).setCell (iK w.1.size 6) (vp o9))=i:=⟨_,iP⟩;rw[p]at o;go_enter func67,ntmps67;go_wp2_with (go_at_call 117;apply(N.out _ C.out).mono;rintro e H⟨rfl,rfl⟩);have ⟨M,b,g,z,x,E,u⟩:=P9 o.out.blk iP;exact⟨iP,my #[J7 0 0 iN iN iN 0 o9,vp o9],by simp[qe,results67,go_sem,M,b,g,z,x,E,u],iP,C.out.grown o.out.grown C.out.size Aj0⟩
def OL{P:Z}{b}(h:P.1[b]?=ni (jf (A7 0 0 iN iN iN 0 o9) 131)):P.cell? (iJ b)=ni (iL 0)/\P.cell? (iK b 1)=ni (iL 0)/\P.cell? (iK b 2)=ni (x7 iN)/\P.cell? (iK b 3)=ni (x7 iN)/\P.cell? (iK b 4)=ni (x7 iN)/\P.cell? (iK b 5)=ni (iL 0)/\P.cell? (iK b 6)=ni (vp o9)/\P.frozen? (iJ b)=o9/\P.frozen? (iK b 1)=o9/\P.frozen? (iK b 2)=o9/\P.frozen? (iK b 3)=o9/\P.frozen? (iK b 4)=o9/\P.frozen? (iK b 5)=o9/\P.frozen? (iK b 6)=o9:=
 ⟨T h iP,T h iP,T h iP,T h iP,T h iP,T h iP,T h iP,Dr h,Dr h,Dr h,Dr h,Dr h,Dr h,Dr h⟩
def Al4(w)(kind:Nat)(c:kind<8)(L:iE)(T k)(O:hU)(s:w.cell? ⟨0,kind * 3+1,su⟩=ni (x7 O))(F:0<iS w.1)(N:Hid (∀W,iM w W->sf prog 117 #[um L T k] W λe B=>e=xr (my #[iL kind,vp tu])/\B=W))(r:Hid (∀W,iM w W->sf prog 118 #[x7 O,um L T k] W λe B=>e=xr (my #[um su 0 0,vp o9])/\iM W B)):sf prog 67 #[iL 1,um L T k] w λe B=>e=xr (my #[J7 0 0 iN iN iN 0 o9,vp o9])/\iM w B:=by
 refine R3h λX=>?_;have I:=u (Be w (jf (A7 0 0 iN iN iN 0 o9) 131));refine U16 λV d=>?_;clear s;go_enter func67,ntmps67;go_wp2_with (first
  |(go_at_call 117;apply(N.out _ I.out).mono;rintro e H⟨rfl,rfl⟩)
  |(go_at_call 118;apply(r.out _ I.out).mono;rintro e P⟨rfl,D⟩;have C:=u (I.out.trans (D.mono I.out.size));have a:=u ((D.block _ (ltOf X.out)).trans X.out);clear D;obtain⟨y,m,n,S,p,Y,q,Q,t,K,f3,J,v,A⟩:=(OL a.out)))
 exact Q1j
def Al5(w)(kind:Nat)(U:kind<8)(L:iE)(T k)(O:hU)(c)(Z:2<=c)(h)(a1:h<0)(s:w.cell? ⟨0,kind * 3+1,su⟩=ni (x7 O))(F:0<iS w.1)(N:Hid (∀W,iM w W->sf prog 117 #[um L T k] W λe B=>e=xr (my #[iL kind,vp tu])/\B=W))(r:Hid (∀W,iM w W->sf prog 118 #[x7 O,um L T k] W λe B=>∃f i,e=xr (my #[um (ni (iJ f)) c i,vp tu])/\B.cell? (iK f 3)=ni (iL h)/\Hid (iM W B))):sf prog 67 #[iL 1,um L T k] w λe B=>e=xr (my #[J7 0 0 iN iN iN 0 o9,vp o9])/\iM w B:=by
 refine R3h λX=>?_;have I:=u (Be w (jf (A7 0 0 iN iN iN 0 o9) 131));refine U16 λV d=>?_;have a6:(1:Int)<(c:Int):=Aa;clear s;go_enter func67,ntmps67;go_wp2_with (first
  |(go_at_call 117;apply(N.out _ I.out).mono;rintro e H⟨rfl,rfl⟩)
  |(go_at_call 118;apply(r.out _ I.out).mono;rintro e P⟨f,i,rfl,c3,R⟩;have D:=R.out;have C:=u (I.out.trans (D.mono I.out.size));have a:=u ((D.block _ (ltOf X.out)).trans X.out);clear D;obtain⟨y,m,n,S,p,Y,q,Q,t,K,f3,J,v,A⟩:=(OL a.out)))
 exact Q1j
def XQ(w P g I N)(p:hU)(k i)(o:(k=4∨k=5∨k=6)/\(i=0∨i=1))(Y:w.1[P]?=ni (jf (A7 k N iN iN iN 0 o9) 131))(C:w.cell? ⟨g,6+1,su⟩=ni (x7 p))(J:w.cell? ⟨g,6+3,su⟩=ni (iL i))(f:g≠P):S prog 119 #[iI P,um (ni (iK g 6)) 2 I] w λe B=>e=xr (my #[])/\B8 w B P (A7 k N p iN iN 0 (i==1)) 131:=by
 have ⟨c0,_,R,_,_,_,q⟩:=P9 Y iP;have ⟨_,_,K,_,_,_,c,_⟩:=Iv Y;have z:=u Y;clear Y;have Z:=u (((B8.refl z.out).set 2 (x7 p)).set 6 (vp (i==1)));rcases o with⟨rfl|rfl|rfl,rfl|rfl⟩<;>(go_enter func119,ntmps119;go_wp2;go_region_law (fail))
 all_goals go_wp2
 all_goals exact⟨iP,my #[],by simp[qe,results119,go_sem],iP,by first|exact Z.out.drew|exact Z.out|exact Z.out.drew.drew⟩
def XR(w P b N)(Y:w.1[P]?=ni (jf (A7 7 N iN iN iN 0 o9) 131)):S prog 119 #[iI P,b] w λe B=>e=xr (my #[])/\B8 w B P (A7 7 N iN iN iN 0 o9) 131:=by
 have c0:=Vx 0 Y;go_enter func119,ntmps119;go_wp2
 all_goals exact⟨iP,my #[],by simp[qe,results119,go_sem],iP,by first|omega|exact B8.refl (u Y).out⟩
structure Fl where
 n:hU
 d:hU
 s:Nat
def Es(L:List Fl):List O:=L.flatMap λf=>[x7 f.n,x7 f.d,iL f.s]
def Ou{L f}(h:L[i]?=ni f):(Es L)[i * 3]?=ni (x7 f.n)/\(Es L)[i * 3+1]?=ni (x7 f.d)/\(Es L)[i * 3+2]?=ni (iL f.s):=by
 induction L generalizing i with
 |nil=>simp at h
 |cons x l O=>
  cases i with
  |zero=>simp at h;subst h;simp[Es]
  |succ i=>
   have:=O HI;rw[show(i+1) * 3=i * 3+3 by omega];simpa[Es] using this
def QP(L f):Es (L++[f])=Es L++[x7 f.n,x7 f.d,iL f.s]:=by simp[Es]
def Zr{L f g}(h:L[i]?=ni f):Es (L.set i g)=(((Es L).set (i * 3) (x7 g.n)).set (i * 3+1) (x7 g.d)).set (i * 3+2) (iL g.s):=by
 induction L generalizing i with
 |nil=>simp at h
 |cons x l O=>
  cases i with
  |zero=>simp[Es]
  |succ i=>
   have:=O HI;rw[show(i+1) * 3=i * 3+3 by omega];simp only[Es,List.set_cons_succ,List.flatMap_cons]at *;rw[this];simp
def dec(left:Int):Int:=if 0<left then left - 1 else left
def Tryz.info100:(prog.info? 100).map (λi=>(i.zero,i.size,i.bytes))=ni (ni (h9 #[x7 iN,x7 iN,iL 0]),3,40):=Ab
def Amf{a b:hU}(h:¬a=b):(a.toList==b.toList)=o9:=by
 rw[beq_eq_false_iff_ne,gj,gj];intro e;apply h;cases a;simp_all
def Ame{a b:hU}(h:a=b):(a.toList==b.toList)=tu:=by rw[h];simp
def LZ{a b}{r:iF}(h:iM a b):a.grownBy b r:=⟨h.os,h.tape,h.output,h.size,λi V _=>h.block i V⟩
def Ak2{w:Z}{B j}(u):w.grownBy (w.setCell (iK B j) u) (ni B):=
 ⟨iP,iP,iP,Ad,λi V z=>mg _ _ _ _ (λe=>z (by rw[e]))⟩
def DY(w S y a)(D:w.1[S]?=ni (jf #[y,iL a] 58))(F:-1<=a)(C:a<=9223372036854775807):sf prog 83 #[iI S] w λe B=>e=xr (vp (decide (a≠0)))/\B.1[S]?=ni (jf #[y,iL (dec a)] 58)/\w.grownBy B (ni S):=by
 have d:=Vx 1 D;have b:=frozen_of_row w S 1 _ 58 D;have c:=hid D;have V:=hid (heap_setCell_same w S 1 _ 58 (iL (a - 1)) D);clear D;by_cases K:a=0
 ·subst K;go_enter func83,ntmps83;go_wp2
  all_goals go_ret
  all_goals exact⟨iP,by simpa[dec] using c.out,LZ (nq _ _)⟩
 ·by_cases Q:a > 0
  ·have W:IntKind.i64.wrap (a - 1)=a - 1:=by rw[IntKind.wrap_i64];omega
   go_enter func83,ntmps83;go_wp2
   all_goals go_ret
   all_goals exact⟨by simp[K],by have:=V.out;simpa[dec,show(0:Int)<a from Q] using this,(hid (Ak2 (w:=w) (B:=S) (j:=1) (iL (a - 1)))).out⟩
  ·go_enter func83,ntmps83;go_wp2
   all_goals go_ret
   all_goals exact⟨by first|(simp[K];done)|simp,by have:=c.out;simpa[dec,show ¬(0:Int)<a by omega] using this,LZ (nq _ _)⟩
def LU(w S)(v:iE)(s a L)(n:hU)(D:w.1[S]?=ni (jf #[um v (iR L) s,iL a] 58))(P:w.ownsRow 0 100 3 (um v (iR L) s) (iR L) (Es L))(o:iR L<=100000000):sf prog 85 #[iI S,x7 n] w λe B=>B=w/\((e=xr (iL (-1))/\∀f,f∈L->f.n≠n)∨∃(i:Nat)(f:Fl),e=xr (iL i)/\L[i]?=ni f/\f.n=n):=by
 have c0:=Vx 0 D;have m:=hid P;clear D P;go_enter func85,ntmps85;go_wp2;go_loopw [11] (λk wr=>∃i:Nat,k=iL i/\i<=iR L/\wr=w/\Hid (∀j f,j<i->L[j]?=ni f->f.n≠n)) (λk _=>iR L - (intOf k).toNat)
 case atStart=>exact⟨0,iP,bE _,iP,λj f l=>Aa⟩
 case round=>
  obtain⟨i,rfl,V,K,x⟩:=hrel;subst K;by_cases Y:i<iR L
  ·have b:(i:Int)<(iR L:Int):=Aa;obtain⟨f,I⟩:∃f,L[i]?=ni f:=⟨_,aG Y⟩;obtain⟨g,d⟩:∃g,v=ni (iJ g):=by
    rcases m.out.2 with⟨e,h⟩|⟨g,c,H,e,_⟩
    ·omega
    ·cases e;exact⟨g,iP⟩
   subst d;have p:iR L<=s:=by
    rcases m.out.2 with⟨e,h⟩|⟨g,c,H,e,_,_,M,_⟩
    ·omega
    ·cases e;exact M
   have Q:wr.cell? ⟨g,i * 3,su⟩=ni (x7 f.n):=by
    have:=m.out.cells (g:=g) iP (i * 3) _ (Ou I).1
    rwa[xo,aY]at this
   by_cases z:f.n=n
   ·have q:=Ame z;go_wp2
    all_goals go_ret
    all_goals exact⟨iP,n9 ⟨i,f,iP,I,z⟩⟩
   ·have q:=Amf z;go_wp2
    all_goals go_roundw
    all_goals try(case rel=>exact⟨i+1,by go_num,Aa,by first|rfl|trivial,λj r l W=>by
     rcases Nat.lt_succ_iff_lt_or_eq.1 l with h|h
     ·exact x.out j r h W
     ·subst h;rw[I]at W;cases W;exact z⟩)
    all_goals try(case measure=>simp[intOf];omega)
  ·have b:¬(i:Int)<(iR L:Int):=Aa;go_wp2
   all_goals go_ret
   all_goals exact⟨iP,p8 ⟨iP,λf I=>by
    obtain⟨j,l,rfl⟩:=List.getElem_of_mem I;exact x.out j _ Aa (aG l)⟩⟩
end Go.Proofs.YtcbilgmfdgpomaaGreatDoor
namespace Orch
variable (f:gZ)
def Aam{t}{b:hQ}{v a}(D:iR b<=1000)(h:take f k t b=ni (v,a)):M f t v=tu/\iR a<=iR b:=by
 have ⟨pre,e,Q⟩:=put_take f k t b v a h;have:=Q [] (by simpa using Ai);refine⟨?_,Ai⟩;cases k with
 |zero=>simp[put]at this
 |succ k=>
  unfold put at this
  grind
def BS{t}:∀m i(b:hQ)X(r:hQ),iR b<=1000->takeE (take f k) t m i b=ni (X,r)->∀j x,X[j]?=ni x->M f (part t (i+j)) x=tu
 |0,i,b,X,r,D,h,j,x,Z=>by
  simp[takeE]at h
  grind
 |m+1,i,b,X,r,D,h,j,x,Z=>by
  unfold takeE at h;split at h
  ·cases h
  ·rename_i e a I;split at h
   ·cases h
   ·rename_i G c N;simp only[aW,cW]at h;obtain⟨rfl,rfl⟩:=h;have ⟨C,J⟩:=Aam f D I;cases j with
    |zero=>
     grind
    |succ j=>
     have:=BS m _ a G c Aa N j x SR
     grind
def take_rec{a}{b:hQ}{v r}(D:iR b<=1000)(h:take f (k+1) (.mk lr a) b=ni (v,r)):v.n=0/\v.s=iN/\iR v.l=iR a/\∀(j:Nat)t(x:V),a[j]?=ni t->v.l[j]?=ni x->M f t x=tu:=by
 have C:(takeE _ _ (iR a) 0 b).map listV=ni (v,r):=h;cases c:takeE (take f k) (.mk lr a) (iR a) 0 b with
 |none=>grind
 |some q=>
  have ⟨X,d⟩:=q;rw[c]at C;obtain⟨rfl,rfl⟩:=C;refine⟨iP,iP,Pa _ _ _ _ _ _ _ c,λj t x R Z=>?_⟩;have:=BS f (iR a) 0 b X d D c j x Z;rw[aY]at this;have e:part (.mk lr a) j=t:=by simp[part,Ty.l,Ty.ps,R]
  rwa[e]at this
def fits_4{x}(h:M f t4 x=tu):x=num x.n∧-2147483648<=x.n/\x.n<=2147483647:=by
 have ⟨n,s,l⟩:=x;simp only[M,Ty.l,V.n,V.s,V.l,aS]at h;have ⟨⟨⟨C,J⟩,T⟩,q⟩:=h;have z:=I6 (of_decide_eq_true T);have a:=bO.1 (of_decide_eq_true q);subst z a;exact⟨iP,(of_decide_eq_true C),(of_decide_eq_true J)⟩
def fits_q{x}(h:M f tq x=tu):x=num x.n/\(x.n=0∨x.n=1):=by
 have ⟨n,s,l⟩:=x;simp only[M,Ty.l,V.n,V.s,V.l,aS]at h;have ⟨⟨⟨C,J⟩,T⟩,q⟩:=h;have X:=of_decide_eq_true C;have o:=of_decide_eq_true J;have z:=I6 (of_decide_eq_true T);have a:=bO.1 (of_decide_eq_true q);subst z a;exact⟨iP,by simp only[V.n];omega⟩
def fits_t{x}(h:M f tt x=tu):x=txt x.s/\x.s.size<=200/\f x.s=tu:=by
 have ⟨n,s,l⟩:=x;simp only[M,Ty.l,V.n,V.s,V.l,aS, Bool.not_true,Bool.false_or]at h;have ⟨⟨C,J,T⟩,q⟩:=h;have z:=of_decide_eq_true C;have a:=bO.1 (of_decide_eq_true q);subst z a;exact⟨iP,(of_decide_eq_true J),T⟩
def fits_b{x}(h:M f tb x=tu):x=txt x.s/\x.s.size<=200:=by
 have ⟨n,s,l⟩:=x;simp only[M,Ty.l,V.n,V.s,V.l,aS, Bool.not_false,Bool.true_or,and_true]at h;have ⟨⟨C,J⟩,q⟩:=h;have z:=of_decide_eq_true C;have a:=bO.1 (of_decide_eq_true q);subst z a;exact⟨iP,(of_decide_eq_true J)⟩
def parse_ping:parse [40,52,52,41]=ni (.mk lr [t4,t4]):=Ac
end Orch
namespace Go.Proofs.YtcbilgmfdgpomaaGreatDoor
variable {P:Program}{r:List (hU×Nd)}{x:Nd}
open Go.RowKit
structure Rq where
 kind:Nat
 m:Int
 p:hU
 d:hU
 ver:Int
 wt:Bool
def Kv(k:Nat):List Orch.Ty:=
 if k=1 then [Orch.t4,Orch.t4,Orch.tt,Orch.tb] else if k=2 then [Orch.t4,Orch.t4,Orch.tt,Orch.t4] else if k=3 then [Orch.t4,Orch.t4,Orch.tt,Orch.tb,Orch.t4] else if k=7 then [Orch.t4,Orch.t4] else [Orch.t4,Orch.t4,Orch.tt,Orch.tq]
def Og(k:Nat)(l:List Orch.V):Rq:=
 match l with
 |_::b::r=>match k,r with
  |1,[p,d]=>⟨1,b.n,p.s,d.s,0,o9⟩
  |2,[p,v]=>⟨2,b.n,p.s,iN,v.n,o9⟩
  |3,[p,d,v]=>⟨3,b.n,p.s,d.s,v.n,o9⟩
  |k,[p,q]=>⟨k,b.n,p.s,iN,0,q.n==1⟩
  |k,_=>⟨k,b.n,iN,iN,0,o9⟩
 |_=>⟨k,0,iN,iN,0,o9⟩
def Hc(valid:gZ)(body:hQ):Option Rq:=
 if iR body<4 then su
 else if 1<=Orch.sgn (body.take 4)/\Orch.sgn (body.take 4)<=7 then
  match Vt valid (.mk Orch.lr (Kv (Orch.sgn (body.take 4)).toNat)) body with
  |none=>su
  |some v=>if(v.l.getD 1 (Orch.num 0)).n<0 then su else ni (Og (Orch.sgn (body.take 4)).toNat v.l)
 else su
def Ae3:Option Rq->O
 |some r=>my #[J7 r.kind r.m r.p r.d iN r.ver r.6,vp tu]
 |none=>my #[J7 0 0 iN iN iN 0 o9,vp o9]
section
variable {z:gZ}
def JC(U:Im z F)(w)(V:F w)(n:Table w)(kind)(Y:1<=kind)(a1:kind<=7)(O:hU)(s:w.cell? ⟨0,kind * 3+1,su⟩=ni (x7 O))(o:0<iS w.1)(d)(Q:Orch.parse O.data.toList=ni d)(body:hQ)(i:iR body<=1000)(q:4<=iR body)(r:Orch.sgn (body.take 4)=kind)(H y A t)(a6:0<=t.n)(a)(a7:2<=iR a)(I:Vt z d body=ni (.mk H y (A::t::a)))(T)(u:J8 w T body)(p f S K h)(L:∀g c P W,(∀j x,a[j]?=ni x->W.cell? ⟨g,6+j * 3,su⟩=ni (iL x.n)/\W.cell? ⟨g,6+(j * 3+1),su⟩=ni (x7 x.s))->g≠P->W.1[P]?=ni (jf (A7 kind t.n iN iN iN 0 o9) 131) ->
   sf prog 119 #[iI P,um (ni (iK g 6)) (iR a) c] W λe b=>e=xr (my #[])/\B8 W b P (A7 kind t.n p f S K h) 131):sf prog 67 #[iL 1,T] w λe b=>e=xr (my #[J7 kind t.n p f S K h,vp tu])/\iM w b:=by
 have m:=u;obtain⟨a8,off,aa,rfl,C,ab,D⟩:=u;refine Aji w kind Aa _ _ _ (iR a+2) Aa O t.n Aa p f S K h (λg c W=>∀j x,a[j]?=ni x->W.cell? ⟨g,6+j * 3,su⟩=ni (iL x.n)/\W.cell? ⟨g,6+(j * 3+1),su⟩=ni (x7 x.s)) s o ?_ ?_ ?_
 ·intro W k;exact Ve W _ _ q i (m.below k (aB _)) kind r Aa Aa
 ·intro W k;apply(Tg U W (U.kept (U.size V) k V) (n.below k n.pos) O d Q _ _ i (m.below k (aB _)) _ I).mono;rintro e b⟨⟨ad,rfl,B⟩,R⟩;obtain⟨g,c,rfl,M,G,E⟩:=BZ B;refine⟨g,c,iP,M,(E 1 _ iP).1,λj x Z=>?_,G.2,R⟩;have:=E (j+2) x SR
  grind
 ·intro g c J sv v G e X N l;rw[e Aa,Nat.add_sub_cancel];exact L g (c - 2) J.1.size X (λj x Z=>⟨(N.cell (p:=(iK g _)) G).trans (v j x Z).1,(N.cell (p:=(iK g _)) G).trans (v j x Z).2⟩) Aa l
end
open Go
section
variable (w:Z)
end
def Wu{J:Z}{B a n v}{X:iC}(h:W.ownsRow B e a v n X)(s:∀g cs,v.ownBlock=ni g->W.1[g]?=ni (jf cs e)->J.1[g]?=W.1[g]?):J.ownsRow B e a v n X:=by
 refine⟨h.1,?_⟩;rcases h.2 with F|⟨g,I,H,q,c,k,N⟩
 ·exact p8 F
 ·exact n9 ⟨g,I,H,q,c,(s g H (by rw[q];rfl) k).trans k,N⟩
section
variable {e:Z} {b X:Nat} {l v:O} {a:mi}
def Ii{n}{X:iC}(h:e.ownsRow b a c v n X)(G:v.ownBlock=ni g):∃cs,e.1[g]?=ni (jf cs a):=by
 rcases h.2 with⟨N,_⟩|⟨R,I,H,N,_,m,_⟩
 ·rw[N]at G;cases G
 ·rw[N]at G;cases G;exact⟨H,m⟩
def Ad5{n e a}{c:iC}(h:W.ownsRow b e a l n c)(f:l.ownBlock≠ni X)(z):(W.setCell (iK X j) z).ownsRow b e a l n c:=
 h.kept ⟨iP,iP,iP,Ad,λi _ V=>mg _ _ _ _ (λe=>V (by rw[e]))⟩ (n9 f)
def AN{b n a v}{X:iC}(h:e.ownsRow b a c v n X):∃d f,v=um d n f:=by
 rcases h.2 with⟨a,F⟩|⟨g,I,H,a,_⟩
 ·grind
 ·exact⟨_,_,a⟩
end
def V9{w:Z}{L f a n}(h:w.ownsRow a t 3 (um (ni (iJ g)) n c) n (Es L))(I:L[i]?=ni f):w.cell? ⟨g,i * 3,su⟩=ni (x7 f.n)/\w.cell? ⟨g,i * 3+1,su⟩=ni (x7 f.d)/\w.cell? ⟨g,i * 3+2,su⟩=ni (iL f.s):=by
 have ⟨F,C,J⟩:=Ou I;have y:=h.cells iP _ _ F;have m:=h.cells iP _ _ C;have b:=h.cells iP _ _ J;rw[xo,aY]at y m b;exact⟨y,m,b⟩
def Ae0{w:Z}{a}{v:iE}{n}{X:iC}(h:w.ownsRow a t 3 (um v n s) n X)(z:0<n):∃g,v=ni (iJ g)/\n<=s/\g<Y w.1/\a<=g:=by
 rcases h.2 with⟨e,F⟩|⟨g,I,H,e,D,G,M,_⟩
 ·omega
 grind
structure St(bt rt)(w:qg)(K:Nat)(left L)(fa:iE)(fc):Prop where
 blk:w.1[K]?=ni (jf #[um fa (iR L) fc,iL left] bt)
 row:w.ownsRow 0 rt 3 (um fa (iR L) fc) (iR L) (Es L)
structure Ug(w w' K)(o o':iF):Prop where
 k:Ax w w' (λi=>i=K∨o=ni i)
 own:∀g,o'=ni g->o=ni g∨iS w.1<=g
def Ug.size{w K}(h:Ug w B K o I):=h.k.size
def Ug.same{w K}(h:Ug w B K o I)(i)(C:i<Y w.1)(J:i≠K)(T:o≠ni i):=h.k.block i C λe=>e.elim J T
def Ug.trans{w t K A}(h:Ug w B K o I)(P:Ug B t K I A):Ug w t K o A:=
 ⟨⟨P.k.os.trans h.k.os,P.k.tape.trans h.k.tape,P.k.output.trans h.k.output,aF h.size P.size,λi V O=>(P.k.block i (aC V h.size) (λe=>by
  rcases e with e|e
  ·exact O (p8 e)
  ·rcases h.own i e with C|C
   ·exact O (n9 C)
   ·omega)).trans (h.k.block i V O)⟩,λg G=>by
  rcases P.own g G with C|C
  ·exact h.own g C
  ·exact n9 (aF h.size C)⟩
def Ug.grown{w K}(h:w.grownBy B (ni K)):Ug w B K o o:=⟨⟨h.os,h.tape,h.output,h.size,λi V E=>h.block i V (λe=>E (p8 Agd))⟩,λ_ h=>p8 h⟩
def Ug.grownO{w K}(h:w.grownBy B o):Ug w B K o o:=⟨⟨h.os,h.tape,h.output,h.size,λi V E=>h.block i V (λe=>E (n9 e.symm))⟩,λ_ h=>p8 h⟩
def Ug.below{w K}(h:iM w B):Ug w B K o o:=⟨⟨h.os,h.tape,h.output,h.size,λi V _=>h.block i V⟩,λ_ h=>p8 h⟩
variable {e d:Z} {K:Nat} {L:List Fl} {f:iE} {m:Nat}
def St.below(h:St bt rt e K l L f m)(D:iM e d):St bt rt d K l L f m:=⟨(D.block _ (N h.blk)).trans h.blk,Ew h.row D⟩
def St.lefts(h:St bt rt e K l L f m){V}(D:d.1[K]?=ni (jf #[um f (iR L) m,iL V] bt))(G:e.grownBy d (ni K))(R:rt≠bt):St bt rt d K V L f m:=
 ⟨D,Wu h.row (λg cs b M=>G.block g (N M) (λa=>by cases a;rw[h.blk]at M;cases M;exact R iP))⟩
abbrev Fx(f:iE):Option Nat:=(um f 0 0).ownBlock
def Xx(v:iE)(n c):(um v n c).ownBlock=Fx v:=by cases v<;>rfl
structure Dgo(bt rt e d K left' f L'):Prop where
 st:∃fa' fc',St bt rt d K left' L' fa' fc'/\Ug e d K (Fx f) (Fx fa')
def Dgo.same{w K u L v}(h:St bt rt B K u L v s)(G:Ug w B K (Fx v) (Fx v)):Dgo bt rt w B K u v L:=⟨v,s,h,G⟩
end Go.Proofs.YtcbilgmfdgpomaaGreatDoor
namespace Go.Proofs.YtcbilgmfdgpomaaGreatDoor
variable {P:Program}{r:List (hU×Nd)}{x:Nd}
open Go Go.RowKit
def Ad3{w:Z}{a L f}(h:w.ownsRow a t 3 (um (ni (iJ g)) (iR L) c) (iR L) (Es L))(I:L[i]?=ni f)(d:hU):(w.setCell ⟨g,i * 3+1,su⟩ (x7 d)).ownsRow a t 3 (um (ni (iJ g)) (iR L) c) (iR L) (Es (L.set i { f with d:=d }))/\w.grownBy (w.setCell ⟨g,i * 3+1,su⟩ (x7 d)) (ni g):=by
 have:=h.stored (i * 3+1) (x7 d);refine⟨?_,this.2⟩;have e:(Es L).set (i * 3+1) (x7 d)=Es (L.set i { f with d:=d }):=by
  rw[Zr I];have ⟨F,C,J⟩:=Ou I;refine bK λj=>?_
  grind
 grind
def PX(L:List Fl)(n d:hU)(L':List Fl):Prop:=
 ((∀f,f∈L->f.n≠n)/\L'=L++[⟨n,(iN:hU)++d,0⟩])∨∃i f,L[i]?=ni f/\f.n=n/\L'=L.set i { f with d:=f.d++d }
def St.data{a w K L f}(h:St a rt w K l L (ni (iJ g)) s)(R:rt≠a)(I:L[i]?=ni f)(d:hU):St a rt (w.setCell ⟨g,i * 3+1,su⟩ (x7 d)) K l (L.set i { f with d:=d }) (ni (iJ g)) s/\w.grownBy (w.setCell ⟨g,i * 3+1,su⟩ (x7 d)) (ni g):=by
 have ⟨C,J⟩:=Ad3 h.row I d;have b:K≠g:=λe=>by
  have ⟨Q,P⟩:=Ii h.row iP;rw[←e,h.blk]at P;cases P;exact R iP
 refine⟨⟨?_,?_⟩,J⟩
 ·rw[ve2];exact(mg _ _ _ _ b).trans h.blk
 grind
def WL{E r k S x I L v}{n d:hU}(U:St 58 100 E S l L v s)(F:iM E r)(p:k.1[x]?=ni (jf #[iI S] 60))(q:k.1[S]?=ni (jf #[um v (iR L) s,iL l] 58))(f:k.ownsRow 0 100 3 (um (ni (iJ g)) (iR L+1) I) (iR L+1) (Es L++[x7 n,x7 iN,iL 0]))(D:r.drew.grownBy k (um v (iR L) s).ownBlock)(j:(um v (iR L) s).ownBlock=ni g∨g=r.drew.1.size):∃N,k.setCell (iJ S) (um (ni (iJ g)) (iR L+1) I)=N/\N.cell? (iJ x)=ni (iI S)/\N.cell? (iJ S)=ni (um (ni (iJ g)) (iR L+1) I)/\N.cell? ⟨g,iR L * 3+1,su⟩=ni (x7 iN)/\N.frozen? ⟨g,iR L * 3+1,su⟩=o9/\iR L+1<=I /\
   Hid (Dgo 58 100 E (N.setCell ⟨g,iR L * 3+1,su⟩ (x7 (iN++d))) S l v (L++[⟨n,(iN:hU)++d,0⟩])):=by
 have K:(L++[(⟨n,iN,0⟩:Fl)]).length=iR L+1:=Ad;have y:g≠S:=λe=>by obtain⟨c,t⟩:=(Ii f iP);rw[e,q]at t;cases t
 have a:(k.setCell (iJ S) (um (ni (iJ g)) (iR L+1) I)).ownsRow 0 100 3 (um (ni (iJ g)) (iR L+1) I) (iR L+1) (Es (L++[⟨n,iN,0⟩])):=by
  rw[QP];exact Ad5 f (by simp[yf,y]) _
 have B:=heap_setCell_same k S 0 _ 58 (um (ni (iJ g)) (iR L+1) I) q;have T:St 58 100 (k.setCell (iJ S) (um (ni (iJ g)) (iR L+1) I)) S l (L++[⟨n,iN,0⟩]) (ni (iJ g)) I:=⟨by rwa[K],by rwa[K]⟩;have b:(L++[(⟨n,iN,0⟩:Fl)])[iR L]?=ni ⟨n,iN,0⟩:=Ad;obtain⟨_,Q,_⟩:=V9 a b;obtain⟨J,P⟩:=T.data Ae b (iN++d);have u:(L++[(⟨n,iN,0⟩:Fl)]).set (iR L) ⟨n,(iN:hU)++d,0⟩=L++[⟨n,(iN:hU)++d,0⟩]:=Ad;rw[u]at J;refine⟨_,iP,cellOf ((mg _ _ _ _ (λe=>by rw[e,q]at p;simp at p)).trans p) iP,cellOf B iP,Q,a.frozenAt (iR L * 3+1),?_,⟨ni (iJ g),I,J,?_⟩⟩
 ·rcases f.2 with⟨e,_⟩|⟨R,o,H,e,_,_,M,_⟩
  ·cases e
  ·cases e;exact M
 ·have A:Y r.1<=Y k.1:=D.size;have C:=F.size;refine⟨⟨P.os.trans (D.os.trans F.os),P.tape.trans (D.tape.trans F.tape),P.output.trans (D.output.trans F.output),by have:=P.size;simp at this⊢;omega,λi V Z=>?_⟩,λR m=>?_⟩
  ·have O:Fx v≠ni i:=λe=>Z (n9 e);have z:i≠g:=λe=>by
    subst e;rcases j with h|h
    ·exact O ((Xx v _ _).symm.trans h)
    ·have:i=Y r.1:=h;omega
   rw[P.block i Ah (λe=>z Agd),mg _ _ _ _ (λe=>Z (p8 e)),D.block i (by show i<Y r.1;omega) (λe=>O ((Xx v _ _).symm.trans e.symm))];exact F.block i V
  ·cases m;rcases j with h|h
   ·exact p8 ((Xx v _ _).symm.trans h)
   ·exact n9 (by have:g=Y r.1:=h;show Y E.1<=g;omega)
def Dgo.pre{a w K v p}(G:Ug w H K (Fx v) (Fx v))(h:Dgo a rt H B K l v p):Dgo a rt w B K l v p:=by
 have ⟨C,g,c,b⟩:=h.st;exact⟨C,g,c,G.trans b⟩
def NJ(w a S j L v s)(n d:hU)(m:w.1[a]?=ni (jf #[iI S] 60))(h:St 58 100 w S j L v s)(ab:-1<=j)(ad:j<=9223372036854775807)(hL:iR L<=10000000)(B:∀f,f∈L->f.d.size+d.size<=1099511627776)(av:d.size<=1099511627776):sf prog 55 #[iI a,x7 n,x7 d] w λe w'=>e=xr (vp (decide (j≠0)))/\∃p,Dgo 58 100 w w' S (dec j) v p/\((j=0/\p=L)∨(j≠0/\PX L n d p)):=by
 have G:a≠S:=λe=>by have:=h.blk;rw[←e,m]at this;simp at this
 have J:=DY w S _ j h.blk ab ad;have c0:=Vx 0 m;have c:=hid h;have HD:=hid B;have A:=hid m;clear h B m;by_cases K:j=0
 ·have P:decide (j≠0)=o9:=by simp[K]
  rw[P]at J⊢;have V:=hid J;clear J;go_enter func55,ntmps55;exact Fue
 ·have P:decide (j≠0)=tu:=by simp[K]
  rw[P]at J⊢;have V:=hid J;have g:=hid K;clear J K P;go_enter func55,ntmps55;go_wp2_with (go_at_call 83;apply V.out.mono;rintro e H⟨rfl,M,W⟩;have R:=hid (c.out.lefts M W Ae);have t:=hid W;have b:=hid ((W.block a (ltOf A.out) (λe=>G Agd)).trans A.out);have Q:=cellOf (j:=0) b.out iP;have y:=hid (LU H S v s (dec j) L n R.out.blk R.out.row Aa);clear M W);apply y.out.mono;rintro e E⟨Y,N⟩;subst Y;have s0:=Vx 0 R.out.blk;rcases N with⟨rfl,O⟩|⟨i,f,rfl,I,T⟩
  ·
   have r:=hid O;clear O;have C:=hid (sx E (jf #[x7 n,x7 iN,iL 0] 100));have l:=hid (Be E (jf #[x7 n,x7 iN,iL 0] 100));have F:=hid (R.out.row.alloc (jf #[x7 n,x7 iN,iL 0] 100));have Z:=hid ((l.out.block S (ltOf R.out.blk)).trans R.out.blk);have ae:Hid ((um v (iR L) s).ownBlock≠ni S):=λe=>by
    obtain⟨Q,k⟩:=Ii R.out.row e;rw[R.out.blk]at k;cases k
   have af:Hid ((um v (iR L) s).ownBlock≠ni a):=λe=>by
    obtain⟨Q,k⟩:=Ii R.out.row e;rw[b.out]at k;cases k
   have X:=hid ((l.out.block a (ltOf b.out)).trans b.out);obtain⟨j0,ah,ai,aj,ak⟩:=zu Tryz.info100;have aw:=Vx 0 Z.out;have ax:=(l.out.cell (p:=(iJ a)) (ltOf b.out)).trans Q;go_wp2;go_region_law (apply step_append_lies _ iP (.tmp 32) (.tmp 35) 56 iP 0 100 j0 _ 3 40 underlying56 ah ai aj ak iP Ae (.slice v (iR L) s) (iR L) (Es L) (by simp[Act.eval]) F.out.drew (iJ E.1.size) 1 1 _ (by simp[Act.eval]) Ac (k8 C.out) (by intro ay hu;simp at hu;rcases hu with rfl|rfl|rfl<;>rfl) Aa Pc Aa (bE _) _ iP;intro o az w5 a1 D a6 b5;have q:=hid ((D.block S (by show S<_;exact ltOf Z.out) (λe=>ae.out e.symm)).trans Z.out);have u:=hid ((D.block a (by show a<_;exact ltOf X.out) (λe=>af.out e.symm)).trans X.out);have d5:=cellOf (j:=0) u.out iP;have k5:=cellOf (j:=0) q.out iP;have z5:=frozen_of_row w5 S 0 _ _ q.out;have a7:=hid a1;have a8:=hid D;have aa:=hid a6;clear a1 D a6)
   all_goals (obtain⟨W6,b6,D6,S6,q6,z6,b7,al⟩:=WL (d:=d) R.out l.out u.out q.out a7.out a8.out aa.out)
   all_goals clear a7 a8 aa u q k5 z5 d5 C F
   all_goals go_wp2
   all_goals go_ret
   all_goals exact⟨iP,_,.pre (Ug.grown t.out) al.out,n9 ⟨g.out,p8 ⟨r.out,iP⟩⟩⟩
  ·
   have an:=(aD.1 I).1;have ao:(i:Int)<(iR L:Int):=Aa;obtain⟨o,z,aq,ar,_⟩:=Ae0 R.out.row Aa;subst z;obtain⟨U,q1,q2⟩:=V9 R.out.row I;have z1:=R.out.row.frozenAt (i * 3+1);have b8:=HD.out f (aV I);have x:=hid (R.out.data Ae I (f.d++d));have HF:=hid I;have au:=hid T;clear I T U q2;go_wp2
   all_goals go_ret
   all_goals exact⟨iP,_,⟨ni (iJ o),s,x.out.1,(Ug.grown t.out).trans (Ug.grownO (by simpa[Fx,yf] using x.out.2))⟩,n9 ⟨g.out,n9 ⟨i,f,HF.out,au.out,iP⟩⟩⟩
section
variable {z:gZ}
def Ach(U:Im z F)(w)(V:F w)(c:Table w)(W e)(a:-9223372036854775808<=W)(T:W<=9223372036854775807)(f:-2147483648<=e)(A:e<=2147483647):sf prog 71 #[iL W,iL e] w λx B=>Fr w.1.size B x (Orch.be (-2) 4++Orch.be W 8++Orch.be e 4)/\iM w B:=by
 have R:Hid (sf prog 125 #[x7 ⟨#[40,52,56,52,41]⟩,um (ni (iJ w.1.size)) 3 3] (w.alloc (jf #[iL (-2),x7 iN,um su 0 0,iL W,x7 iN,um su 0 0,iL e,x7 iN,um su 0 0] 183)) λx B=>Fr w.1.size B x (Orch.be (-2) 4++Orch.be W 8++Orch.be e 4)/\iM w B):=by
  have S:iM w (w.alloc (jf #[iL (-2),x7 iN,um su 0 0,iL W,x7 iN,um su 0 0,iL e,x7 iN,um su 0 0] 183)):=Be w _;have q:=Nu w [(Orch.num (-2),um su 0 0),(Orch.num W,um su 0 0),(Orch.num e,um su 0 0)] (λb=>b<Y w.1+1) Ad #[iL (-2),x7 iN,um su 0 0,iL W,x7 iN,um su 0 0,iL e,x7 iN,um su 0 0] Aq 183 3 iP _ iP Ad (by
   intro p Q;simp at Q;rcases Q with rfl|rfl|rfl<;>exact .nil su 0)
  apply(Qu U _ (U.kept (U.size V) S V) (c.below S c.pos) ⟨#[40,52,56,52,41]⟩ _ _ _ q (λb h=>HI) _ Orch.parse_error _ (Orch.puts_error z Ae Ae a T f A) Ao Ao).mono;rintro e B⟨h,D⟩;exact⟨Fr.low h Ad,S.trans (D.mono Ad)⟩
 go_enter func71,ntmps71;exact Tax
end
def MP(w kind F):S prog 164 #[iL kind,iL F] w λe B=>e=xr (vp (F==0||(kind==5&&F==10)))/\B=w:=by
 by_cases a:F=0
 ·subst a;go_enter func164,ntmps164;go_wp2;go_ret;exact⟨iP,iP⟩
 ·by_cases z:kind=5
  ·subst z;go_enter func164,ntmps164;go_wp2;go_ret;simp
  ·go_enter func164,ntmps164;go_wp2;go_ret;exact⟨by simp[a,z],iP⟩
def TW(w kind):S prog 166 #[iL kind] w λe B=>e=xr (iL (if kind=6 then 1 else 0))/\B=w:=by
 by_cases h:kind=6
 ·go_enter func166,ntmps166;go_wp2;go_ret;exact⟨iP,iP⟩
 ·go_enter func166,ntmps166;go_wp2;go_ret;exact⟨iP,iP⟩
def Ad4{w:Z}{a L f}(h:w.ownsRow a t 3 (um (ni (iJ g)) (iR L) c) (iR L) (Es L))(I:L[i]?=ni f)(s:Nat):(w.setCell ⟨g,i * 3+2,su⟩ (iL s)).ownsRow a t 3 (um (ni (iJ g)) (iR L) c) (iR L) (Es (L.set i { f with s:=s }))/\w.grownBy (w.setCell ⟨g,i * 3+2,su⟩ (iL s)) (ni g):=by
 have:=h.stored (i * 3+2) (iL s);refine⟨?_,this.2⟩;have e:(Es L).set (i * 3+2) (iL s)=Es (L.set i { f with s:=s }):=by
  rw[Zr I];obtain⟨F,C,J⟩:=Ou I;refine bK λj=>?_
  grind
 grind
def St.safe{w K L a f}(h:St bt rt w K l L (ni (iJ g)) a)(R:rt≠bt)(I:L[i]?=ni f)(s:Nat):St bt rt (w.setCell ⟨g,i * 3+2,su⟩ (iL s)) K l (L.set i { f with s:=s }) (ni (iJ g)) a/\w.grownBy (w.setCell ⟨g,i * 3+2,su⟩ (iL s)) (ni g):=by
 have ⟨C,J⟩:=Ad4 h.row I s;have b:K≠g:=λe=>by
  have ⟨Q,P⟩:=Ii h.row iP;rw[←e,h.blk]at P;cases P;exact R iP
 refine⟨⟨?_,?_⟩,J⟩
 ·rw[ve2];exact(mg _ _ _ _ b).trans h.blk
 ·rwa[ve2]
def St.drew{w K L v}(h:St bt rt w K l L v s):St bt rt w.drew K l L v s:=⟨h.blk,h.row.drew⟩
def VT(L:List Fl)(n:hU)(L':List Fl):Prop:=
 ((∀f,f∈L->f.n≠n)/\L'=L)∨∃i f,L[i]?=ni f/\f.n=n/\L'=L.set i { f with s:=f.d.size }
def ZE(w a S left L v s)(n:hU)(m:w.1[a]?=ni (jf #[iI S] 60))(h:St 58 100 w S left L v s)(k:-1<=left)(d:left<=9223372036854775807)(u:iR L<=10000000):sf prog 56 #[iI a,x7 n] w λe B=>e=xr (vp (decide (left≠0)))/\∃p,Dgo 58 100 w B S (dec left) v p/\((left=0/\p=L)∨(left≠0/\VT L n p)):=by
 have G:a≠S:=λe=>by have:=h.blk;rw[←e,m]at this;simp at this
 have J:=DY w S _ left h.blk k d;have c0:=Vx 0 m;have c:=hid h;have A:=hid m;clear h m;by_cases K:left=0
 ·have P:decide (left≠0)=o9:=by simp[K]
  rw[P]at J⊢;have V:=hid J;clear J;go_enter func56,ntmps56;exact Fue
 ·have P:decide (left≠0)=tu:=by simp[K]
  rw[P]at J⊢;have V:=hid J;have g:=hid K;clear J K P;go_enter func56,ntmps56;go_wp2_with (go_at_call 83;apply V.out.mono;rintro e H⟨rfl,M,W⟩;have R:=hid (c.out.lefts M W Ae);have t:=hid W;have b:=hid ((W.block a (ltOf A.out) (λe=>G Agd)).trans A.out);have Q:=cellOf (j:=0) b.out iP;have y:=hid (LU H S v s (dec left) L n R.out.blk R.out.row Aa);clear M W);apply y.out.mono;rintro e E⟨Y,N⟩;subst Y;have F:=Vx 0 R.out.blk;rcases N with⟨rfl,O⟩|⟨i,f,rfl,I,T⟩
  ·have r:=hid O;clear O;go_wp2
   all_goals go_ret
   all_goals exact⟨iP,L,.same R.out (Ug.grown t.out),n9 ⟨g.out,p8 ⟨r.out,iP⟩⟩⟩
  ·have an:=(aD.1 I).1;have X:(i:Int)<(iR L:Int):=Aa;have D:(i:Int) ≥ 0:=Aa;obtain⟨o,z,aq,ar,_⟩:=Ae0 R.out.row Aa;subst z;obtain⟨U,q1,q2⟩:=V9 R.out.row I;have z1:=R.out.row.frozenAt (i * 3+2);have x:=hid (R.out.drew.safe Ae I f.d.size);have l:=hid I;have C:=hid T;clear I T U;go_wp2;go_region_law (fail)
   all_goals go_wp2
   all_goals go_ret
   all_goals exact⟨iP,_,⟨ni (iJ o),s,x.out.1,(Ug.grown t.out).trans ⟨⟨x.out.2.os,x.out.2.tape,x.out.2.output,x.out.2.size,λj q Z=>x.out.2.block j q (λe=>Z (n9 Agd))⟩,λ_ h=>p8 h⟩⟩,n9 ⟨g.out,n9 ⟨i,f,l.out,C.out,iP⟩⟩⟩
open Go.Maps
def Pg(L:gX):List hU:=((L.map λx=>x.data.toList).mergeSort λx y=>decide (x<=y)).map λx=>⟨x.toArray⟩
def Ll(L):(Pg L).length=iR L:=by simp[Pg,eL]
def TG{L p}(h:L.Perm p):Pg L=Pg p:=by
 unfold Pg
 congr 1
 have J:=h.map λx:hU=>x.data.toList;have e:∀a b c:hQ,decide (a<=b)=tu->decide (b<=c)=tu->decide (a<=c)=tu:=λa b c C J=>by
  grind
 have d:∀a b:hQ,(decide (a<=b)||decide (b<=a))=tu:=λa b=>by
  simp only[dR,decide_eq_true_eq];exact List.le_total a b
 exact fX (le:=λa b=>a<=b) (λa b _ _ C J=>List.le_antisymm C J) ((gC e d _).imp λh=>HI) ((gC e d _).imp λh=>HI) ((fN _ _).trans (J.trans (fN _ _).symm))
def Afd(w a v)(L:gX)(K:iR L<=1000)(O:w.ownsRow a 9 1 v (iR L) (strs L))(r)(D:ri a r w):sf prog 195 #[v] w λe B=>e=xr (my #[])/\ri a r B/\B.ownsRow a 9 1 v (iR L) (strs (Pg L)):=by
 rcases O.2 with⟨rfl,F⟩|⟨g,I,H,rfl,o,G,S,t,f,R⟩
 ·apply(Any.slices_Sort_string_none Tryz.lays190 su 0 w).mono;rintro e B⟨rfl,rfl⟩;have c:L = []:=fG F;subst c;exact⟨iP,D,by simpa[Pg] using O⟩
 ·have p:Go.Sort.Holds encStr w g 0 (L.map λx=>x.data.toList).toArray:=λj l=>by
   have P:j<iR L:=by simpa using l
   rw[aY];refine⟨?_,Dr G⟩;have C:(H.toList.take (iR L * 1))[j]?=(strs L)[j]?:=by rw[R]
   rw[eK,aJ Aa]at C;have J:H[j]?=ni (x7 L[j]):=by
    simp[strs,P]at C;simpa using C
   rw[T G J];simp[encStr,P]
  have:=Any.slices_Sort_string Tryz.lays190 g 0 I (L.map λx=>x.data.toList) w p (N G) Ah;rw[bU]at this;apply this.mono;rintro e B⟨rfl,n,d,rfl⟩;refine⟨iP,⟨D.os,D.tape,D.output,?_,λk E=>?_⟩,⟨by simp[strs,Ll],n9 ⟨g,I,me encStr 0 ((L.map λx=>x.data.toList).mergeSort λx y=>decide (x<=y)).toArray H,iP,o,?_,S,t,?_,?_⟩⟩⟩
  ·have:=D.size;simp[Go.Sort.grow,Go.Sort.putRow,ft,Go.Sort.ahead];omega
  ·rw[←D.block k E]
   show((w.1.modify g _)++d)[k]?=_;rw[dJ HL,bS,aL Aa]
  ·show((w.1.modify g _)++d)[g]?=_;exact A5v
  ·simp[me,f]
  ·have b:(((L.map λx=>x.data.toList).mergeSort λx y=>decide (x<=y)).toArray).size=iR L:=by simp[eL]
   refine bK λj=>?_;rw[gI,eK];by_cases l:j<iR L
   ·have Y:j<H.size:=Aa;rw[aJ l];simp only[me,cN,tbk,aO Y,aI,aY,bE,true_and,b,l,bP,Nat.sub_zero];have h:j<((L.map λx=>x.data.toList).mergeSort λx y=>decide (x<=y)).length:=by simp[eL];exact l
    simp[strs,Pg,encStr,aG h]
   ·rw[aL l]
    symm
    rw[fS];simp[strs,Ll];omega
def Mo(c n:Int):Int:=(if c<0 then -(c+1) else c) % n
def O5(c){n}(z:0<n):0<=Mo c n/\Mo c n<n:=⟨Int.emod_nonneg _ Aa,Int.emod_lt_of_pos _ z⟩
def Sh(c:Int):Prop:=-9223372036854775808<=c/\c<=9223372036854775807
def Qv(w c n)(M:Sh c)(z:0<n)(p:n<=9223372036854775807):S prog 11 #[iL c,iL n] w λe B=>e=xr (iL (Mo c n))/\B=w:=by
 have ⟨C,J⟩:=M;go_enter func11,ntmps11;go_wp2
 ·have e:Int.tmod (-(c+1)) n=Mo c n:=by
   unfold Mo
   grind
  refine wj ?_ iP ⟨iP,iP⟩;simp[qe,results11,go_sem];rw[←e,Int.neg_tmod]
 ·refine wj ?_ iP ⟨iP,iP⟩;have e:c % n=Mo c n:=by
   unfold Mo;rw[aL Aa]
  simp[qe,results11,go_sem,e]
def NH(w:Z)(W)(cs:iB)(f:cs=(A5 W).toArray)(K:iR W<=1000):(w.alloc (jf cs 5)).ownsRow w.1.size 5 1 (um (ni (iJ w.1.size)) (iR W) (iR W)) (iR W) (A5 W):=by
 refine⟨by simp[A5],n9 ⟨Y w.1,iR W,cs,iP,aB _,sx _ _,aB _,Pc,by rw[f];simp[A5],by rw[f,gI];exact bN (by simp[A5])⟩⟩
def b4(n:Int):hU:=⟨(Orch.be n 4).toArray⟩
def M4(n):(b4 n).size=4:=by
 show(Orch.be n 4).toArray.size=4;rw[bC,Orch.be_length]
def Ip(n):(b4 n).data.toList=Orch.be n 4:=iP
def Hf(s:hU):hU:=b4 s.size++s
def Je(s):(Hf s).size=4+s.size:=by
 unfold Hf;rw[cB,M4]
def LY(w n)(z:Sh n):S prog 16 #[iL n] w λe B=>e=xr (x7 (b4 n))/\iM w B:=by
 obtain⟨C,J⟩:=z;obtain⟨P,Z⟩:∃P,w.alloc (jf #[pq zi (n / 16777216 % 256),pq zi (n / 65536 % 256),pq zi (n / 256 % 256),pq zi (n % 256)] 5)=P:=⟨_,iP⟩;have E:(convert 37 9 (um (ni (iJ w.1.size)) 4 4)).run prog P=.ok (x7 (b4 n)) P:=by
  apply Uq (base:=Y w.1) (b:=Orch.be n 4);rw[←Z];have:=NH w (Orch.be n 4) #[pq zi (n / 16777216 % 256),pq zi (n / 65536 % 256),pq zi (n / 256 % 256),pq zi (n % 256)] (by simp[A5,Orch.be];refine⟨?_,?_,?_,?_⟩<;>omega) Adu
  rwa[Orch.be_length]at this⊢
 have a:Hid (iM w P):=by rw[←Z];exact Be _ _
 go_enter func16,ntmps16;go_wp2;go_ret;exact⟨iP,a.out⟩
def EB(w)(s:hU)(b:s.size<=1000000):sf prog 30 #[x7 s] w λe B=>e=xr (x7 (Hf s))/\iM w B:=by
 have N:=M4 s.size;go_enter func30,ntmps30;go_wp2_with (go_at_call 16;apply(u (LY w s.size ⟨Aa,Aa⟩)).out.mono;rintro S H⟨rfl,D⟩;have a:=u D;clear D)
 all_goals first|(exfalso;omega)|skip
 go_ret;exact⟨iP,a.out⟩
def XU(w)(s:hU)(b:s.size<=1000000):sf prog 15 #[x7 s] w λe B=>e=xr (x7 (Hf s))/\iM w B:=by
 go_enter func15,ntmps15;go_wp2_with (go_at_call 30;apply(u (EB w s b)).out.mono;rintro S H⟨rfl,D⟩;have a:=u D;clear D);go_ret;exact⟨iP,a.out⟩
def RH(i:Int):Int:=i % 2147483648
def Adg(w i)(F:0<=i)(C:i<=9223372036854775807):S prog 25 #[iL i] w λe B=>e=xr (iL (RH i))/\B=w:=by
 go_enter func25,ntmps25;go_wp2;go_ret;exact⟨iP,iP⟩
def smB(n:Int):hU:=⟨#[yr (97+Mo n 20).toNat]⟩
def Aad(w n)(z:Sh n):sf prog 41 #[iL n] w λe B=>e=xr (x7 (smB n))/\iM w B:=by
 have R:=u (Qv w n 20 z Ae Ae);obtain⟨N,m⟩:=O5 n (n:=20) Ae;unfold smB;generalize Mo n 20=p at R N m⊢;obtain⟨P,Z⟩:∃P,w.alloc (jf #[pq zi (97+p)] 5)=P:=⟨_,iP⟩;have E:(convert 37 9 (um (ni (iJ w.1.size)) 1 1)).run prog P=.ok (x7 ⟨#[yr (97+p).toNat]⟩) P:=by
  apply Uq (base:=Y w.1) (b:=[yr (97+p).toNat]);rw[←Z];exact NH w [yr (97+p).toNat] #[pq zi (97+p)] (by
   simp[A5];omega) Ad
 have b:Hid (iM w P):=by rw[←Z];exact Be _ _
 go_enter func41,ntmps41;go_wp2_with (go_at_call 11;apply R.out.mono;rintro S H⟨rfl,rfl⟩);go_ret;exact⟨iP,b.out⟩
def MU(u):S prog 6 #[] u λe B=>e=xr (my #[w9 (ni ⟨Y u.1+1,0,su⟩),w9 (ni ⟨Y u.1+2,0,su⟩)])/\B=((u.alloc (jf #[um su 0 0,iL (-1)] 58)).alloc (jf #[iI u.1.size] 60)).alloc (jf #[iI u.1.size] 62):=by
 go_enter func6,ntmps6;go_wp2;exact wj (v:=my #[w9 (ni ⟨Y u.1+1,0,su⟩),w9 (ni ⟨Y u.1+2,0,su⟩)]) (by simp[qe,results6,go_sem]) iP ⟨iP,iP⟩
section
variable (w:Z) (D K:Nat) (y:w.cell? (iJ D)=ni (iI K)) (E:w.cell? (iJ K)=ni (um su 0 0)) (X:w.cell? (iK K 1)=ni (iL (-1)))
include E in
theorem Zm(s:hU):S prog 85 #[iI K,x7 s] w λe B=>e=xr (iL (-1))/\B=w:=by
 go_enter func85,ntmps85;go_wp2;apply wp_loop_rounds 1;rw[rounds_succ];go_wp2;go_ret;exact⟨iP,iP⟩
include y E in
theorem QK(s:hU):S prog 87 #[iI D,x7 s] w λe B=>e=xr (x7 iN)/\B=w:=by
 have r:=u (Zm w K E s);go_enter func87,ntmps87;exact Mdq
include y E in
theorem XF(s:hU):S prog 60 #[iI D,x7 s] w λe B=>e=xr (vp o9)/\B=w:=by
 have r:=u (Zm w K E s);go_enter func60,ntmps60;exact Mdq
include y X in
theorem CM:S prog 21 #[iI D] w λe B=>e=xr (vp o9)/\B=w:=by
 go_enter func21,ntmps21;go_wp2;go_ret;exact⟨iP,iP⟩
end
def Yl(w)(a:iE)(c):S prog 144 #[um a 0 c] w λe B=>e=xr (my #[um su 0 0,vp o9])/\B=w:=by
 go_enter func144,ntmps144;go_wp2;exact wj (by simp[qe,results144,go_sem]) iP ⟨iP,iP⟩
abbrev J1:Nd:=⟨⟨#[47]⟩,⟨#[]⟩,⟨#[]⟩,0,0,0⟩
def Amq(w g)(G:w.1[g]?=ni (jf J1.cs 87)):sf prog 89 #[iL 0,um (ni (iJ g)) 1 1] w λe B=>e=xr (w9 (ni ⟨iS w.1+1,0,su⟩))/\Cj B (iS w.1+1) w.1.size 0 [(⟨#[47]⟩,J1)]/\iM w B:=by
 obtain⟨b,Z⟩:∃b,w.alloc (.map #[] 0)=b:=⟨_,iP⟩;have M:(Instr.makeMap 106 su).run prog w=.ok (.map (ni w.1.size)) b:=by rw[←Z];simp[Instr.makeMap,runUnderlying92,go_sem]
 have l:iS b.1=iS w.1+1:=by rw[←Z];simp
 have n:Bl prog 9 b w.1.size []:=by rw[←Z];exact Bl.made w
 obtain⟨K,c⟩:∃K,b.alloc (jf #[iL 0,.map (ni w.1.size)] 108)=K:=⟨_,iP⟩;have i:iS K.1=iS w.1+2:=by rw[←c];simp;omega
 have s:∀k,k<iS b.1->K.1[k]?=b.1[k]?:=λk E=>by rw[←c];exact rm _ _ _ E
 have O:K.1[iS w.1+1]?=ni (jf #[iL 0,.map (ni w.1.size)] 108):=by rw[←c,←l];exact sx _ _
 have X:b.1[g]?=ni (jf J1.cs 87):=by rw[←Z];exact(rm _ _ _ (ltOf G)).trans G
 have o:K.1[g]?=ni (jf J1.cs 87):=(s g (ltOf X)).trans X;have ⟨N,Q,T,x3,x4,x5⟩:=My o iP;obtain⟨P,I⟩:∃P,K.alloc (jf #[x7 iN,x7 iN,x7 iN,iL 0,iL 0,iL 0] 87)=P:=⟨_,iP⟩;have R:P.1[iS K.1]?=ni (jf #[x7 iN,x7 iN,x7 iN,iL 0,iL 0,iL 0] 87):=Am;have q:∀k,k<iS K.1->P.1[k]?=K.1[k]?:=λk E=>by rw[←I];exact rm _ _ _ E
 have ⟨y,C,A,m,J,p⟩:=My R iP;have ⟨x,F,r,t,v,z,_⟩:=Iv R;obtain⟨a,S⟩:∃a,((((((P.setCell (iJ K.1.size) (x7 ⟨#[47]⟩)).setCell (iK K.1.size 1) (x7 iN)).setCell (iK K.1.size 2) (x7 iN)).setCell (iK K.1.size 3) (iL 0)).setCell (iK K.1.size 4) (iL 0)).setCell (iK K.1.size 5) (iL 0))=a:=⟨_,iP⟩;have D:B8 P a K.1.size J1.cs 87:=by rw[←S];exact(((((((B8.refl R).set 0 (x7 ⟨#[47]⟩)).set 1 (x7 iN)).set 2 (x7 iN)).set 3 (iL 0)).set 4 (iL 0)).set 5 (iL 0))
 have V:iS P.1=iS w.1+3:=by rw[←I];simp;omega
 have d:∀k,k<iS K.1->a.1[k]?=K.1[k]?:=λk E=>(D.grown.block k Aa Ajs).trans (q k E);have t4:a.1[iS w.1+1]?=ni (jf #[iL 0,.map (ni w.1.size)] 108):=(d _ Aa).trans O;have h:Bl prog 9 a.drew w.1.size []:=n.of_block ((d _ Aa).trans (s _ Aa));obtain⟨U,hu,j,W⟩:=h.put_new (val:=J1.val) IH underlying106 (key:=.string ⟨#[47]⟩) (kl:=.string [47]) Ab Ad;have Y:a.cell? ⟨iS w.1+1,1,su⟩=ni (.map (ni w.1.size))/\a.cell? (iJ K.1.size)=ni (x7 ⟨#[47]⟩)/\a.cell? (iK K.1.size 1)=ni (x7 iN)/\a.cell? (iK K.1.size 2)=ni (x7 iN)/\a.cell? (iK K.1.size 3)=ni (iL 0)/\a.cell? (iK K.1.size 4)=ni (iL 0)/\a.cell? (iK K.1.size 5)=ni (iL 0):=
  ⟨cellOf (j:=1) t4 iP,cellOf (j:=0) D.blk iP,cellOf (j:=1) D.blk iP,cellOf (j:=2) D.blk iP,cellOf (j:=3) D.blk iP,cellOf (j:=4) D.blk iP,cellOf (j:=5) D.blk iP⟩
 have f:U.1[iS w.1+1]?=ni (jf #[iL 0,.map (ni w.1.size)] 108):=(W.block _ (by show _<iS a.1;have:=D.grown.size;omega) Ajs).trans t4;have L:U.1[iS K.1]?=ni (jf J1.cs 87):=(W.block _ (ltOf D.blk) Ajs).trans D.blk;have u:U.cell? ⟨iS w.1+1,1,su⟩=ni (.map (ni w.1.size))/\U.cell? (iJ K.1.size)=ni (x7 ⟨#[47]⟩)/\U.cell? (iK K.1.size 1)=ni (x7 iN)/\U.cell? (iK K.1.size 2)=ni (x7 iN)/\U.cell? (iK K.1.size 3)=ni (iL 0)/\U.cell? (iK K.1.size 4)=ni (iL 0)/\U.cell? (iK K.1.size 5)=ni (iL 0):=
  ⟨cellOf (j:=1) f iP,cellOf (j:=0) L iP,cellOf (j:=1) L iP,cellOf (j:=2) L iP,cellOf (j:=3) L iP,cellOf (j:=4) L iP,cellOf (j:=5) L iP⟩
 have H:Hid (Cj U (iS w.1+1) w.1.size 0 [(⟨#[47]⟩,J1)]/\iM w U):=by
  refine⟨⟨f,j⟩,?_,?_,?_,?_,λk E=>?_⟩
  ·rw[W.os];show a.os=_;rw[D.grown.os,←I,←c,←Z];rfl
  ·rw[W.tape];show a.tape=_;rw[D.grown.tape,←I,←c,←Z];rfl
  ·rw[W.output];show a.output=_;rw[D.grown.output,←I,←c,←Z];rfl
  ·have h1:=W.size;have h2:=D.grown.size;have h3:a.drew.1.size=iS a.1:=iP;omega
  ·rw[W.block k (by show _<iS a.1;have:=D.grown.size;omega) Ajs]
   show a.1[k]?=_;rw[d k Aa,s k Aa,←Z];exact rm _ _ _ E
 clear j W h D n s q d t4 f L R X o O G;rw[i]at y x C F A r m t J v p z S Y u;clear V;go_enter func89,ntmps89;go_wp2;apply wp_loop_rounds 2;rw[rounds_succ];go_wp2;go_region_held3 (λB=>B.cell? ⟨iS w.1+1,1,su⟩=ni (.map (ni w.1.size))/\B.cell? ⟨iS w.1+2,0,su⟩=ni (x7 ⟨#[47]⟩)/\B.cell? ⟨iS w.1+2,1,su⟩=ni (x7 iN)/\B.cell? ⟨iS w.1+2,2,su⟩=ni (x7 iN)/\B.cell? ⟨iS w.1+2,3,su⟩=ni (iL 0)/\B.cell? ⟨iS w.1+2,4,su⟩=ni (iL 0)/\B.cell? ⟨iS w.1+2,5,su⟩=ni (iL 0)) (first|(go_keep;done)|exact Y|exact u) (fail);go_wp2;rw[rounds_succ];go_wp2;go_ret;exact⟨iP,H.out⟩
def Ahd(w):sf prog 88 #[] w λe B=>e=xr (w9 (ni ⟨Y w.1+2,0,su⟩))/\Cj B (Y w.1+2) (Y w.1+1) 0 [(⟨#[47]⟩,J1)]/\iM w B:=by
 obtain⟨P,Z⟩:∃P,w.alloc (jf #[x7 ⟨#[47]⟩,x7 iN,x7 iN,iL 0,iL 0,iL 0] 87)=P:=⟨_,iP⟩;have l:Y P.1=Y w.1+1:=by rw[←Z];simp
 have o:=Amq P w.1.size (by rw[←Z];exact sx _ _);have D:iM w P:=by rw[←Z];exact Be _ _
 rw[l]at o;have a:Hid (sf prog 89 #[iL 0,um (ni (iJ w.1.size)) 1 1] P λe B=>e=xr (w9 (ni ⟨Y w.1+2,0,su⟩))/\Cj B (Y w.1+2) (Y w.1+1) 0 [(⟨#[47]⟩,J1)]/\iM w B):=o.mono λe B⟨C,J,T⟩=>⟨C,J,D.trans (T.mono Aa)⟩;clear o D l;go_enter func88,ntmps88;go_wp2_with (go_at_call 89;apply a.out.mono;rintro S H⟨rfl,g⟩;have b:=u g;clear g);go_ret;exact⟨iP,b.out⟩
def E4(a b:Int):hU:=if a<0 then⟨#[47]⟩ else if b<0 then⟨#[47]⟩++smB (Mo a 4) else⟨#[47]⟩++smB (Mo a 4)++⟨#[47]⟩++smB (Mo b 3)
def Q6(n):(smB n).size=1:=iP
def Tu(a b):(E4 a b).size<=4:=by
 unfold E4;split
 ·decide
 ·split
  ·rw[cB,Q6];decide
  ·rw[cB,cB,cB,Q6,Q6];decide
def ZB(w a b)(f:Sh a)(D:Sh b):sf prog 31 #[iL a,iL b] w λe B=>e=xr (x7 (E4 a b))/\iM w B:=by
 have F:=O5 a (n:=4) Ae;have k:=O5 b (n:=3) Ae;refine E6q λA=>?_;have d:Hid (∀W n,Sh n->iM w W->sf prog 41 #[iL n] W λe B=>e=xr (x7 (smB n))/\Hid (iM w B)):=λW n z D=>(Aad W n z).mono λe B⟨C,J⟩=>⟨C,D.trans (J.mono D.size)⟩;have h:Hid (iM w w):=nq _ _;have V:=Q6 (Mo a 4);have U:=Q6 (Mo b 3);have g:Sh (Mo a 4):=⟨Aa,Aa⟩;have j:Sh (Mo b 3):=⟨Aa,Aa⟩;have S:a<0->E4 a b=⟨#[47]⟩:=λC=>by unfold E4;rw[aJ C]
 have L:¬a<0->b<0->E4 a b=⟨#[47]⟩++smB (Mo a 4):=λC J=>by unfold E4;rw[aL C,aJ J]
 have Y:¬a<0->¬b<0->E4 a b=⟨#[47]⟩++smB (Mo a 4)++⟨#[47]⟩++smB (Mo b 3):=λC J=>by unfold E4;rw[aL C,aL J]
 by_cases C:a<0
 ·rw[S C];clear S L Y;go_enter func31,ntmps31;go_wp2;go_ret;exact⟨iP,h.out⟩
 ·by_cases J:b<0
  ·rw[L C J];clear S L Y;go_enter func31,ntmps31;go_wp2_with (first|(go_at_call 11;apply(A.out _ _ _ HM Ae Ae).mono;rintro S H⟨rfl,rfl⟩)|(go_at_call 41;apply(d.out _ _ HM h.out).mono;clear h;rintro S H⟨rfl,h⟩))
   all_goals first|omega|skip
   all_goals go_ret
   all_goals exact⟨iP,h.out⟩
  ·rw[Y C J];clear S L Y;go_enter func31,ntmps31;go_wp2_with (first|(go_at_call 11;apply(A.out _ _ _ HM Ae Ae).mono;rintro S H⟨rfl,rfl⟩)|(go_at_call 41;apply(d.out _ _ HM h.out).mono;clear h;rintro S H⟨rfl,h⟩))
   all_goals first|(exfalso;rename_i i;simp only[cB,V,U]at i;revert i;decide)|skip
   all_goals go_ret
   all_goals exact⟨iP,h.out⟩
def Qa(s:hU):hU:=if 40<s.size then s.extract 0 40 else s
def DW(s):(Qa s).size<=40:=by
 unfold Qa;split
 ·rw[cM];omega
 ·omega
def XE(w)(s:hU)(a:s.size<=9223372036854775807):S prog 32 #[x7 s,iL 40] w λe B=>e=xr (x7 (Qa s))/\B=w:=by
 by_cases h:40<s.size
 ·have e:Qa s=s.extract 0 40:=aJ h;rw[e];go_enter func32,ntmps32;go_wp2;go_ret;exact⟨iP,iP⟩
 ·have e:Qa s=s:=aL h;rw[e];go_enter func32,ntmps32;go_wp2;go_ret;exact⟨iP,iP⟩
def Ud(v:Int):Int:=if 0<v then Mo v 3 else -1
def WA(v):-1<=Ud v/\Ud v<=2:=by
 have:=O5 v (n:=3) Ae;unfold Ud;split<;>omega
def Agl(kind mk:Int)(p d:hU)(v:Int):hU:=if kind=1 then b4 1++b4 mk++Hf p++Hf d else if kind=2 then b4 2++b4 mk++Hf p++b4 v else b4 3++b4 mk++Hf p++Hf d++b4 v
def Io.left_eq{w b r m}(h:Io w b r m R):w.rangeLeft b r=iR R:=by
 have ⟨X,a,c,d,c0,C,_,_,q,_,f,_⟩:=h.ex;unfold World.rangeLeft
 grind
def Qk(path:hU)(q:O×O):Option hU:=
 match q.1 with
 |x7 s=>if s≠⟨#[47]⟩/\Ec s=path then ni (Hw s) else su
 |_=>su
def kids(path:hU)(ns:List (hU×Nd)):List hU:=Pg ((ns.map Tf).filterMap (Qk path))
def YC{w h J t K}{L:gX}{T:hU}{m o}(O:h.ownsRow w.1.size 9 1 K (iR L) (strs L))(f:∀a,K.ownBlock=ni a->a≠Y w.1/\Y w.1<=a)(b:Io h t w.1.size m R)(D:iM w h)(z:t<Y w.1)(d:J.ownsRow w.1.size 9 1 U (iR L+1) (strs L++[x7 T]))(G:(h.alloc o).grownBy J K.ownBlock):Hid (J.ownsRow w.1.size 9 1 U (L++[T]).length (strs (L++[T]))/\Io J t w.1.size m R/\iM w J):=by
 have Q:Y w.1<Y h.1:=by
  have ⟨X,g,k,c,c0,_,_,_,V,_⟩:=b.ex
  grind
 refine⟨by simpa using d,b.keep ?_ ?_,(D.alloc D.size _).grown G Ah (λj l=>(f j l).2)⟩
 ·rw[G.block t Ah (λe=>Ai),rm _ _ _ Aa]
 ·rw[G.block w.1.size Ah (λe=>(f _ e.symm).1 iP),rm _ _ _ Q]
def P4(w tb t num r)(v:Cj w tb t num r)(a:hU)(b8:r.length<=1000)(ah:∀a7∈r,a7.1.size<=1000/\Eb a7.1=tu) :
  sf prog 167 #[iI tb,x7 a] w λE B=>(∃a8,E=xr a8/\B.ownsRow w.1.size 9 1 a8 (kids a r).length (strs (kids a r)))/\iM w B:=by
 have c1:=Vx (w:=w) 1 v.blk;obtain⟨ai,hr,y⟩:=v.map.rangeL (t:=106) underlying106;obtain⟨P,Z⟩:∃P,w.alloc ai=P:=⟨_,iP⟩;have aj:Hid (iM w P):=by rw[←Z];exact Be _ _
 rw[Z]at hr y;have HR:=hide y;have ak:=hide v.map.lt;clear y Z;obtain⟨i0,al,an,ao,aq⟩:=zu Tryz.info9b;go_enter func167,ntmps167;go_wp2;go_loopw [5,6] (λnm pp wr=>∃L l,Hid (L.length+l.length<=r.length/\(∀x∈l,x∈r.map Tf)/\(L++l.filterMap (Qk a)).Perm ((r.map Tf).filterMap (Qk a)))/\Hid (wr.ownsRow w.1.size 9 1 nm L.length (strs L)/\Io wr t w.1.size (r.map Tf) l/\iM w wr)) (λ_ _ wr=>wr.rangeLeft t w.1.size)
 case atStart=>exact⟨[],r.map Tf,⟨Ad,λx z=>z,gV _⟩,h7 _ _ _ _,HR.out,aj.out⟩
 case round=>
  obtain⟨L,l,c,d⟩:=hrel;obtain⟨na,n,N⟩:∃na n,u5=um na L.length n:=by
   exact Ikx
  subst N;rcases d.out.2.1.next (P:=prog) 0 with⟨F,ar⟩|⟨aa,b,Q,K,ar,D,H,au,b9⟩
  ·have av:(kids a r).length=L.length:=by
    have:=c.out.2.2.length_eq;rw[F]at this;simp only[fq,bW]at this;rw[kids,Ll,←this]
   have aw:Pg L=kids a r:=by
    have:=c.out.2.2;rw[F]at this;simp only[fq,bW]at this;exact TG this
   have Y:Hid (sf prog 195 #[um na L.length n] wr λE B=>E=xr (my #[])/\iM w B/\B.ownsRow w.1.size 9 1 (um na L.length n) (kids a r).length (strs (kids a r))):=by
    have:=Afd wr w.1.size (um na L.length n) L (by have:=c.out.1;omega) d.out.1 w d.out.2.2;rw[aw]at this
    rwa[av]
   go_wp2_with fail;apply Y.out.mono;rintro E w3⟨rfl,j⟩;have T:=hide j;clear j;go_wp2;go_ret;exact⟨⟨_,iP,T.out.2⟩,T.out.1⟩
  ·have ab:aa∈r.map Tf:=c.out.2.1 aa (Q.subset (cH ..));obtain⟨⟨p,J⟩,hq,rfl⟩:=aZ.1 ab;have s:p.size<=1000/\Eb p=tu:=ah _ hq;have C:=hide (d.out.2.2.grown H d.out.2.2.size (λba hj=>by cases hj;exact aB _));have M:=hide D;have ax:l.length=b.length+1:=by rw[←Q.length_eq];rfl
   have HP:Hid (∀W,sf prog 180 #[x7 p] W λE B=>E=xr (x7 (Ec p))/\B=W):=λW=>Tt W p (by have:=s.1;omega) s.2;have HN:Hid (∀W,sf prog 194 #[x7 p] W λE B=>E=xr (x7 (Hw p))/\B=W):=λW=>MF W p s.1 s.2;have A:Hid (b.length<wr.rangeLeft t w.1.size/\L.length+1+b.length<=r.length/\K.rangeLeft t w.1.size=b.length):=⟨by rw[(hide d.out.2.1.left_eq).out];omega,by have:=c.out.1;omega,D.left_eq⟩;have O:Hid (∀x∈b,x∈r.map Tf):=λx z=>c.out.2.1 x (Q.subset (cF _ z));have U:=hide (((gV L).append (Q.filterMap (Qk a))).trans c.out.2.2);have G:Hid (∀R,(um na L.length n).ownBlock=ni R->R≠w.1.size/\w.1.size<=R):=λR i=>by
    exact Fwo
   have q:Hid (K.ownsRow w.1.size 9 1 (um na L.length n) L.length (strs L)):=by
    refine⟨d.out.1.1,?_⟩;rcases d.out.1.2 with⟨E,F⟩|⟨g,I,e,E,o,S,a6⟩
    ·exact p8 ⟨E,F⟩
    ·have:=G.out g (by rw[E];simp[yf]);exact n9 ⟨g,I,e,E,o,(H.block g (ltOf S) (λk=>this.1 (by injection k))).trans S,a6⟩
   have ad:Hid (L.length+1<=1000):=by have:=c.out.1;exact(by omega:L.length+1<=1000)
   clear D H Q hq au ax ab;by_cases h:p=⟨#[47]⟩
   ·have f:Qk a (Tf (p,J))=su:=by simp[Qk,Tf,h]
    have m:Hid ((L++b.filterMap (Qk a)).Perm ((r.map Tf).filterMap (Qk a))):=by
     have:=U.out
     rwa[yh f]at this
    subst h;go_wp2_with fail;exact Vqg
   ·have X:(p.toList == [47])=o9:=by rw[Gi];exact decide_eq_false h
    by_cases V:Ec p=a
    ·have f:Qk a (Tf (p,J))=ni (Hw p):=by simp[Qk,Tf,h,V]
     have m:Hid (((L ++ [Hw p])++b.filterMap (Qk a)).Perm ((r.map Tf).filterMap (Qk a))):=by
      have:=U.out;rw[fY f]at this
      rwa[bY]
     have b6:((Ec p).toList == a.toList)=tu:=by rw[V];simp
     clear f;go_wp2_with (first
      | (go_at_call 180;apply(HP.out _).mono;rintro E u⟨rfl,rfl⟩)
      | (go_at_call 194;apply(HN.out _).mono;rintro E u⟨rfl,rfl⟩)
      | (at_builtin;apply wpList_append_own_at _ iP _ _ 236 iP w.1.size 9 i0 _ 1 16 underlying236 al an ao aq iP Ae (.slice na L.length n) L.length (strs L) iP (q.out.alloc _) (iJ u.1.size) 1 1 [x7 (Hw p)] iP iP (k8 (sx u _)) (by intro bb hu;simp at hu;subst hu;rfl) (by unfold maxLen;have:=ad.out;omega) (by have:=ad.out;omega) Aa5;intro v' w6 ae af _ b7;have HE:=hide (YC q.out G.out M.out C.out ak.out ae af);clear ae af b7))
     exact⟨⟨L ++ [Hw p],b,⟨by have:=A.out.2.1;simp;omega,O.out,m.out⟩,HE.out⟩,by rw[HE.out.2.1.left_eq];exact A.out.1⟩
    ·have f:Qk a (Tf (p,J))=su:=by simp[Qk,Tf,V]
     have m:Hid ((L++b.filterMap (Qk a)).Perm ((r.map Tf).filterMap (Qk a))):=by
      have:=U.out
      rwa[yh f]at this
     have b6:((Ec p).toList == a.toList)=o9:=by
      rw[Gi];refine decide_eq_false λE=>V ?_;rw[E,gj]
     clear f;go_wp2_with (go_at_call 180;apply(HP.out _).mono;rintro E u⟨rfl,rfl⟩);exact Vqg
def RD:hU:=⟨#[108,111,103]⟩
def Aem(left:Int)(L:List Fl)(data:hU)(b:Bool)(left':Int)(L':List Fl):Prop:=
 (left=0/\b=o9/\left'=0/\L'=L)∨(left≠0/\∃L1,PX L RD data L1/\((dec left=0/\b=o9/\left'=0/\L'=L1)∨(dec left≠0/\b=tu/\left'=dec (dec left)/\VT L1 RD L')))
def AU(kind last:Int)(p d n:hU):hU:=⟨(Orch.be (Oc kind last p d n).length 4++Oc kind last p d n).toArray⟩
def QJ{a}(h:-1<=a):-1<=dec a/\dec a<=a:=by unfold dec;split<;>omega
def St.kx{b w K a L v}(h:St b rt w K a L v s){X}(k:Ax w B X)(C:¬X K)(J:∀g,Fx v=ni g->¬X g):St b rt B K a L v s:=
 ⟨(k.block _ (N h.blk) C).trans h.blk,Wu h.row λg cs G M=>k.block g (N M) (J g ((Xx v _ _).symm.trans G))⟩
section
variable {z:gZ}
def Aen(w D g kind p d n v)(a:hQ)(X:Hid (∀W,iM w W->sf prog 188 #[iL g,Mx kind p d n v] W λe B=>(∃t,e=xr (my #[t,vp tu])/\B.ownsRow W.1.size 5 1 t (iR a) (A5 a))/\iM W B))(P b2)(l:Z->Z->Prop)(f:Z->Z->Z->Prop)(q:Hid (∀W,iM w W->sf prog 55 #[iI D,x7 ⟨#[108,111,103]⟩,x7 ⟨a.toArray⟩] W λe B=>e=xr (vp P)/\l W B/\∀i,iS w.1<=i->i<iS W.1->B.1[i]?=W.1[i]?))(r:Hid (∀W H,iM w W->l W H->sf prog 56 #[iI D,x7 ⟨#[108,111,103]⟩] H λe B=>e=xr (vp b2)/\f W H B)):sf prog 160 #[h9 #[iI D],iL g,Mx kind p d n v] w λe B=>∃W,iM w W/\((P=o9/\e=xr (vp o9)/\l W B)∨(P=tu/\e=xr (vp b2)/\∃H,l W H/\f W H B)):=by
 have I:=hid (Sc w (jf #[iI D] 89) (jf (Dx kind p d n v) 152));obtain⟨b,c⟩:∃b,(w.alloc (jf #[iI D] 89)).alloc (jf (Dx kind p d n v) 152)=b:=⟨_,iP⟩;have S:=sx (w.alloc (jf #[iI D] 89)) (jf (Dx kind p d n v) 152);have o:b.1[iS w.1]?=ni (jf #[iI D] 89):=by
  rw[←c];exact((Be (w.alloc (jf #[iI D] 89)) (jf (Dx kind p d n v) 152)).block _ Ad).trans (sx _ _)
 rw[c]at I S;have S:b.1[iS w.1+1]?=ni (jf (Dx kind p d n v) 152):=by simpa using S
 have ⟨c0,Q,R,U,u⟩:=Wd S iP;have h:=hid o;clear S o;cases P
 all_goals
  go_enter func160,ntmps160;go_wp2_with (first
   |(go_at_call 188;apply(X.out _ I.out).mono;rintro e H⟨⟨t,rfl,j⟩,M⟩;have y:=Uq j;have O:=hide (I.out.trans (M.mono I.out.size));have k:=hid ((M.block _ (N h.out)).trans h.out);have z:H.cell? (iJ w.1.size)=ni (iI D):=T (j:=0) k.out iP;clear M j)
   |(go_at_call 55;apply(q.out _ O.out).mono;rintro e E⟨rfl,Y,s⟩;have m:=hide Y;have C:E.cell? (iJ w.1.size)=ni (iI D):=T (j:=0) ((s _ (aB _) (N k.out)).trans k.out) iP;clear Y s)
   |(go_at_call 56;apply(r.out _ _ O.out m.out).mono;rintro e L⟨rfl,Y⟩;have x:=hide Y;clear Y))
  go_ret
 ·exact⟨_,O.out,p8 ⟨by first|rfl|trivial,by first|rfl|trivial,m.out⟩⟩
 ·exact⟨_,O.out,n9 ⟨by first|rfl|trivial,by first|rfl|trivial,_,m.out,x.out⟩⟩
def ZJ(U:Im z F)(w)(V:F w)(I:∀W,iM w W->Table W)(D K l L v s)(m:w.1[D]?=ni (jf #[iI K] 60))(h:St 58 100 w K l L v s)(q:-1<=l)(P:l<=9223372036854775807)(ah:iR L<=1000000)(Q:∀f,f∈L->f.d.size<=1000000000000)(A kind)(p d n:hU)(c)(X:-2147483648<=kind)(T:kind<=2147483647)(Y:-9223372036854775808<=A)(a1:A<=9223372036854775807)(a6:p.size<=200)(a7:z p=tu)(a8:d.size<=200)(hn:n.size<=200)(ao:z n=tu):sf prog 160 #[h9 #[iI D],iL A,Mx kind p d n c] w λe a=>∃u y E,e=xr (vp u)/\Aem l L (AU kind A p d n) u y E/\Dgo 58 100 w a K y v E:=by
 have ai:=AR kind A p d n;have an:(AU kind A p d n).size<=1000000:=by
  show(Orch.be (Oc kind A p d n).length 4++Oc kind A p d n).toArray.size<=_;simp[Orch.be_length];omega
 have am:K≠D:=λe=>by
  subst e;rw[h.blk]at m;cases m
 have ar:=ltOf h.blk;have aj:∀W,iM w W->sf prog 55 #[iI D,x7 ⟨#[108,111,103]⟩,x7 (AU kind A p d n)] W λe a=>e=xr (vp (decide (l≠0)))/\(∃t O Z,St 58 100 a K (dec l) t O Z/\Ug W a K (Fx v) (Fx O)/\((l=0/\t=L)∨(l≠0/\PX L RD (AU kind A p d n) t)))/\∀i,iS w.1<=i->i<iS W.1->a.1[i]?=W.1[i]?:=λW k=>by
  apply(NJ W D K l L v s ⟨#[108,111,103]⟩ (AU kind A p d n) ((k.block _ (ltOf m)).trans m) (h.below k) q P Aa (λf aa=>by have:=Q f aa;omega) Aa).mono;rintro e a⟨rfl,t,⟨O,Z,r,M⟩,S⟩;exact⟨iP,⟨t,O,Z,r,M,S⟩,λi C J=>M.same i J Aa λe=>by have:=(λab ad=>(h.row.lt ab ((Xx v _ _).trans ad)).2) i e;omega⟩
 have ag:∀t,PX L RD (AU kind A p d n) t->iR t<=1000001:=by
  rintro t(⟨_,rfl⟩|⟨i,f,_,_,rfl⟩)
  ·simp;omega
  ·simp;omega
 have ae:=QJ q;have ak:∀W H,iM w W->(∃t O Z,St 58 100 H K (dec l) t O Z/\Ug W H K (Fx v) (Fx O)/\((l=0/\t=L)∨(l≠0/\PX L RD (AU kind A p d n) t)))->sf prog 56 #[iI D,x7 ⟨#[108,111,103]⟩] H λe a=>e=xr (vp (decide (dec l≠0)))/\∃t N j B,St 58 100 a K (dec (dec l)) N j B/\Ug W a K (Fx v) (Fx j)/\((l=0/\t=L)∨(l≠0/\PX L RD (AU kind A p d n) t))/\((dec l=0/\N=t)∨(dec l≠0/\VT t RD N)):=by
  rintro W H k⟨t,O,Z,r,M,S⟩;have al:H.1[D]?=ni (jf #[iI K] 60):=(M.same D (aC (ltOf m) k.size) (dN am) (λe=>by
   obtain⟨cs,G⟩:=Ii h.row ((Xx v _ _).trans e);rw[m]at G;cases G)).trans ((k.block _ (ltOf m)).trans m)
  apply(ZE H D K (dec l) t O Z ⟨#[108,111,103]⟩ al r ae.1 Aa (by rcases S with⟨_,rfl⟩|⟨_,h⟩;omega;have:=ag _ h;omega)).mono;rintro e a⟨rfl,N,⟨j,B,g,R⟩,x⟩;exact⟨iP,t,N,j,B,g,M.trans R,S,x⟩
 apply(Aen w D A kind p d n c _ (λW k=>CR U W (U.kept (U.size V) k V) (λW' af=>I W' (k.trans (af.mono k.size))) A kind p d n c X T Y a1 a6 a7 a8 hn ao) _ _ _ _ aj ak).mono;rintro e a⟨W,k,⟨o,rfl,t,O,Z,r,M,S⟩|⟨o,rfl,H,-,t,N,j,B,g,R,S,x⟩⟩
 ·have b:l=0:=by simpa using o
  refine⟨o9,dec l,t,iP,p8 ⟨b,iP,by simp[b,dec],?_⟩,O,Z,r,(Ug.below k).trans M⟩;rcases S with⟨_,h⟩|⟨h,_⟩
  ·exact h
  ·exact absurd b h
 ·have b:l≠0:=by simpa using o
  rcases S with⟨h,_⟩|⟨_,ha⟩
  ·exact absurd h b
  refine⟨decide (dec l≠0),dec (dec l),N,iP,n9 ⟨b,t,ha,?_⟩,j,B,g,(Ug.below k).trans R⟩;rcases x with⟨C,J⟩|⟨C,J⟩
  ·exact p8 ⟨C,by simp[C],by rw[C];rfl,J⟩
  ·exact n9 ⟨C,by simp[C],iP,J⟩
end
def Vb(v xv:Int):Bool:=v == -1||v==xv
def Qj(w)(i s u:hU)(T N V v):S prog 186 #[h9 #[x7 i,x7 s,x7 u,iL T,iL N,iL V],iL v] w λe B=>e=xr (vp (Vb v V))/\iM w B:=by
 by_cases h:v = -1
 ·subst h;go_enter func186,ntmps186;go_wp2;go_ret;exact⟨iP,Be _ _⟩
 ·go_enter func186,ntmps186;go_wp2;go_ret;exact⟨iP,Be _ _⟩
def Xl(w a kind)(p d n:hU)(v)(i s u:hU)(T N V b)(Q:b=0∨b=10)(y:¬(40:Int)<(d.size:Int))(r:Hid (∀W,iM w W->S prog 163 #[iI a,x7 p] W λf B=>f=xr (my #[h9 #[x7 i,x7 s,x7 u,iL T,iL N,iL V],iL b])/\iM W B)):S prog 150 #[iI a,Mx kind p d n v] w λf B=>f=xr (iL (if b=0 then(if Vb v V then 0 else 14) else 10))/\iM w B:=by
 have R:Hid (∀W,S prog 186 #[h9 #[x7 i,x7 s,x7 u,iL T,iL N,iL V],iL v] W λf B=>f=xr (vp (Vb v V))/\iM W B):=λW=>Qj W i s u T N V v;refine P2l λU=>?_;cases Y:Vb v V
 all_goals rw[Y]at R
 all_goals rcases Q with rfl|rfl
 all_goals (
  go_enter func150,ntmps150;go_wp2_with (first
   |(go_at_call 163;apply(r.out _ (Be _ _)).mono;rintro f H⟨rfl,M⟩;have O:=hide ((Be _ _).trans (M.mono Ad));have Z:=hide ((M.block _ (ltOf U.out)).trans U.out);obtain⟨K,I⟩:∃K,H.alloc (jf #[x7 i,x7 s,x7 u,iL T,iL N,iL V] 87)=K:=⟨_,iP⟩;have h:Hid (K.1[iS w.1]?=ni (jf #[iL kind,x7 p,x7 d,x7 n,iL v] 152)):=Al;have J:Hid (K.1[iS H.1]?=ni (jf #[x7 i,x7 s,x7 u,iL T,iL N,iL V] 87)):=Am;have C:Hid (iM w K):=An;have ⟨_,_,c,_,g⟩:=Wd h.out iP;have ⟨x,P,j,q,l,o⟩:=My J.out iP;clear M)
   |(go_at_call 186;apply(R.out _).mono;rintro f L⟨rfl,F⟩;have k:=hide (C.out.trans (F.mono C.out.size));clear F)))
 all_goals go_ret
 all_goals first|exact⟨iP,k.out⟩|exact⟨iP,C.out⟩
section
attribute [local go_sem ↓] Go.wp_at_zero Go.wp_at_succ
def Zi(w tb kind)(p d n:hU)(v)(i s u:hU)(T N V)(hd:¬(40:Int)<(d.size:Int))(hn:¬(10:Int)<(n.size:Int))(z)(Q:w.cell? (iK tb 1)=ni (.map (ni z)))(D:tb<iS w.1)(F:hU)(g j Y:hU)(m W e ok)(q:Nat)(r:Hid (∀b,iM w b->sf prog 163 #[iI tb,x7 p] b λf B=>f=xr (my #[h9 #[x7 i,x7 s,x7 u,iL T,iL N,iL V],iL 10])/\iM b B))(G:Hid (∀b,sf prog 180 #[x7 p] b λf B=>f=xr (x7 F)/\B=b))(L:Hid (∀b,iM w b->(Instr.lookup 106 (.map (ni z)) (x7 F) tu).run prog b=.ok (my #[h9 #[x7 g,x7 j,x7 Y,iL m,iL W,iL e],vp ok]) b/\(Builtin.len_ #[106] 3 #[.map (ni z)]).run prog b=.ok (iL q) b)):sf prog 148 #[iI tb,Mx kind p d n v] w λf B=>f=xr (iL (if ok then(if q<32 then 0 else 12) else 10))/\iM w B:=by
 have k:(∃X:Int,X=(if ok then(if q<32 then 0 else 12) else 10)):=⟨_,iP⟩;obtain⟨cd,k⟩:=k;rw[←k];have a1:=hide k;clear k;have ao:((32:Int)<=(q:Int))∨¬((32:Int)<=(q:Int)):=Classical.em _;refine P2l λU=>?_;go_enter func148,ntmps148;go_wp2_with (go_at_call 163;refine(r.out _ (Be _ _)).mono ?_;rintro f H⟨rfl,M⟩;have O:=hide ((Be _ _).trans (M.mono Ad));have Z:=hide ((M.block _ (ltOf U.out)).trans U.out);obtain⟨K,I⟩:∃K,H.alloc (jf #[x7 i,x7 s,x7 u,iL T,iL N,iL V] 87)=K:=⟨_,iP⟩;have h:Hid (K.1[iS w.1]?=ni (jf #[iL kind,x7 p,x7 d,x7 n,iL v] 152)):=Al;have J:Hid (K.1[iS H.1]?=ni (jf #[x7 i,x7 s,x7 u,iL T,iL N,iL V] 87)):=Am;have C:Hid (iM w K):=An;have ⟨_,c,l,x,y⟩:=Wd h.out iP;have A:=(C.out.cell (p:=(iK tb 1)) D).trans Q;have l0:=(L.out K C.out).1;have l1:=(L.out K.drew C.out.drew).1;have l2:=(L.out K.drew.drew C.out.drew.drew).1;have l3:=(L.out K.drew.drew.drew C.out.drew.drew.drew).1;obtain⟨P,t⟩:∃P,K.alloc (jf #[x7 iN,x7 iN,x7 iN,iL 0,iL 0,iL 0] 87)=P:=⟨_,iP⟩;have R:Hid (P.1[iS K.1]?=ni (jf #[x7 iN,x7 iN,x7 iN,iL 0,iL 0,iL 0] 87)):=(by rw[←t];exact sx _ _);have o:Hid (iM w P):=(by rw[←t];exact C.out.alloc C.out.size _);have a6:Hid (P.1[iS w.1]?=ni (jf #[iL kind,x7 p,x7 d,x7 n,iL v] 152)):=(by rw[←t];exact(rm _ _ _ (ltOf h.out)).trans h.out);have a7:P.cell? (iK w.1.size 1)=ni (x7 p):=cellOf a6.out iP;have t3:=(o.out.cell (p:=(iK tb 1)) D).trans Q;have ⟨a8,aa,ab,ad,ae,af⟩:=My R.out iP;have ⟨ah,ai,aj,ak,al,an,_⟩:=Iv R.out;have z0:=(L.out P o.out).1;have z1:=(L.out P.drew o.out.drew).1;have z2:=(L.out P.drew.drew o.out.drew.drew).1;have z3:=(L.out P.drew.drew.drew o.out.drew.drew.drew).1;obtain⟨a,S⟩:∃a,((((((P.setCell (iJ K.1.size) (x7 g)).setCell (iK K.1.size 1) (x7 j)).setCell (iK K.1.size 2) (x7 Y)).setCell (iK K.1.size 3) (iL m)).setCell (iK K.1.size 4) (iL W)).setCell (iK K.1.size 5) (iL e))=a:=⟨_,iP⟩;have T4:Hid (B8 P a K.1.size _ 87):=(by rw[←S];exact(((((((B8.refl R.out).set 0 (x7 g)).set 1 (x7 j)).set 2 (x7 Y)).set 3 (iL m)).set 4 (iL W)).set 5 (iL e)));have E:=hide (o.out.grown T4.out.grown o.out.size (λaq hj=>by cases hj;exact C.out.size));have t4:=(E.out.cell (p:=(iK tb 1)) D).trans Q;have y0:=(L.out a E.out).2;have y1:=(L.out a.drew E.out.drew).2;have y2:=(L.out a.drew.drew E.out.drew.drew).2;have y3:=(L.out a.drew.drew.drew E.out.drew.drew.drew).2;clear M);go_region_law (go_simp;refine(G.out _).mono ?_;rintro f B⟨rfl,rfl⟩)
 all_goals (clear l0 l1 l2 l3 z0 z1 z2 z3 a8 aa ab ad ae af ah ai aj ak al an a7 t3 c l x y A I t S;go_wp2)
 all_goals go_ret
 all_goals (have k:=a1.out;first
  |(refine⟨?_,by first|exact E.out|exact E.out.drew|exact E.out.drew.drew|exact E.out.drew.drew.drew⟩;rw[k];simp_all;(first|done|omega))
  |(refine⟨?_,by first|exact E.out|exact E.out.drew|exact E.out.drew.drew|exact E.out.drew.drew.drew⟩;rw[k];congr 2;repeat' split<;>first|rfl|omega|simp_all|(exfalso;omega)))
end
def P3(w G kind)(p d n:hU)(v)(i s u:hU)(T N V b)(Q:b=0∨b=10)(B:p≠⟨#[47]⟩)(j)(g:Hid (∀W,iM w W->sf prog 167 #[iI G,x7 p] W λf a=>(∃c e,f=xr (um c j e))/\iM W a))(r:Hid (∀W,iM w W->sf prog 163 #[iI G,x7 p] W λf a=>f=xr (my #[h9 #[x7 i,x7 s,x7 u,iL T,iL N,iL V],iL b])/\iM W a)):sf prog 149 #[iI G,Mx kind p d n v] w λf a=>f=xr (iL (if b=0 then(if Vb v V then(if j=0 then 0 else 15) else 14) else 10))/\iM w a:=by
 have R:Hid (∀W,sf prog 186 #[h9 #[x7 i,x7 s,x7 u,iL T,iL N,iL V],iL v] W λf a=>f=xr (vp (Vb v V))/\iM W a):=λW=>Qj W i s u T N V v;have X:(p.toList==[47])=o9:=by rw[Gi];exact decide_eq_false B
 refine P2l λU=>?_;obtain⟨y,t⟩:∃y,decide ((0:Int)<(j:Int))=y:=⟨_,iP⟩;have z:(j=0)=(y=o9):=by rw[←t];simp
 simp only[z];cases A:Vb v V
 all_goals rw[A]at R
 all_goals rcases Q with rfl|rfl
 all_goals cases y
 all_goals simp only[decide_eq_true_eq,decide_eq_false_iff_not]at t
 all_goals (
  go_enter func149,ntmps149;go_wp2_with (first
   |(go_at_call 163;apply(r.out _ (Be _ _)).mono;rintro f H⟨rfl,M⟩;have O:=hide ((Be _ _).trans (M.mono Ad));have Z:=hide ((M.block _ (ltOf U.out)).trans U.out);obtain⟨K,I⟩:∃K,H.alloc (jf #[x7 i,x7 s,x7 u,iL T,iL N,iL V] 87)=K:=⟨_,iP⟩;have h:Hid (K.1[iS w.1]?=ni (jf #[iL kind,x7 p,x7 d,x7 n,iL v] 152)):=Al;have J:Hid (K.1[iS H.1]?=ni (jf #[x7 i,x7 s,x7 u,iL T,iL N,iL V] 87)):=Am;have C:Hid (iM w K):=An;have ⟨_,m,_,_,q⟩:=Wd h.out iP;have ⟨x,P,b2,S,b4,o⟩:=My J.out iP;clear M)
   |(go_at_call 186;apply(R.out _).mono;rintro f L⟨rfl,F⟩;have k:=hide (C.out.trans (F.mono C.out.size));have Y:=hide ((F.block _ (ltOf h.out)).trans h.out);have D:L.cell? (iK w.1.size 1)=ni (x7 p):=cellOf Y.out iP;clear F)
   |(go_at_call 167;apply(g.out _ k.out).mono;rintro f a1⟨⟨c,e,rfl⟩,l⟩;have E:=hide (k.out.trans (l.mono k.out.size));clear l)))
 all_goals go_ret
 all_goals first|exact⟨iP,E.out⟩|exact⟨iP,k.out⟩|exact⟨iP,C.out⟩
end Go.Proofs.YtcbilgmfdgpomaaGreatDoor
namespace Go.Proofs.YtcbilgmfdgpomaaGreatDoor
variable {P:Program}{r:List (hU×Nd)}{x:Nd}
open Go.RowKit
def DK(L:gX):List O:=L.flatMap λs=>[iL 0,x7 s,um su 0 0]
def OX(L)(s:hU):DK (L++[s])=DK L++[iL 0,x7 s,um su 0 0]:=by simp[DK]
def TV(L):(L.map λs=>(Orch.txt s,um su 0 0)).flatMap Eo=DK L:=by
 simp only[DK,List.flatMap_map]
 rfl
def Aiv{w a d}{L:gX}(h:w.ownsRow a 183 3 d (iR L) (DK L)):D9 w (λb=>b<Y w.1) (L.map Orch.txt) d:=by
 obtain⟨F,⟨rfl,C⟩|⟨g,I,H,rfl,o,G,M,f,i,R⟩⟩:=h
 ·have:=fG C;subst this;exact .nil su 0
 ·by_cases c:L = []
  ·subst c;exact .nil _ _
  ·have:=D9.row (S:=λb=>b<Y w.1) (L.map λs=>(Orch.txt s,um su 0 0)) g I (by simpa using c) (by simpa using M) (N G) (λj u l=>by
    rw[TV]at l;have e:=(aD.1 l).1;rw[F]at e;have S:(H.toList.take (iR L * 3))[j]?=ni u:=by rwa[R]
    rw[dE e,cN]at S;exact T G S) (λp Q=>by
    obtain⟨s,_,rfl⟩:=aZ.1 Q;exact .nil su 0)
   simpa[cY,dW] using this
def YM{w wr b o}(S:wr.1[Y w.1]?=ni (jf #[iL 0,x7 iN,b] 183))(f:∀R,b.ownBlock=ni R->Y w.1+1<=R)(D:iM w wr)(G:(wr.alloc o).grownBy H b.ownBlock):H.1[Y w.1]?=ni (jf #[iL 0,x7 iN,b] 183)/\iM w H:=by
 have K:=N S;refine⟨?_,(D.alloc D.size _).grown G Ah (λj l=>by have:=f j l;omega)⟩
 rwa[G.block _ Ah (λe=>Ai),rm _ _ _ K]
def Adj(w)(na:iE)(P)(L:gX)(hL:iR L<=1000)(u:∀j (T:j<iR L),∃g o,na=ni (iK g o)/\g<iS w.1/\w.cell? ⟨g,o+j,su⟩=ni (x7 L[j])):sf prog 170 #[um na (iR L) P] w λE r=>(∃y,E=xr y/\D9 r (λb=>b<iS r.1) [.mk 0 iN (L.map Orch.txt)] y)/\iM w r:=by
 obtain⟨a,Z⟩:∃a,w.alloc (jf #[iL 0,x7 iN,um su 0 0] 183)=a:=⟨_,iP⟩;have X:Hid (a.1[iS w.1]?=ni (jf #[iL 0,x7 iN,um su 0 0] 183)):=by rw[←Z];exact sx _ _
 have O:Hid (iM w a):=by rw[←Z];exact Be _ _
 have v:=hide u;clear u;obtain⟨V,W,Y,a1,a6⟩:=zu Tryz.info183;go_enter func170,ntmps170;go_wp2;go_loopw [5,8] (λ_ n wr=>∃j y,j<=iR L/\n=iL j/\Hid (wr.1[iS w.1]?=ni (jf #[iL 0,x7 iN,y] 183)/\wr.ownsRow (iS w.1+1) 183 3 y j (DK (L.take j))/\iM w wr)) (λ_ n _=>iR L - (intOf n).toNat)
 case atStart=>exact⟨0,um su 0 0,bE _,iP,X.out,h7 _ _ _ _,O.out⟩
 case round=>
  obtain⟨j,y,T,rfl,d⟩:=hrel;have ⟨b0,b1,b2⟩:=Jn d.out.1 iP;by_cases Ig:j=iR L
  ·subst Ig;have z:=d.out.2.1;rw[fJ]at z;have H:=hide (Aiv z);have a7:=hide (Nu wr [(.mk 0 iN (L.map Orch.txt),y)] (λb=>b<(wr.alloc (jf #[iL 0,x7 iN,y] 183)).1.size) Ad #[iL 0,x7 iN,y] Aq 183 1 iP _ iP Ad (by
    intro p f;simp at f;subst f;exact H.out.congr (λb l=>Ah) (λb l=>rm _ _ _ l)))
   go_wp2;go_ret;exact⟨⟨_,iP,a7.out⟩,d.out.2.2.alloc d.out.2.2.size _⟩
  ·obtain⟨g,o,N,a8,s⟩:=v.out j Aa;have e0:wr.cell? ⟨g,o+j,su⟩=ni (x7 L[j]):=(d.out.2.2.cell (p:=⟨g,o+j,su⟩) a8).trans s;have aj:(j:Int)<(iR L:Int):=Aa;obtain⟨Q,q,aa⟩:∃Q q,y=um Q j q:=by
    rcases d.out.2.1.2 with⟨E,F⟩|⟨g,I,e,E,_⟩
    ·exact⟨su,0,by rw[E,F]⟩
    ·exact⟨_,_,E⟩
   subst N aa;have A:L.take (j+1)=L.take j++[L[j]]:=by rw[dM]
   have ab:Hid (∀R,(um Q j q).ownBlock=ni R->iS w.1+1<=R):=λR i=>by
    rcases d.out.2.1.2 with⟨E,F⟩|⟨g,I,e,E,S,_⟩
    ·rw[E]at i;simp[yf]at i
    ·rw[E]at i;simp[yf]at i;omega
   have bj:=hide A;obtain⟨t,C⟩:∃t,L[j]=t:=⟨_,iP⟩;rw[C]at e0 bj;have f2:=Fk1 (w:=wr) 2 d.out.1;clear s A C;have ak:=ltOf d.out.1;go_wp2_with (at_builtin;refine wpList_append_own_at _ iP _ _ 177 iP (iS w.1+1) 183 V _ 3 48 underlying177 W Y a1 a6 iP Ae (.slice Q j q) j (DK (L.take j)) iP (d.out.2.1.alloc _) (iJ wr.1.size) 1 1 [iL 0,x7 t,um su 0 0] iP iP ?c1 ?c2 ?c3 ?c4 ?c5 ?_)
   case c1=>exact k8 (sx wr _)
   case c2=>intro al K;simp at K;rcases K with rfl|rfl|rfl<;>rfl
   case c3=>unfold maxLen;omega
   case c4=>omega
   case c5=>simp;omega
   intro U k J D _ ad;have m:=hide (YM d.out.1 ab.out d.out.2.2 D);have M:Hid (k.ownsRow (iS w.1+1) 183 3 U (j+1) (DK (L.take (j+1)))):=by rwa[bj.out,OX]
   have c6:=Vx (w:=k) 2 m.out.1;have f6:=Fk1 (w:=k) 2 m.out.1;obtain⟨c,x,G,ae⟩:∃c x G,U=um c x G:=by
    rcases J.2 with⟨E,F⟩|⟨g,I,e,E,_⟩
    ·exact⟨_,_,_,E⟩
    ·exact⟨_,_,_,E⟩
   subst ae;obtain⟨h,af⟩:∃h,k.setCell (iK w.1.size 2) (um c x G)=h:=⟨_,iP⟩;have B:B8 k h w.1.size #[iL 0,x7 iN,um c x G] 183:=by
    rw[←af];have:=(B8.refl m.out.1).set 2 (um c x G);simpa using this
   have ah:Hid (h.1[iS w.1]?=ni (jf #[iL 0,x7 iN,um c x G] 183)/\h.ownsRow (iS w.1+1) 183 3 (um c x G) (j+1) (DK (L.take (j+1)))/\iM w h):=by
    refine⟨B.blk,?_,m.out.2.grown B.grown (by have:=ltOf m.out.1;omega) (λn hi=>by cases hi;exact aB _)⟩;refine⟨M.out.1,?_⟩;rcases M.out.2 with⟨E,F⟩|⟨R,I,e,E,S,i,ai⟩
    ·exact p8 ⟨E,F⟩
    ·exact n9 ⟨R,I,e,E,S,(B.grown.block R (ltOf i) (λe1=>by injection e1;omega)).trans i,ai⟩
   clear J D ad B;go_wp2;go_roundw
   case rel=>exact⟨j+1,um c x G,Aa,by go_num,ah.out⟩
   case measure=>first|(simp[intOf];done)|(simp[intOf];omega)
open Go.Maps
def Kh(L:List Nd):Prop:=L.Pairwise λx y=>¬GU y x<0
def Ts(L):(Fp L).length=iR L * 6:=by
 induction L with
 |nil=>rfl
 |cons x L O=>
  have e:Fp (x::L)=x.cs.toList++Fp L:=iP;rw[e,aM,O,aU];simp;omega
def Afc(w b v L)(K:iR L<=1000)(O:w.ownsRow b 87 6 v (iR L) (Fp L))(r)(D:ri b r w):sf prog 50 #[v,.func (.func 51) #[] #[]] w λe B=>e=xr (my #[])/\ri b r B/\∃p,p.Perm L/\Kh p/\B.ownsRow b 87 6 v (iR p) (Fp p):=by
 rcases O.2 with⟨rfl,F⟩|⟨g,I,H,rfl,o,G,S,t,f,R⟩
 ·apply(AnyF.slices_SortFunc_none Tryz.lays6 su 0 _ w).mono;rintro e B⟨rfl,rfl⟩;have c:L = []:=fG F;subst c;exact⟨iP,D,[],gV _,List.Pairwise.nil,O⟩
 ·have N:Go.Sort.HoldsK (λx:Nd=>x.cs.toList) 6 w g 0 L.toArray:=λj l=>by
   have h:j<iR L * 6:=by simpa using l
   rw[aY];refine⟨?_,Dr G⟩;have C:(H.toList.take (iR L * 6))[j]?=(Fp L)[j]?:=by rw[R]
   rw[eK,aJ h,O2 L j h]at C;rw[ia _ _ _ _ HI];exact cellOf G (by simpa using C)
  have:=AnyQ.slices_SortFunc Tryz.lays6 6 isAgg87 sizeOf87 (λx:Nd=>x.cs.toList) (λx=>rfl) (λx v q=>by simp at q;rcases q with rfl|rfl|rfl|rfl|rfl|rfl<;>rfl) GU Afm 51 #[] g 0 I L.toArray w (enters_of func51 Ab iP) (λu i T s x y=>(IT _ x y).mono λe B⟨C,J⟩=>⟨C,0,#[jf x.cs 87,jf y.cs 87],by rw[J];rfl⟩) N (ltOf G) Ah;apply this.mono;rintro e B⟨rfl,M,n,i,Q,s,rfl⟩;have d:M.size=iR L:=by simpa using Q.1
  have U:M.toList.Perm L:=by
   have:=Q.2.2;simp at this
   rwa[bN (by simp[d])]at this
  refine⟨iP,⟨D.os,D.tape,D.output,?_,λk E=>?_⟩,M.toList,U,?_,?_⟩
  ·have:=D.size;simp[sortWorldK,Go.Sort.putRowK,Go.Sort.grow,Go.Sort.putRow,ft,Go.Sort.ahead];omega
  ·rw[←D.block k E]
   show((w.1.modify g _)++i)[k]?=_;rw[dJ HL,bS,aL Aa]
  ·refine List.pairwise_iff_getElem.2 λm j V l W=>?_;have:=s m j (bE _) W (by simpa[d] using l);rw[getElem!_pos M m (by simpa using V),getElem!_pos M j (by simpa using l)]at this;simpa[_root_.Go.Proofs.ltOf] using this
  ·have a:iR M.toList=iR L:=by simpa using d
   refine⟨by rw[Ts],n9 ⟨g,I,me id 0 (Go.Sort.flatK (λx:Nd=>x.cs.toList) 6 M) H,by rw[a],o,?_,by rwa[a],t,?_,?_⟩⟩
   ·show((w.1.modify g _)++i)[g]?=_;exact A5v
   ·simp[me,f]
   ·refine bK λj=>?_;rw[a,eK];by_cases l:j<iR L * 6
    ·have Y:j<H.size:=by
      have C:(H.toList.take (iR L * 6)).length=iR L * 6:=by rw[R,(Ts L)]
      rw[eG]at C;simp at C;omega
     rw[aJ l,O2 _ j (by rwa[a])];simp only[me,cN,tbk,aO Y,aI,aY,bE,true_and,Go.Sort.size_flatK,d,l,bP,Nat.sub_zero,id];rw[ia _ _ _ _ (by rwa[d])]
    ·rw[aL l]
     symm
     rw[fS,Ts,a];omega
def Adm(q:w8×w8):Option Nd:=
 match q.2 with
 | h9 a=>match a.toList with
  | [x7 p,x7 d,x7 n,pq yi m,pq yi c,pq yi v]=>ni ⟨p,d,n,m,c,v⟩
  | _=>su
 | _=>su
def MW(c D):Adm (Tf (c,D))=ni D:=iP
def Adn(r:List (hU×Nd)):(r.map Tf).filterMap Adm=r.map pc6:=by
 induction r with
 |nil=>rfl
 |cons q r O=>
  rw[bA,fY (MW q.1 q.2),O]
  rfl
def RP{w h J t r}{K:O}{L x m o I}(f:∀a,K.ownBlock=ni a->a≠r/\Y w.1<=a)(b:Io h t r m R)(D:iM w h)(z:t<Y w.1)(d:J.ownsRow w.1.size 87 6 U (iR L+1) (Fp L++x.cs.toList))(G:((h.alloc I).alloc o).grownBy J K.ownBlock):Hid (J.ownsRow w.1.size 87 6 U (L++[x]).length (Fp (L++[x]))/\Io J t r m R/\iM w J):=by
 have s:=D.size;have Q:r<Y h.1:=by
  have ⟨X,i,n,c,c0,_,_,_,V,_⟩:=b.ex
  grind
 refine⟨by simpa[Fp] using d,b.keep ?_ ?_,((D.alloc s _).alloc Ah _).grown G Ah (λj l=>(f j l).2)⟩
 ·rw[G.block t Ah (λe=>Ai),rm _ _ _ Ah,rm _ _ _ Aa]
 ·rw[G.block r Ah (λe=>(f _ e.symm).1 iP),rm _ _ _ Ah,rm _ _ _ Q]
def All(w tb t num r)(l:Cj w tb t num r)(bc:iR r<=1000):sf prog 43 #[iI tb] w λE v=>(∃a8 L,E=xr a8/\L.Perm (r.map pc6)/\Kh L/\v.ownsRow w.1.size 87 6 a8 (iR L) (Fp L))/\iM w v:=by
 have c1:=Vx (w:=w) 1 l.blk;obtain⟨i0,ab,ad,ae,af⟩:=zu Tryz.info87;have aa:=l.map.len (t:=106) underlying106 3;rw[bU]at aa;have ah:=run_make (P:=prog) w 47 87 i0 _ Tryz.underlying47 ab ad .i64 .i64 (0:Int) (iR r:Int) Aa Aa (by rw[af];omega) Aa;simp only[Int.toNat_zero,dX,ae]at ah;obtain⟨P,A⟩:∃P,w.alloc (jf (madeCells Nd.zero.val.cells (iR r * 6)) 87)=P:=⟨_,iP⟩;rw[A]at ah;have O:Hid (iM w P):=by rw[←A];exact Be _ _
 have ao:Hid (P.ownsRow w.1.size 87 6 (um (ni (iJ w.1.size)) 0 (iR r)) 0 []):=by
  rw[←A];exact⟨iP,n9 ⟨iS w.1,iR r,_,iP,aB _,sx w _,bE _,Pc,by simp[madeCells,Value.cells],Ad⟩⟩
 have ai:iS w.1<iS P.1:=by rw[←A];simp
 have d1:P.cell? (iK tb 1)=ni (.map (ni t)):=(O.out.cell (p:=(iK tb 1)) (ltOf l.blk)).trans c1;obtain⟨aq,hr,hR⟩:=(l.map.of_block (O.out.block t l.map.lt)).rangeL (t:=106) underlying106;obtain⟨b,f⟩:∃b,P.alloc aq=b:=⟨_,iP⟩;have C:Hid (iM w b):=by rw[←f];exact O.out.alloc O.out.size _
 have H:Hid (b.ownsRow w.1.size 87 6 (um (ni (iJ w.1.size)) 0 (iR r)) 0 []):=by rw[←f];exact ao.out.alloc _
 rw[f]at hr hR;have HR:=hide hR;have ar:=hide l.map.lt;have au:=hide (eS ai);clear hR A f ai;generalize P.1.size=U at *;go_enter func43,ntmps43;go_wp2;go_loopw [3,5] (λnm pp wr=>∃L y,Hid (iR L+iR y<=iR r/\(∀x∈y,x∈r.map Tf)/\(L++y.filterMap Adm).Perm (r.map pc6))/\Hid (wr.ownsRow w.1.size 87 6 nm (iR L) (Fp L)/\Io wr t U (r.map Tf) y/\iM w wr)) (λ_ _ wr=>wr.rangeLeft t U)
 case atStart=>exact⟨[],r.map Tf,⟨Ad,λx hx=>hx,by rw[bR,Adn]⟩,H.out,HR.out,C.out⟩
 case round=>
  obtain⟨L,y,B,d⟩:=hrel;obtain⟨M,n,N⟩:∃M n,u3=um M (iR L) n:=by
   exact Ikx
  subst N;have av:=hide d.out.2.1.left_eq;rcases d.out.2.1.next (P:=prog) 0 with⟨F,aw⟩|⟨p,z,Q,K,aw,aj,ag,ax,bd⟩
  ·have b6:L.Perm (r.map pc6):=by
    have:=B.out.2.2;rw[F]at this;simpa using this
   have Y:Hid (sf prog 50 #[um M (iR L) n,.func (.func 51) #[] #[]] wr λE v=>E=xr (my #[])/\iM w v/\∃h,h.Perm (r.map pc6)/\Kh h/\v.ownsRow w.1.size 87 6 (um M (iR L) n) (iR h) (Fp h)):=
    (Afc wr w.1.size (um M (iR L) n) L (by have:=B.out.1;omega) d.out.1 w d.out.2.2).mono λE v⟨h1,h2,h,h3,h4,h5⟩=>⟨h1,h2,h,h3.trans b6,h4,h5⟩
   go_wp2_with fail;apply Y.out.mono;rintro E w3⟨rfl,j⟩;have T:=hide j;clear j;go_wp2;go_ret;obtain⟨j,h,h3,h4,h5⟩:=T.out;exact⟨⟨_,h,iP,h3,h4,h5⟩,j⟩
  ·have ak:p∈r.map Tf:=B.out.2.1 p (Q.subset (cH ..));obtain⟨⟨pk,px⟩,hq,rfl⟩:=aZ.1 ak;have aa:iR y=iR z+1:=by rw[←Q.length_eq];rfl
   have b7:Hid (∀x∈z,x∈r.map Tf):=λx hx=>B.out.2.1 x (Q.subset (cF _ hx));have al:(L++[px]++z.filterMap Adm).Perm (r.map pc6):=by
    have:=((gV L).append (Q.filterMap Adm)).trans B.out.2.2;rw[fY (MW pk px)]at this;simpa using this
   have b8:=hide al;clear al;have C:=hide (d.out.2.2.grown ag d.out.2.2.size (λbf hj=>by cases hj;exact au.out));have b9:=hide aj;have an:Hid (iR z<wr.rangeLeft t U/\iR L+1+iR z<=iR r):=⟨by rw[av.out];omega,by have:=B.out.1;omega⟩;have a7:Hid (iR L+1<=1000):=by have:=B.out.1;exact(by omega:iR L+1<=1000)
   have G:Hid (∀R,(um M (iR L) n).ownBlock=ni R->R≠U/\iS w.1<=R):=λR i=>by
    exact Fwo
   have q:Hid (K.ownsRow w.1.size 87 6 (um M (iR L) n) (iR L) (Fp L)):=by
    refine⟨d.out.1.1,?_⟩;rcases d.out.1.2 with⟨E,F⟩|⟨g,I,e,E,o,S,a6⟩
    ·exact p8 ⟨E,F⟩
    ·have:=G.out g (by rw[E];simp[yf]);exact n9 ⟨g,I,e,E,o,(ag.block g (ltOf S) (λk=>this.1 (by injection k))).trans S,a6⟩
   obtain⟨c,s,u,m,W,V⟩:=px;obtain⟨a,Z⟩:∃a,K.alloc (jf #[x7 c,x7 s,x7 u,iL m,iL W,iL V] 87)=a:=⟨_,iP⟩;have X:Hid (a.1[iS K.1]?=ni (jf #[x7 c,x7 s,x7 u,iL m,iL W,iL V] 87)):=by rw[←Z];exact sx _ _
   have ⟨b0,b1,b2,b3,b4,bg⟩:=My X.out iP;have ba:Hid ((a.alloc (jf #[x7 c,x7 s,x7 u,iL m,iL W,iL V] 87)).ownsRow w.1.size 87 6 (um M (iR L) n) (iR L) (Fp L)):=by rw[←Z];exact(q.out.alloc _).alloc _
   have bh:iS w.1<=iS a.1:=by rw[←Z];have:=C.out.size;simp;omega
   clear aj ag Q hq ax aa ak;go_wp2_with (at_builtin;refine wpList_append_own_at _ iP _ _ 47 iP w.1.size 87 i0 _ 6 72 Tryz.underlying47 ab ad ae af ?g0 Ae (.slice M (iR L) n) (iR L) (Fp L) iP ba.out (iJ a.1.size) 1 1 [x7 c,x7 s,x7 u,iL m,iL W,iL V] iP ?g1 ?g2 ?g3 ?g4 ?g5 ?g6 ?_)
   case g3=>first|exact⟨iP,iP,iP,iP,iP,iP⟩|(simp[Value.oneCell'];done)|trace_state
   case g4=>have:=a7.out;unfold maxLen;omega
   case g5=>have:=a7.out;omega
   case g6=>have:=a7.out;omega
   intro v' w6 J D _ bb;rw[←Z]at D;have HE:=hide (RP (x:=Nd.mk c s u m W V) G.out b9.out C.out ar.out J D);clear J D bb;go_wp2
   all_goals exact⟨⟨L++[Nd.mk c s u m W V],z,⟨by have:=an.out.2;simp;omega,b7.out,b8.out⟩,HE⟩,by rw[HE.out.2.1.left_eq];exact an.out.1⟩
open Go
def Aae{L s}(h:s∈Pg L):s∈L:=by
 unfold Pg at h;obtain⟨x,Z,rfl⟩:=aZ.1 h;have:=(fN _ _).mem_iff.1 Z;obtain⟨y,U,rfl⟩:=aZ.1 this;have e:(⟨y.data.toList.toArray⟩:hU)=y:=by cases y;simp
 rwa[e]
def MD{a s}(h:s∈kids a r):∃q∈r,s=Hw q.1:=by
 obtain⟨e,N,E⟩:=List.mem_filterMap.1 (Aae h);obtain⟨q,f,rfl⟩:=aZ.1 N;unfold Qk Tf at E;simp only at E;split at E
 ·exact⟨q,f,(aA E).symm⟩
 ·cases E
def Z5{path ns}:(kids path ns).length<=iR ns:=by
 unfold kids;rw[Ll];apply aF (List.length_filterMap_le _ _);simp
structure TrN(valid:gZ)(ns:List (hU×Nd)):Prop where
 nm:∀q∈ns,(Hw q.1).size<=24/\valid (Hw q.1)=tu/\q.2.data.size<=40
def VX{L}(h:∀s∈L,s.size<=24):(Orch.txB L).length<=iR L * 28:=by
 induction L with
 |nil=>simp[Orch.txB]
 |cons s L O=>
  have C:=O λx Z=>h x (cF _ Z);have J:=h s cH;have T:iR s.data.toList=s.size:=iP;rw[Orch.txB_cons,aM,aM,Orch.be_length,T,aU];omega
def V3(ks:iC)(k:O):List O:=open Classical in if k∈ks then ks else ks++[k]
def Aj3{w b g}(h:Ld w b g){s o p}(d:(Lit.int yi s).wf=tu)(O:(Lit.int yi o).wf=tu)(Q:p.size<=1000):sf prog 165 #[.map (ni b),Gp s p o] w λe B=>e=xr (my #[])/\Ld B b (V3 g (Gp s p o))/\Ax w B (· = b):=by
 obtain⟨l,K⟩:=RA d O Q;refine Abf w b s o p (λB=>Ld B b (V3 g (Gp s p o))/\Ax w B (· = b)) (λW c=>?_);have L:Ld W b g:=h.keep (c.block b (Bl.lt h));have z:∀{J},W.grownBy J (ni b)->Ax w J (· = b):=λG=>(Ax.of_below c (aB _)).trans (Ax.of_grown G (p8 iP));by_cases E:Gp s p o∈g
 ·obtain⟨A,C,M⟩:=fD E;have S:V3 g (Gp s p o)=g:=aJ E;rw[S];obtain⟨J,Y,a,G⟩:=Bl.put_old L Wm underlying92 K (val:=.agg #[]) (A:=A.map λk=>(k,h9 #[])) (C:=C.map λk=>(k,h9 #[])) (v:=h9 #[]) (by rw[M];simp);refine⟨J,Y,?_,z G⟩;have:Ld J b (A++Gp s p o::C):=by
   unfold Ld;simpa using a
  rwa[M]
 ·have S:V3 g (Gp s p o)=g++[Gp s p o]:=aL E;rw[S];obtain⟨J,Y,a,G⟩:=Bl.put_new L Wm underlying92 K (val:=.agg #[]) (λq f e=>by
   obtain⟨k,P,rfl⟩:=aZ.1 f;exact E (by rwa[←e]))
  refine⟨J,Y,?_,z G⟩;unfold Ld;simpa using a
def E9(ns:List (hU×Nd))(p:hU):Option Nd:=(ns.find? λq=>decide (q.1=p)).map pc6
def Fe{p}(h:E9 r p=ni x):(p,x)∈r:=by
 obtain⟨⟨a,b⟩,C,rfl⟩:=bB.1 h
 grind
def Hb{p}(h:E9 r p=su):∀q∈r,q.1≠p:=by
 unfold E9 at h;rw[Option.map_eq_none_iff,List.find?_eq_none]at h
 grind
def CJ(ns:List (hU×Nd))(p:hU):Int:=
 match E9 ns p with
 |some _=>9
 |none=>if(E9 ns (Ec p)).isSome then(if iR ns<32 then 0 else 12) else 10
def CK(ns:List (hU×Nd))(p:hU)(v:Int):Int:=
 match E9 ns p with
 |some x=>if Vb v x.version then 0 else 14
 |none=>10
def Yc(ns:List (hU×Nd))(p:hU)(v:Int):Int:=
 if p=⟨#[47]⟩ then 13 else
 match E9 ns p with
 |some x=>if Vb v x.version then(if(kids p ns).length=0 then 0 else 15) else 14
 |none=>10
section
variable {e:Z} {tb t:Nat} {num:Int} (h:Cj e tb t num r) (m:Int) (L:e.cell? ⟨1,0,su⟩=ni (iL m)) (a:1<Y e.1) (p d n:hU) (v:Int) (Q:p.size<=1000) (b:Hr p=tu) (y:d.size<=40) (z:n.size<=10)
include h L a Q b y z
def WZ:S prog 92 #[iI tb,Mx 3 p d n v] e λc B=>c=xr (iL (CK r p v))/\iM e B:=by
 have g:=Ny e tb p d n v (λf=>f=CK r p v) 3 150 (n9 (n9 ⟨iP,iP⟩)) (λW k=>?_)
 ·grind
 cases Z:E9 r p with
 |some x=>
  apply(Xl W tb 3 p d n v x.path x.data x.note x.made x.changed x.version 0 (p8 iP) Aa Ai2).mono;rintro c B⟨rfl,D⟩;exact⟨⟨_,iP,by simp[CK,Z]⟩,D⟩
 |none=>
  apply(Xl W tb 3 p d n v _ _ _ _ _ _ 10 (n9 iP) Aa Ai4).mono;rintro c B⟨rfl,D⟩;exact⟨⟨_,iP,by simp[CK,Z]⟩,D⟩
def WX(j:Eb p=tu):S prog 92 #[iI tb,Mx 1 p d n v] e λc B=>c=xr (iL (CJ r p))/\iM e B:=by
 have q:=Ny e tb p d n v (λg=>g=CJ r p) 1 148 (p8 ⟨iP,iP⟩) (λW k=>?_)
 ·grind
 have V:=h.below k (ltOf h.blk) h.map.lt;cases Z:E9 r p with
 |some x=>
  apply(Uo W tb 1 p d n v x.path x.data x.note x.made x.changed x.version Aa Aa t (T V.blk iP) (ltOf V.blk) Ai2).mono;rintro c B⟨rfl,D⟩;exact⟨⟨9,iP,by simp[CJ,Z]⟩,D⟩
 |none=>
  have C:(Ec p).size<=1000:=by
   unfold Ec;split
   ·decide
   ·rw[cM];omega
  obtain⟨l,K⟩:=Ac9 C;obtain⟨f,U⟩:∃(f:Nd),∀J,iM W J->(Instr.lookup 106 (.map (ni t)) (x7 (Ec p)) tu).run prog J=.ok (my #[f.val,vp (E9 r (Ec p)).isSome]) J:=by
   cases U:E9 r (Ec p) with
   |some f=>exact⟨f,λJ E=>(V.map.of_block (E.block _ V.map.lt)).look_some tu IH underlying106 K (aZ.2 ⟨_,Fe U,iP⟩)⟩
   |none=>
    refine⟨Nd.zero,λJ E=>(V.map.of_block (E.block _ V.map.lt)).look_none tu IH underlying106 (Af4 J) K (λs i=>?_)⟩;obtain⟨o,N,rfl⟩:=aZ.1 i;intro c;injection c with c;exact Hb U o N c
  refine(Zi W tb 1 p d n v _ _ _ _ _ _ Aa Aa t (T V.blk iP) (ltOf V.blk) (Ec p) f.path f.data f.note f.made f.changed f.version (E9 r (Ec p)).isSome (iR r) Ai4 (λJ=>Tt J p Aa j) (λJ E=>⟨U J E,?_⟩)).mono ?_
  ·have:=(V.map.of_block (E.block _ V.map.lt)).len underlying106 3
   grind
  ·rintro c B⟨rfl,D⟩;exact⟨⟨_,iP,by simp[CJ,Z]⟩,D⟩
def WY(U:r.length<=1000)(i:∀q∈r,q.1.size<=1000/\Eb q.1=tu):sf prog 92 #[iI tb,Mx 2 p d n v] e λc B=>c=xr (iL (Yc r p v))/\iM e B:=by
 have j:=Ny e tb p d n v (λf=>f=Yc r p v) 2 149 (n9 (p8 ⟨iP,iP⟩)) (λW k=>?_)
 ·grind
 by_cases Y:p=⟨#[47]⟩
 ·subst Y;apply(Wc W tb 2 d n v).mono;rintro c B⟨rfl,D⟩;exact⟨⟨13,iP,by simp[Yc]⟩,D⟩
 ·have V:=h.below k (ltOf h.blk) h.map.lt;have C:∀J,iM W J->sf prog 167 #[iI tb,x7 p] J λc B=>(∃g f,c=xr (um g (kids p r).length f))/\iM J B:=λJ E=>by
   apply(P4 J tb t num r (V.below E (ltOf V.blk) V.map.lt) p U i).mono;rintro c B⟨⟨x,rfl,O⟩,D⟩;refine⟨?_,D⟩;rcases O.2 with⟨rfl,F⟩|⟨l,I,H,rfl,_⟩
   ·grind
   ·exact⟨_,_,iP⟩
  cases Z:E9 r p with
  | some x=>
   apply(P3 W tb 2 p d n v x.path x.data x.note x.made x.changed x.version 0 (p8 iP) Y (kids p r).length C Ai2).mono;rintro c B⟨rfl,D⟩;exact⟨⟨_,iP,by simp[Yc,Z,Y]⟩,D⟩
  | none=>
   apply(P3 W tb 2 p d n v _ _ _ _ _ _ 10 (n9 iP) Y (kids p r).length C Ai4).mono;rintro c B⟨rfl,D⟩;exact⟨⟨_,iP,by simp[Yc,Z,Y]⟩,D⟩
end
def QW(w):S prog 196 #[iL 1] w λe B=>e=xr (vp o9)/\B=w:=by
 go_enter func196,ntmps196;go_wp2;go_ret;exact⟨iP,iP⟩
def Aai(K)(c s u:hU)(m W V k):sf prog 169 #[h9 #[x7 c,x7 s,x7 u,iL m,iL W,iL V],iL k] K λe B=>(∃lv,e=xr lv/\D9 B (λb=>Y K.1<=b/\b<Y B.1) [.mk 0 iN [Orch.num m,Orch.num W,Orch.num V,Orch.num k]] lv)/\iM K B:=by
 obtain⟨a,Z⟩:∃a,K.alloc (jf #[x7 c,x7 s,x7 u,iL m,iL W,iL V] 87)=a:=⟨_,iP⟩;have X:Hid (a.1[Y K.1]?=ni (jf #[x7 c,x7 s,x7 u,iL m,iL W,iL V] 87)):=by rw[←Z];exact sx _ _
 have O:Hid (iM K a):=by rw[←Z];exact Be _ _
 have ⟨_,_,_,S,n,h⟩:=My X.out iP;obtain⟨d,I⟩:∃d,a.alloc (jf #[iL m,x7 iN,um su 0 0,iL W,x7 iN,um su 0 0,iL V,x7 iN,um su 0 0,iL k,x7 iN,um su 0 0] 183)=d:=⟨_,iP⟩;have H:Hid (D9 d (λb=>Y K.1<=b/\b<Y d.1) [Orch.num m,Orch.num W,Orch.num V,Orch.num k] (um (ni (iJ a.1.size)) 4 4)):=by
  rw[←I];exact Nu a [(Orch.num m,um su 0 0),(Orch.num W,um su 0 0),(Orch.num V,um su 0 0),(Orch.num k,um su 0 0)] _ Ad _ Aq 183 4 iP _ iP HH (by
   intro p f;simp at f;rcases f with rfl|rfl|rfl|rfl<;>exact .nil su 0)
 have C:Hid (iM K d):=An;have E:=hide (Nu d [(.mk 0 iN [Orch.num m,Orch.num W,Orch.num V,Orch.num k],um (ni (iJ a.1.size)) 4 4)] (λb=>Y K.1<=b/\b<(d.alloc (jf #[iL 0,x7 iN,um (ni (iJ a.1.size)) 4 4] 183)).1.size) Ad #[iL 0,x7 iN,um (ni (iJ a.1.size)) 4 4] Aq 183 1 iP _ iP Aa5 (by
  intro p f;simp at f;subst f;exact H.out.congr (λb D=>Ah) (λb D=>rm _ _ _ D.2)))
 exact Ley
def Ams{w S x b}(h:D9 w S [x] b):∃g I p,b=um (ni (iJ g)) 1 I/\S g/\w.cell? (iJ g)=ni (iL x.n)/\w.cell? (iK g 1)=ni (x7 x.s)/\w.cell? (iK g 2)=ni p/\D9 w S x.l p:=by
 generalize K:[x]=l at h;cases h with
 |nil a c=>cases K
 |row d g I F C H M Y=>
  match d,K with
  |[q],K=>
   obtain rfl:x=q.1:=by simpa using K
   exact⟨g,I,q.2,iP,H,(M 0 _ iP),(M 1 _ iP),(M 2 _ iP),Y q Ad⟩
def QG(w)(c s u:hU)(m W V k):sf prog 168 #[iL 1,h9 #[x7 c,x7 s,x7 u,iL m,iL W,iL V],iL k] w λe B=>(∃lv,e=xr lv/\D9 B (λd=>d<iS B.1) [Orch.txt s,.mk 0 iN [Orch.num m,Orch.num W,Orch.num V,Orch.num k]] lv)/\iM w B:=by
 obtain⟨a,Z⟩:∃a,w.alloc (jf #[x7 c,x7 s,x7 u,iL m,iL W,iL V] 87)=a:=⟨_,iP⟩;have X:Hid (a.1[iS w.1]?=ni (jf #[x7 c,x7 s,x7 u,iL m,iL W,iL V] 87)):=by rw[←Z];exact sx _ _
 have O:Hid (iM w a):=by rw[←Z];exact Be _ _
 have v:=Vx (w:=a) 1 X.out;obtain⟨b,f⟩:∃b,a.alloc (jf #[iL 0,x7 s,um su 0 0] 183)=b:=⟨_,iP⟩;have y:Hid (b.1[iS w.1]?=ni (jf #[x7 c,x7 s,x7 u,iL m,iL W,iL V] 87)):=by rw[←f];exact(rm _ _ _ (ltOf X.out)).trans X.out
 have A:Hid (b.1[iS a.1]?=ni (jf #[iL 0,x7 s,um su 0 0] 183)):=by rw[←f];exact sx _ _
 have C:Hid (iM w b):=by rw[←f];exact O.out.alloc O.out.size _
 have H:iS w.1<iS a.1:=ltOf X.out;have Y:iS a.1<iS b.1:=ltOf A.out;have ⟨b0,b1,b2,b3,b4,b5⟩:=My y.out iP;have z:=hide (Aai b c s u m W V k);obtain⟨E,K,M,N,T⟩:=zu Tryz.info183;go_enter func168,ntmps168;go_wp2_with (first
  |(go_at_call 196;apply((hide QW).out _).mono;rintro e w5⟨rfl,rfl⟩)
  |(go_at_call 169;apply z.out.mono;rintro e L⟨⟨lv,rfl,q⟩,F⟩;obtain⟨P,Q,p,rfl,ab,c0,c1,c2,I⟩:=Ams q;have i:=hide I;have t:=hide F;have R:=hide ((F.block _ Y).trans A.out);have ag:Hid (L.ownsRow w.1.size 183 3 (um (ni (iJ a.1.size)) 1 1) 1 [iL 0,x7 s,um su 0 0]):=⟨iP,n9 ⟨iS a.1,1,_,iP,eS H,R.out,aB _,Ae,iP,iP⟩⟩;clear q I F)
  |(at_builtin;refine wpList_append_own_at _ iP _ _ 177 iP w.1.size 183 E _ 3 48 underlying177 K M N T iP Ae (.slice (ni (iJ a.1.size)) 1 1) 1 [iL 0,x7 s,um su 0 0] iP ag.out (iJ P) 1 Q [iL 0,x7 iN,p] iP iP ?c1 ?c2 ?c3 ?c4 ?c5 ?_))
 case c1=>
  intro j g l
  match j,l with
  |0,l=>simp at l;subst l;exact c0
  |1,l=>simp at l;subst l;exact c1
  |2,l=>simp at l;subst l;exact c2
 case c2=>
  intro g r;simp at r;rcases r with rfl|rfl|rfl
  ·rfl
  ·rfl
  ·obtain⟨ma,mc,S⟩:=i.out.shape;rw[S];rfl
 case c3=>unfold maxLen;omega
 case c4=>omega
 case c5=>exact aF C.out.size t.out.size
 intro U n J D _ a6;have ad:=t.out.size;have ae:iS a.1<iS L.1:=Aa;have o:Hid (D9 n (λd=>d<iS n.1) [Orch.txt s,.mk 0 iN [Orch.num m,Orch.num W,Orch.num V,Orch.num k]] U/\iM w n):=by
  refine⟨?_,((C.out.trans (t.out.mono C.out.size)).grown D (by have:=C.out.size;omega) (λj l=>by simp[yf]at l;omega))⟩;obtain⟨h0,⟨e,h1⟩|⟨a7,a8,aa,e,af,G,hc,hm,hs,aj⟩⟩:=J
  ·cases h1
  ·subst e;exact D9.row (w:=n) (S:=λd=>d<iS n.1) [(Orch.txt s,um su 0 0),(.mk 0 iN [Orch.num m,Orch.num W,Orch.num V,Orch.num k],p)] a7 a8 Ad (by simpa using hc) (ltOf G) (λj g l=>by
    have ah:j<6:=by simpa[Eo] using(aD.1 l).1
    have a1:(aa.toList.take (2 * 3))[j]?=ni g:=by rwa[aj]
    rw[dE Aa,cN]at a1;exact cellOf G a1) (λai x=>by
    simp at x;rcases x with rfl|rfl
    ·exact .nil su 0
    ·exact(i.out.congr (λd h=>aC h.2 D.size) (λd h=>D.block d h.2 (λe=>by simp[yf]at e;omega))))
 clear J D a6;go_wp2;go_ret;exact⟨⟨_,iP,o.out.1⟩,o.out.2⟩
def Ag6(w s W o p c)(M:w.cell? (iJ c)=ni (iL s))(d:c<Y w.1):S prog 124 #[Gp W p o,h9 #[],iI c] w λe B=>e=xr (vp (W==s))/\iM w B:=by
 obtain⟨a,Z⟩:∃a,w.alloc (jf #[iL W,x7 p,iL o] 189)=a:=⟨_,iP⟩;have X:Hid (a.1[Y w.1]?=ni (jf #[iL W,x7 p,iL o] 189)):=by rw[←Z];exact sx _ _
 have O:Hid (iM w a):=by rw[←Z];exact Be _ _
 obtain⟨b,f⟩:∃b,a.alloc (jf #[] 119)=b:=⟨_,iP⟩;have h:Hid (b.1[Y w.1]?=ni (jf #[iL W,x7 p,iL o] 189)):=by rw[←f];exact(rm _ _ _ (N X.out)).trans X.out
 have C:Hid (iM w b):=by rw[←f];exact O.out.alloc O.out.size _
 have H:=Vx (w:=b) 0 h.out;have x:=(C.out.cell d).trans M;go_enter func124,ntmps124;go_wp2;go_ret;exact⟨iP,C.out⟩
def MC(s:Int)(k:O):Prop:=∀p o,k≠Gp s p o
def GX(s:Int)(ks:iC):List O:=open Classical in ks.filter λk=>decide (MC s k)
def Uh(k:O):Prop:=∃s p o,k=Gp s p o/\(Lit.int yi s).wf=tu/\(Lit.int yi o).wf=tu/\p.size<=1000
def EK{s W o p}:MC s (Gp W p o)↔W≠s:=by
 constructor
 ·intro h e;subst e;exact h p o iP
 ·intro h u I e
  grind
def Ms(q:hU)(par:Bool):hU:=if par then Ec q else q
def Fg(s:Int)(q:hU):List Tl->List O->List (Int×hU)×List O
 |[],ks=>([],ks)
 |x::T,ks=>open Classical in
  if Gp s (Ms q x.2.1) x.1∈ks then
   ((x.2.2,Ms q x.2.1)::(Fg s q T (ks.filter λk=>k≠Gp s (Ms q x.2.1) x.1)).1,(Fg s q T (ks.filter λk=>k≠Gp s (Ms q x.2.1) x.1)).2)
  else Fg s q T ks
def PF(E:List (Int×hU)):List O:=E.flatMap λe=>[iL e.1,x7 e.2]
def QN(E e):PF (E++[e])=PF E++[iL e.1,x7 e.2]:=by simp[PF]
def HY{A C:iC}{k}(z:(A++k::C).Nodup):open Classical in(A++k::C).filter (λx=>x≠k)=A++C:=by
 classical
 rw[fH]at z;have ⟨d,J,T⟩:=z;rw[fZ,List.filter_cons_of_neg Ad]
 congr 1
 ·simp_all
 ·refine fO.2 λx Z=>?_
  grind
def Ad6{w:Z}{b a e size n:Nat}{x}{X:iC}(h:w.ownsRow b e size x n X)(D:a<=b):w.ownsRow a e size x n X:=by
 obtain⟨F,C|⟨g,I,H,C,J,T⟩⟩:=h
 ·exact⟨F,p8 C⟩
 ·exact⟨F,n9 ⟨g,I,H,C,aF D J,T⟩⟩
def Pj(w:Z)(B:Nat)(v:O)(L:List Nd):Prop:=
 ∃b cap,v=um (ni (iJ b)) (iR L) cap/\iR L<=cap/\b<B/\∀i (h:i<iR L) j u,(L[i].cs)[j]?=ni u->w.cell? ⟨b,i * 6+j,su⟩=ni u
def Pj.below{B w a v L}(h:Pj w B v L)(D:ri B w a):Pj a B v L:=by
 have ⟨b,I,e,M,Y,z⟩:=h;exact⟨b,I,e,M,Y,λi V j u r=>(D.cell (p:=⟨b,i * 6+j,su⟩) Y).trans (z i V j u r)⟩
def Pj.of{a w v L}(h:w.ownsRow a 87 6 v (iR L) (Fp L))(F:0<iR L):Pj w w.1.size v L:=by
 rcases h.2 with⟨rfl,e⟩|⟨g,I,H,rfl,o,G,S,t,f,R⟩
 ·omega
 ·refine⟨g,I,iP,S,N G,λi V j u r=>?_⟩;have l:j<6:=(aH.1 r).1;have E:i * 6+j<iR L * 6:=Aa;have C:(H.toList.take (iR L * 6))[i * 6+j]?=(Fp L)[i * 6+j]?:=by rw[R]
  rw[eK,aJ E,O2 L _ E]at C;have b:(i * 6+j) / 6=i:=Aa;have c:(i * 6+j) % 6=j:=Aa;rw[b,c]at C;have Y:L.toArray[i]! = L[i]:=by simp[V]
  rw[Y]at C;have s:L[i].cs.toList[j]! = u:=by
   grind
  rw[s]at C;exact T G (by simpa using C)
def JK(w a M r)(d:Pj w w.1.size a r)(D:Pj w w.1.size M r)(z:iR r<=1000000):sf prog 29 #[a,M] w λe b=>e=xr (vp tu)/\iM w b:=by
 have X:Hid (∀W,iM w W->Pj W w.1.size a r):=λW h=>d.below h;have o:Hid (∀W,iM w W->Pj W w.1.size M r):=λW h=>D.below h;obtain⟨c,I,rfl,C,y,_⟩:=d;obtain⟨j,L,rfl,q,p,_⟩:=D;go_enter func29,ntmps29;go_wp2_with fail;go_loopw [5] (λi wr=>∃k,k<=iR r/\i=iL k/\Hid (iM w wr)) (λi _=>iR r - (intOf i).toNat)
 case atStart=>exact⟨0,bE _,iP,nq _ _⟩
 case round=>
  obtain⟨k,E,rfl,n⟩:=hrel;by_cases Y:k<iR r
  ·have N:(k:Int)<(iR r:Int):=Aa;obtain⟨P,m,S,_,_,g⟩:=X.out wr n.out;obtain⟨G,t,v,_,_,f⟩:=o.out wr n.out;simp only[Value.slice.injEq,aW,Addr.mk.injEq]at S v;obtain⟨⟨rfl,_,_⟩,_,rfl⟩:=S;obtain⟨⟨rfl,_,_⟩,_,rfl⟩:=v;have c0:=g k Y 0 _ iP;have Q:=g k Y 1 _ iP;have R:=g k Y 2 _ iP;have U:=g k Y 3 _ iP;have u:=g k Y 4 _ iP;have l:=g k Y 5 _ iP;have A:=f k Y 0 _ iP;have Z:=f k Y 1 _ iP;have T:=f k Y 2 _ iP;have F:=f k Y 3 _ iP;have H:=f k Y 4 _ iP;have K:=f k Y 5 _ iP;rw[Nat.add_zero]at c0 A;clear g f;generalize r[k]=x at *;obtain⟨J,s,O,a1,B,V⟩:=x;go_wp2_with fail;go_region
   all_goals go_wp2_with fail
   all_goals go_roundw
   all_goals first
    |exact⟨k+1,Aa,by go_num,n.out.drew⟩
    |(simp[intOf];done)
    |(simp[intOf];omega)
  ·have N:¬(k:Int)<(iR r:Int):=Aa;go_wp2;go_ret;exact⟨iP,n.out⟩
def JO{L p}(h:L.Perm p)(s:Kh L)(v:Kh p)(z:(L.map Nd.path).Nodup):L=p:=by
 refine fX (le:=λx y=>¬GU y x<0) (λa b d D C J=>?_) s v h;have e:a.path.data.toList=b.path.data.toList:=by
  unfold GU at C J;rw[Up,List.not_lt]at C J;exact List.le_antisymm C J
 have g:a.path=b.path:=by
  have:a.path.data=b.path.data:=Array.ext' e;cases Q:a.path;simp_all
 obtain⟨i,V,rfl⟩:=eO.1 d;obtain⟨j,l,rfl⟩:=eO.1 (h.symm.subset D);have c:(L.map Nd.path)[i]?=ni L[i].path:=Ai;have k:(L.map Nd.path)[j]?=ni L[i].path:=Ai;have:i=j:=(List.getElem?_inj (by simpa using V) z).1 (c.trans k.symm);subst this
 rfl
def NI{w:Z}{B G n v}{X:iC}(h:w.ownsRow B e k v n X)(a:G<=B):w.ownsRow G e k v n X:=by
 obtain⟨F,⟨rfl,C⟩|⟨g,I,H,rfl,J,T⟩⟩:=h
 ·exact⟨F,p8 ⟨iP,C⟩⟩
 ·exact⟨F,n9 ⟨g,I,H,iP,aF a J,T⟩⟩
def Aap(w z c t num r)(a:w.cell? (iK z 1)=ni (iI c))(b:z<Y w.1)(h:Cj w c t num r)(U:iR r<=1000):S prog 33 #[iI z] w λe B=>(∃v L,e=xr (my #[iL num,v])/\L.Perm (r.map pc6)/\Kh L/\B.ownsRow w.1.size 87 6 v (iR L) (Fp L))/\iM w B:=by
 have d:Hid (∀W,iM w W->S prog 42 #[iI c] W λe B=>e=xr (iL num)/\B=W):=λW D=>Kd W c t num r (h.below D (N h.blk) h.map.lt);have f:Hid (∀W,iM w W->S prog 43 #[iI c] W λe B=>(∃v L,e=xr v/\L.Perm (r.map pc6)/\Kh L/\B.ownsRow w.1.size 87 6 v (iR L) (Fp L))/\iM w B):=λW D=>(All W c t num r (h.below D (N h.blk) h.map.lt) U).mono λe B⟨⟨v,L,C,T,g,i⟩,J⟩=>⟨⟨v,L,C,T,g,NI i D.size⟩,D.trans (J.mono D.size)⟩;have HB:Hid (iM w w):=nq _ _;have j:Hid (∀W,iM w W->W.cell? (iK z 1)=ni (iI c)):=λW D=>(D.cell (p:=(iK z 1)) b).trans a;go_enter func33,ntmps33;go_wp2_with fail;go_region_held3 (λB=>B.cell? (iK z 1)=ni (iI c)) (first|(go_keep;done)|assumption) (first|(go_at_call 42;apply(d.out _ FB).mono;rintro e H⟨rfl,rfl⟩)|(go_at_call 43;apply(f.out _ FB).mono;rintro e H⟨⟨v,L,rfl,q⟩,M⟩;have O:=u M;have R:=u q;have k:=j.out _ M;clear M q));go_wp2_with fail;exact wj (v:=my #[iL num,v]) (by simp[qe,results33,go_sem]) iP ⟨⟨v,L,iP,R.out⟩,O.out⟩
def Aao(w P z b t num r)(V:w.cell? (iJ P)=ni (iI z))(M:w.cell? (iK z 1)=ni (iI b))(Y:z<iS w.1)(h:Cj w b t num r)(U:iR r<=1000):sf prog 18 #[iI P] w λe B=>(∃v L,e=xr (my #[iL num,v])/\L.Perm (r.map pc6)/\Kh L/\B.ownsRow w.1.size 87 6 v (iR L) (Fp L))/\iM w B:=by
 have o:=u (Aap w z b t num r M Y h U);go_enter func18,ntmps18;go_wp2_with (first|(go_at_call 26;apply(u (Rn w P _ V)).out.mono;rintro S H⟨rfl,rfl⟩)|(go_at_call 33;apply o.out.mono;rintro S H⟨⟨v,L,rfl,q⟩,D⟩;have c:=u D;have R:=u q;clear D q));exact wj (by simp[qe,results18,go_sem]) iP ⟨⟨v,L,iP,R.out⟩,c.out⟩
